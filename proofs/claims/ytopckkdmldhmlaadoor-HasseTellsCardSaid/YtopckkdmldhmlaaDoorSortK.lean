/-
  Sorting rows of at most 64 words: pdqsort. Conditions: the row's cells hold the words.
-/
import Derived.Test.YtopckkdmldhmlaaDoorSortJ
import Derived.BigRegion
import Derived.Deep.CutRange
namespace Go.Proofs.YtopckkdmldhmlaaDoor
open Go.RowKit RM
open Go.Sort hiding Below ahead

/-- What is shown of pdqsort at parts of at most m words. -/
def PdqAt (m : Nat) : Prop := ∀ (blk off cap n a b l : Nat) (d : Array Nat) (w : World), n ≤ 64 → a ≤ b → b ≤ n → b - a ≤ m → l ≤ 64 → Hid (d.size = n) → Hid (Holds eu w blk off d) → Hid (Bel a b d) →
  Calls Tryd.prog 62 #[.slice (some ⟨blk, off, none⟩) n cap, .int .i64 (a : Int), .int .i64 (b : Int), .int .i64 (l : Int)] w fun e w' => e = .returned (.tuple #[]) ∧ ∃ d', PermIn a b d d' ∧ SI a b d' ∧ Holds eu w' blk off d' ∧ Mut blk w w'
section
variable {blk off n a b p : Nat} {d : Array Nat} {w : World}
theorem insertion_n (cap : Nat) (HN : Hid (d.size = n)) (HH : Hid (Holds eu w blk off d)) (hab : a ≤ b) (hb : b ≤ n) (hn : n ≤ 64) :
    Calls Tryd.prog 66 #[.slice (some ⟨blk, off, none⟩) n cap, .int .i64 (a : Int), .int .i64 (b : Int)] w fun e w' => e = .returned (.tuple #[]) ∧ ∃ d', PermIn a b d d' ∧ SI a b d' ∧ Holds eu w' blk off d' ∧ Mut blk w w' := by
  obtain rfl := HN.out
  refine (insertion_any blk off cap a b d w HH.out hab hb hn).mono ?_
  rintro e w' ⟨rfl, h1, h2⟩
  obtain ⟨h3, h4⟩ := insertionSort_holds (lt := ltN) swo_ltN d a b hab hb
  exact ⟨rfl, _, h3, si_iff.1 h4, h1, h2⟩
theorem heap_n (cap : Nat) (HN : Hid (d.size = n)) (HH : Hid (Holds eu w blk off d)) (hab : a < b) (hb : b ≤ n) (hn : n ≤ 64) :
    Calls Tryd.prog 67 #[.slice (some ⟨blk, off, none⟩) n cap, .int .i64 (a : Int), .int .i64 (b : Int)] w fun e w' => e = .returned (.tuple #[]) ∧ ∃ d', PermIn a b d d' ∧ SI a b d' ∧ Holds eu w' blk off d' ∧ Mut blk w w' := by
  obtain rfl := HN.out
  refine (heap_any blk off cap a b d w HH.out hab hb hn).mono ?_
  rintro e w' ⟨rfl, h1, h2⟩
  obtain ⟨h3, h4⟩ := heapSort_holds (lt := ltN) swo_ltN d a b (Nat.le_of_lt hab) hb
  exact ⟨rfl, _, h3, si_iff.1 h4, h1, h2⟩
theorem reverse_n (cap : Nat) (HN : Hid (d.size = n)) (HH : Hid (Holds eu w blk off d)) (hab : a < b) (hb : b ≤ n) (hn : n ≤ 64) :
    Calls Tryd.prog 70 #[.slice (some ⟨blk, off, none⟩) n cap, .int .i64 (a : Int), .int .i64 (b : Int)] w fun e w' => e = .returned (.tuple #[]) ∧ ∃ d', PermIn a b d d' ∧ Holds eu w' blk off d' ∧ Mut blk w w' := by
  obtain rfl := HN.out
  refine (reverse_any blk off cap a b d w HH.out hab hb hn).mono ?_
  rintro e w' ⟨rfl, h1, h2⟩
  exact ⟨rfl, _, reverseRange_holds d a b (Nat.le_of_lt hab) hb, h1, h2⟩
theorem partial_n (cap : Nat) (HN : Hid (d.size = n)) (HH : Hid (Holds eu w blk off d)) (HB : Hid (Bel a b d)) (hab : a < b) (hb : b ≤ n) (hn : n ≤ 64) :
    Calls Tryd.prog 71 #[.slice (some ⟨blk, off, none⟩) n cap, .int .i64 (a : Int), .int .i64 (b : Int)] w fun e w' => ∃ (t : Bool) (d' : Array Nat), e = .returned (.bool t) ∧ PermIn a b d d' ∧ (t = true → SI a b d') ∧ Holds eu w' blk off d' ∧ Mut blk w w' := by
  refine (partial_any blk off n cap a b d w HN HH hab hb hn).mono ?_
  rintro e w' ⟨rfl, h1, h2⟩
  obtain ⟨h3, h4⟩ := partialInsertionSort_holds (lt := ltN) swo_ltN d a b hab (by rw [HN.out]; exact hb) (bel_iff.2 HB.out)
  exact ⟨_, _, rfl, h3, fun h => si_iff.1 (h4 h), h1, h2⟩
theorem parteq_n (cap : Nat) (HN : Hid (d.size = n)) (HH : Hid (Holds eu w blk off d)) (hp : a ≤ p) (hpb : p < b) (hb : b ≤ n) (hn : n ≤ 64) :
    Calls Tryd.prog 73 #[.slice (some ⟨blk, off, none⟩) n cap, .int .i64 (a : Int), .int .i64 (b : Int), .int .i64 (p : Int)] w fun e w' =>
      e = .returned (.int .i64 ((partitionEqual ltN d a b p).1 : Int)) ∧ Holds eu w' blk off (partitionEqual ltN d a b p).2 ∧ Mut blk w w' := by
  obtain ⟨c, rfl⟩ : ∃ c, b = c + 1 := ⟨b - 1, by omega⟩
  exact parteq_any blk off n cap a c p d w HN HH (by omega) (by omega) hn (by omega)
theorem part_n (cap : Nat) (HN : Hid (d.size = n)) (HH : Hid (Holds eu w blk off d)) (hp : a ≤ p) (hpb : p < b) (hb : b ≤ n) (hn : n ≤ 64) :
    Calls Tryd.prog 74 #[.slice (some ⟨blk, off, none⟩) n cap, .int .i64 (a : Int), .int .i64 (b : Int), .int .i64 (p : Int)] w fun e w' =>
      e = .returned (.tuple #[.int .i64 ((partition ltN d a b p).1 : Int), .bool (partition ltN d a b p).2.1]) ∧ Holds eu w' blk off (partition ltN d a b p).2.2 ∧ Mut blk w w' := by
  obtain ⟨c, rfl⟩ : ∃ c, b = c + 1 := ⟨b - 1, by omega⟩
  exact part_any blk off n cap a c p d w HN HH (by omega) (by omega) hn (by omega)
end

set_option maxRecDepth 8000 in
set_option maxHeartbeats 8000000 in
theorem pdq_step (m : Nat) (ih : ∀ k, k < m → PdqAt k) : PdqAt m := by
  intro blk off cap n a b l d w hn hab hb hm hl HN HH HB
  have IH := Lib.hid ih; clear ih
  have HC0 : Hid (Co a b d a b d) := Co.refl HB.out hab
  have HND := HN
  have hbd : Hid (b ≤ d.size) := by show b ≤ d.size; rw [HN.out]; exact hb
  clear HB
  go_enter Tryd.func62, Tryd.ntmps62
  go_wp2_with fail
  go_loopw [1, 2, 3, 8, 9, 10, 11, 12, 13, 14, 15, 16, 17, 18] (fun av bv lv ubv upv _ _ _ _ _ _ _ _ _ wr => ∃ (a' b' l' : Nat) (wb wp : Bool) (dk : Array Nat), av = .int .i64 a' ∧ bv = .int .i64 b' ∧ lv = .int .i64 l' ∧ ubv = .bool wb ∧ upv = .bool wp ∧ l' ≤ 64 ∧ Hid (Co a b d a' b' dk) ∧ Hid (Holds eu wr blk off dk) ∧ Hid (Mut blk w wr)) (fun av bv _ _ _ _ _ _ _ _ _ _ _ _ _ => (intOf bv).toNat - (intOf av).toNat)
  case atStart => exact ⟨a, b, l, true, true, d, rfl, rfl, rfl, rfl, rfl, hl, HC0, HH, Mut.refl _ _⟩
  case round =>
    clear HC0 HH HN hl
    obtain ⟨a', b', l', wb, wp, dk, rfl, rfl, rfl, rfl, rfl, hl', HC, HH, HM⟩ := hrel
    have ha1 : a ≤ a' := HC.out.ra
    have ha2 : a' ≤ b' := HC.out.rb
    have hb1 : b' ≤ b := HC.out.rc
    have HN : Hid (dk.size = n) := HC.out.size.trans HND.out
    obtain ⟨len, hlen⟩ : ∃ len, len = b' - a' := ⟨_, rfl⟩
    have e1 : (b' : Int) - (a' : Int) = (len : Int) := by omega
    have hlm : len ≤ m := by omega
    have hln : len ≤ n := by omega
    have HLN : Hid (a' + len = b') := by show a' + len = b'; omega
    clear hlen
    by_cases h12 : len ≤ 12
    · have hg : (len : Int) ≤ 12 := by omega
      go_wp2_with fail
      refine (insertion_n cap HN HH ha2 (by omega) hn).mono ?_
      rintro e w1 ⟨rfl, d', h3, h4, h5, h6⟩
      have HX := Lib.hid (HC.out.fin d' h3 h4)
      have HY := Lib.hid (And.intro h5 (HM.out.trans h6))
      clear h3 h4 h5 h6
      go_wp2_with fail
      exact bodyPost_ret (results_none rfl _ _ _) rfl ⟨rfl, d', HX.out.1, HX.out.2, HY.out.1, HY.out.2⟩
    · have hg : ¬ (len : Int) ≤ 12 := by omega
      have hab' : a' + 12 < b' := by have := HLN.out; omega
      by_cases hl0 : l' = 0
      · have hgl : (l' : Int) = 0 := by omega
        go_wp2_with fail
        refine (heap_n cap HN HH (by omega) (by omega) hn).mono ?_
        rintro e w1 ⟨rfl, d', h3, h4, h5, h6⟩
        have HX := Lib.hid (HC.out.fin d' h3 h4)
        have HY := Lib.hid (And.intro h5 (HM.out.trans h6))
        clear h3 h4 h5 h6
        go_wp2_with fail
        exact bodyPost_ret (results_none rfl _ _ _) rfl ⟨rfl, d', HX.out.1, HX.out.2, HY.out.1, HY.out.2⟩
      · have hgl : ¬ (l' : Int) = 0 := by omega
        go_upto_if 35 with fail
        go_cut [3] from 19 to 133 (fun lv wx => ∃ (l2 : Nat) (d1 : Array Nat), lv = .int .i64 l2 ∧ l2 ≤ 64 ∧ Hid (Co a b d a' b' d1) ∧ Hid (Holds eu wx blk off d1) ∧ Hid (Mut blk w wx))
        case first =>
          cases wb with
          | true =>
            go_wp2_with fail
            go_meet
            case rel => exact ⟨l', dk, rfl, hl', HC, HH, HM⟩
          | false =>
            go_wp2_with fail
            refine (break_any blk off n cap a' b' dk wr HN HH hab' (by omega) hn).mono ?_
            rintro e w1 ⟨rfl, d1, h3, h4, h5⟩
            have HC1 := Lib.hid (HC.out.perm h3 hbd.out)
            have HH1 := Lib.hid h4
            have HM1 := Lib.hid (HM.out.trans h5)
            clear h3 h4 h5
            have w1 := wr_in ((l' : Int) - 1) (by omega) (by omega)
            go_wp2_with fail
            go_meet
            case rel => exact ⟨l' - 1, d1, by go_num, by omega, HC1, HH1, HM1⟩
        case rest =>
          obtain ⟨l2, d1, rfl, hl2, HC1, HH1, HM1⟩ := hcut
          clear HC HH HM HN hgl hl0 hl'
          rename World => W1
          have HN1 : Hid (d1.size = n) := HC1.out.size.trans HND.out
          go_wp2_with fail
          refine (pivot_any blk off n cap a' b' d1 _ HN1 HH1 hab' (by omega) hn).mono ?_
          rintro e W2 ⟨x, h, rfl, hx1, hx2, hh, hbel⟩
          have HH2 := Lib.hid (holds_mut HH1.out (Mut.of_below hbel (blk + 1)) (by omega))
          have HM2 := Lib.hid (HM1.out.trans (Mut.of_below hbel blk))
          clear HH1 HM1 hbel
          go_upto_if 50 with fail
          go_cut [11, 12] from 19 to 133 (fun pv hv wx => ∃ (p h2 : Nat) (d2 : Array Nat), pv = .int .i64 p ∧ hv = .int .i64 h2 ∧ a' ≤ p ∧ p < b' ∧ Hid (Co a b d a' b' d2) ∧ Hid (Holds eu wx blk off d2) ∧ Hid (Mut blk w wx))
          case first =>
            by_cases hh2 : h = 2
            · have hgh : (h : Int) = 2 := by omega
              have hgb : ((h : Int) == 2) = true := by simp [hgh]
              obtain ⟨p2, hp2⟩ : ∃ p2, p2 = b' - 1 - (x - a') := ⟨_, rfl⟩
              have e7 : (b' : Int) - 1 - ((x : Int) - (a' : Int)) = (p2 : Int) := by omega
              have hp3 : a' ≤ p2 := by omega
              have hp4 : p2 < b' := by omega
              clear hp2 hh2
              go_wp2_with fail
              refine (reverse_n cap HN1 HH2 (by omega) (by omega) hn).mono ?_
              rintro e w1 ⟨rfl, d2, h3, h4, h5⟩
              have HC2 := Lib.hid (HC1.out.perm h3 hbd.out)
              have HH3 := Lib.hid h4
              have HM3 := Lib.hid (HM2.out.trans h5)
              clear h3 h4 h5
              have w1 := wr_in ((b' : Int) - 1) (by omega) (by omega)
              have w2 := wr_in ((x : Int) - (a' : Int)) (by omega) (by omega)
              have w3 := wr_in ((b' : Int) - 1 - ((x : Int) - (a' : Int))) (by omega) (by omega)
              go_wp2_with fail
              go_meet
              case rel => exact ⟨p2, 1, d2, by go_num, rfl, hp3, hp4, HC2, HH3, HM3⟩
            · have hgh : ¬ (h : Int) = 2 := by omega
              have hgb : ((h : Int) == 2) = false := by simp [hgh]
              go_wp2_with fail
              go_meet
              case rel => exact ⟨x, h, d1, rfl, rfl, hx1, hx2, HC1, HH2, HM2⟩
          case rest =>
            obtain ⟨p, h2, d2, rfl, rfl, hp1, hp2, HC2, HH3, HM3⟩ := hcut
            clear HC1 HH2 HM2 HN1 hx1 hx2 hh
            rename World => W3
            have HN2 : Hid (d2.size = n) := HC2.out.size.trans HND.out
            go_upto_region 15 with fail
            go_cut [68] from 19 to 133 (fun bv wx => ∃ t : Bool, bv = .bool t ∧ wx = W3)
            case first =>
              have hq : (h2 : Int) = 1 ∨ ¬ (h2 : Int) = 1 := by omega
              rcases hq with hq | hq
              · cases wb <;> cases wp <;> (go_wp2_with fail; go_meet; case rel => exact ⟨_, rfl, rfl⟩)
              · cases wb <;> cases wp <;> (go_wp2_with fail; go_meet; case rel => exact ⟨_, rfl, rfl⟩)
            case rest =>
              obtain ⟨t, rfl, rfl⟩ := hcut
              go_upto_if 68 with fail
              go_cut [9] from 19 to 133 (fun uv wx => uv = .bool wp ∧ ∃ d3 : Array Nat, Hid (Co a b d a' b' d3) ∧ Hid (Holds eu wx blk off d3) ∧ Hid (Mut blk w wx))
              case first =>
                cases t with
                | true =>
                  go_wp2_with fail
                  refine (partial_n cap HN2 HH3 (Lib.hid HC2.out.bel) (by omega) (by omega) hn).mono ?_
                  rintro e w1 ⟨t2, d3, rfl, h3, h4, h5, h6⟩
                  have HF := Lib.hid (fun h : t2 = true => HC2.out.fin d3 h3 (h4 h))
                  have HC3 := Lib.hid (HC2.out.perm h3 hbd.out)
                  have HH4 := Lib.hid h5
                  have HM4 := Lib.hid (HM3.out.trans h6)
                  clear h3 h4 h5 h6
                  cases t2 with
                  | true =>
                    have HX := Lib.hid (HF.out rfl); clear HF
                    go_wp2_with fail
                    exact bodyPost_ret (results_none rfl _ _ _) rfl ⟨rfl, d3, HX.out.1, HX.out.2, HH4.out, HM4.out⟩
                  | false =>
                    clear HF
                    go_wp2_with fail
                    go_meet
                    case rel => exact ⟨rfl, d3, HC3, HH4, HM4⟩
                | false =>
                  go_wp2_with fail
                  go_meet
                  case rel => exact ⟨rfl, d2, HC2, HH3, HM3⟩
              case rest =>
                obtain ⟨rfl, d3, HC3, HH3, HM3⟩ := hcut
                clear HC2 HN2
                rename World => W3
                have HN3 : Hid (d3.size = n) := HC3.out.size.trans HND.out
                go_upto_region 17 with fail
                go_cut [87] from 19 to 133 (fun bv wx => ∃ t : Bool, bv = .bool t ∧ (t = true → 0 < a' ∧ d3[p]! ≤ d3[a' - 1]!) ∧ wx = W3.drew)
                case first =>
                  by_cases h0 : 0 < a'
                  · obtain ⟨k, hk⟩ : ∃ k, k = a' - 1 := ⟨_, rfl⟩
                    obtain ⟨x, HX, hc1, hf1⟩ := at_cell HN3 HH3 k (by omega)
                    obtain ⟨y, HY, hc2, hf2⟩ := at_cell HN3 HH3 p (by omega)
                    obtain ⟨S, HS, c1, c2, PS⟩ := ex_cells2 hc1 hc2 HH3 HM3
                    have hg0 : (0 : Int) < (a' : Int) := by omega
                    have e6 : (a' : Int) - 1 = (k : Int) := by omega
                    have w3 := wr_in (k : Int) (by omega) (by omega)
                    have hr1 : (k : Int) < (n : Int) := by omega
                    have hr2 : (p : Int) < (n : Int) := by omega
                    have hl : ∃ t, ltN x y = t := ⟨_, rfl⟩
                    obtain ⟨t, hl⟩ := hl
                    have HL := Lib.hid hl; clear hl
                    have HK := Lib.hid hk; clear hk
                    have H0 : Hid (0 < a') := h0
                    refine wp_region_ord S [(0, true), (1, true), (2, true), (3, true), (4, true), (5, true), (6, true), (7, true), (8, true), (9, true), (10, true), (11, true), (12, false), (13, true), (14, true)] (by kernel_rfl) (by kernel_rfl) rfl (by kernel_rfl) HS.out ?_
                    iterate 12
                      (refine wpOrd_step (o := ?_) ?_ ?_; rotate_left 1; (simp only [List.getElem?_toArray, List.getElem?_cons_succ, List.getElem?_cons_zero]; with_reducible rfl))
                      (first
                          | (refine wpOrd_skip (by rfl) ?_)
                          | (refine wpOrd_take (v := ?_) (by rfl) ?_ ?_; rotate_left 1; (intro wx hSx; have hc_0 := c1 wx hSx; have hc_1 := c2 wx hSx; go_simp; try with_reducible rfl)))
                      (try simp only [Act.put, List.setIfInBounds_toArray, List.set_cons_zero, List.set_cons_succ])
                    (refine wpOrd_solo (o := ?_) ?_ ?_; rotate_left 1; (simp only [List.getElem?_toArray, List.getElem?_cons_succ, List.getElem?_cons_zero]; with_reducible rfl))
                    intro K hK
                    go_simp
                    go_at_call 72
                    refine (less_any _ _ _).mono ?_
                    rintro e w' ⟨rfl, rfl⟩
                    refine hK.out _ _ HS.out ?_
                    clear hK K
                    (try simp only [Act.put, List.setIfInBounds_toArray, List.set_cons_zero, List.set_cons_succ])
                    rw [HL.out]
                    iterate 2
                      (refine wpOrd_step (o := ?_) ?_ ?_; rotate_left 1; (simp only [List.getElem?_toArray, List.getElem?_cons_succ, List.getElem?_cons_zero]; with_reducible rfl))
                      (first
                          | (refine wpOrd_skip (by rfl) ?_)
                          | (refine wpOrd_take (v := ?_) (by rfl) ?_ ?_; rotate_left 1; (intro wx hSx; go_simp; try with_reducible rfl)))
                      (try simp only [Act.put, List.setIfInBounds_toArray, List.set_cons_zero, List.set_cons_succ])
                    refine wpOrd_done ?_
                    clear PS HS c1 c2 hc1 hc2 hf1 hf2
                    go_wp2_with fail
                    go_meet
                    case rel =>
                      refine ⟨!t, by simp, fun h => ⟨H0.out, ?_⟩, rfl⟩
                      have ht : t = false := by simpa using h
                      have h7 := HL.out
                      rw [ht, HX.out, HY.out, HK.out] at h7
                      exact lt_f.1 h7
                  · have hg0 : ¬ (0 : Int) < (a' : Int) := by omega
                    obtain ⟨S, HS, PS⟩ : ∃ S : World → Prop, Hid (S W3.drew) ∧ Hid (∀ w', S w' → w' = W3.drew) := ⟨fun w' => w' = W3.drew, rfl, fun _ h => h⟩
                    refine wp_region_ord S [(0, true), (1, true), (2, true), (3, true), (4, true), (5, true), (6, true), (7, true), (8, true), (9, true), (10, true), (11, true), (12, false), (13, true), (14, true)] (by kernel_rfl) (by kernel_rfl) rfl (by kernel_rfl) HS.out ?_
                    iterate 12
                      (refine wpOrd_step (o := ?_) ?_ ?_; rotate_left 1; (simp only [List.getElem?_toArray, List.getElem?_cons_succ, List.getElem?_cons_zero]; with_reducible rfl))
                      (first
                          | (refine wpOrd_skip (by rfl) ?_)
                          | (refine wpOrd_take (v := ?_) (by rfl) ?_ ?_; rotate_left 1; (intro wx hSx; go_simp; try with_reducible rfl)))
                      (try simp only [Act.put, List.setIfInBounds_toArray, List.set_cons_zero, List.set_cons_succ])
                    (refine wpOrd_solo (o := ?_) ?_ ?_; rotate_left 1; (simp only [List.getElem?_toArray, List.getElem?_cons_succ, List.getElem?_cons_zero]; with_reducible rfl))
                    intro K hK
                    go_simp
                    refine hK.out _ _ HS.out ?_
                    clear hK K
                    (try simp only [Act.put, List.setIfInBounds_toArray, List.set_cons_zero, List.set_cons_succ])
                    iterate 2
                      (refine wpOrd_step (o := ?_) ?_ ?_; rotate_left 1; (simp only [List.getElem?_toArray, List.getElem?_cons_succ, List.getElem?_cons_zero]; with_reducible rfl))
                      (first
                          | (refine wpOrd_skip (by rfl) ?_)
                          | (refine wpOrd_take (v := ?_) (by rfl) ?_ ?_; rotate_left 1; (intro wx hSx; go_simp; try with_reducible rfl)))
                      (try simp only [Act.put, List.setIfInBounds_toArray, List.set_cons_zero, List.set_cons_succ])
                    refine wpOrd_done ?_
                    clear PS HS
                    go_wp2_with fail
                    go_meet
                    case rel => exact ⟨false, rfl, (fun h => absurd h (by decide)), rfl⟩
                case rest =>
                  obtain ⟨t, rfl, ht, rfl⟩ := hcut
                  have HH4 : Hid (Holds eu W3.drew blk off d3) := HH3
                  have HM4 := Lib.hid HM3.out.drew
                  generalize W3.drew = W4 at HH4 HM4 ⊢
                  clear HH3 HM3
                  cases t with
                  | true =>
                    have HE := Lib.hid (HC3.out.eq hbd.out p hp1 hp2 (ht rfl).1 (ht rfl).2)
                    have hq := parteq_n cap HN3 HH4 hp1 hp2 (Nat.le_trans hb1 hb) hn
                    have HQ := Lib.hid hq; clear hq ht
                    generalize (partitionEqual ltN d3 a' b' p).1 = mid at *
                    generalize (partitionEqual ltN d3 a' b' p).2 = d4 at *
                    have hm1 : a' < mid := HE.out.1
                    have hm2 : mid ≤ b' := HE.out.2.1
                    have HC4 := Lib.hid HE.out.2.2; clear HE
                    go_wp2_with fail
                    refine HQ.out.mono ?_
                    rintro e w1 ⟨rfl, h3, h4⟩
                    have HH5 := Lib.hid h3
                    have HM5 := Lib.hid (HM4.out.trans h4)
                    clear h3 h4 HQ
                    go_wp2_with fail
                    go_roundw
                    case rel => exact ⟨mid, b', l2, wb, wp, d4, rfl, rfl, rfl, rfl, rfl, hl2, HC4, HH5, HM5⟩
                    case measure => simp [intOf]; omega
                  | false =>
                    have HE := Lib.hid (HC3.out.part hbd.out p hp1 hp2)
                    have hq := part_n cap HN3 HH4 hp1 hp2 (Nat.le_trans hb1 hb) hn
                    have HQ := Lib.hid hq; clear hq ht
                    generalize (partition ltN d3 a' b' p).1 = mid at *
                    generalize (partition ltN d3 a' b' p).2.2 = d4 at *
                    generalize (partition ltN d3 a' b' p).2.1 = t9 at *
                    obtain ⟨hm1, hm2, hs4, hB1, hC1, hB2, hC2⟩ := HE.out
                    have HN4 : Hid (d4.size = n) := hs4.trans HND.out
                    have HB1 := Lib.hid hB1
                    have HB2 := Lib.hid hB2
                    have HC1 := Lib.hid hC1
                    have HC2 := Lib.hid hC2
                    clear HE hs4 hB1 hB2 hC1 hC2
                    obtain ⟨ll, hll⟩ : ∃ ll, ll = mid - a' := ⟨_, rfl⟩
                    obtain ⟨rl, hrl⟩ : ∃ rl, rl = b' - mid := ⟨_, rfl⟩
                    have e7 : (mid : Int) - (a' : Int) = (ll : Int) := by omega
                    have e8 : (b' : Int) - (mid : Int) = (rl : Int) := by omega
                    have hll2 : ll ≤ n := by omega
                    have hrl2 : rl ≤ n := by omega
                    have w1 := wr_in ((mid : Int) + 1) (by omega) (by omega)
                    go_wp2_with fail
                    refine HQ.out.mono ?_
                    rintro e w1 ⟨rfl, h3, h4⟩
                    have HH5 := Lib.hid h3
                    have HM5 := Lib.hid (HM4.out.trans h4)
                    clear h3 h4 HQ HH4 HM4
                    by_cases hlr : ll < rl
                    · have hgl : (ll : Int) < (rl : Int) := by omega
                      have hic := IH.out (mid - a') (by omega) blk off cap n a' mid l2 d4 w1 hn hm1 (by omega) (Nat.le_refl _) hl2 HN4 HH5 HB1
                      have HIC := Lib.hid hic; clear hic
                      clear hll hrl
                      go_wp2_with fail
                      refine HIC.out.mono ?_
                      rintro e w2 ⟨rfl, d5, h3, h4, h5, h6⟩
                      have HC5 := Lib.hid (HC1.out d5 h3 h4)
                      have HH6 := Lib.hid h5
                      have HM6 := Lib.hid (HM5.out.trans h6)
                      clear h3 h4 h5 h6 HIC
                      go_wp2_with fail
                      go_roundw
                      case rel => exact ⟨mid + 1, b', l2, _, t9, d5, by go_num, rfl, rfl, rfl, rfl, hl2, HC5, HH6, HM6⟩
                      case measure => simp [intOf]; omega
                    · have hgl : ¬ (ll : Int) < (rl : Int) := by omega
                      have hic := IH.out (b' - (mid + 1)) (by omega) blk off cap n (mid + 1) b' l2 d4 w1 hn (by omega) (by omega) (Nat.le_refl _) hl2 HN4 HH5 HB2
                      rw [show ((mid + 1 : Nat) : Int) = (mid : Int) + 1 from rfl] at hic
                      have HIC := Lib.hid hic; clear hic
                      clear hll hrl
                      go_wp2_with fail
                      refine HIC.out.mono ?_
                      rintro e w2 ⟨rfl, d5, h3, h4, h5, h6⟩
                      have HC5 := Lib.hid (HC2.out d5 h3 h4)
                      have HH6 := Lib.hid h5
                      have HM6 := Lib.hid (HM5.out.trans h6)
                      clear h3 h4 h5 h6 HIC
                      go_wp2_with fail
                      go_roundw
                      case rel => exact ⟨a', mid, l2, _, t9, d5, rfl, rfl, rfl, rfl, rfl, hl2, HC5, HH6, HM6⟩
                      case measure => simp [intOf]; omega
theorem pdq_all (m : Nat) : PdqAt m := Nat.strongRecOn m pdq_step
theorem pdq_64 : PdqTo 64 := by
  intro blk off cap l d w hk hl hH
  refine (pdq_all d.size blk off cap d.size 0 d.size l d w hk (Nat.zero_le _) (Nat.le_refl _) (Nat.sub_le _ _) hl rfl hH (fun h => absurd h (by omega))).mono ?_
  rintro e w' ⟨rfl, d', h1, h2, h3, h4⟩
  exact ⟨rfl, d', h1, si_iff.2 h2, h3, h4⟩
theorem sort_64 : SortTo 64 := sort_of_pdq 64 (Nat.le_refl _) pdq_64
end Go.Proofs.YtopckkdmldhmlaaDoor
