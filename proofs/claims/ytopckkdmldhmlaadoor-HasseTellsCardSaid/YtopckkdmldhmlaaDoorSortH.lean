/-
  Sorting rows of words: the part that parts a row around a pivot. Conditions: indices within the row.
-/
import Derived.Test.YtopckkdmldhmlaaDoorSortG
import Derived.BigRegion
import Derived.Deep.CutRange
namespace Go.Proofs.YtopckkdmldhmlaaDoor
open Go.RowKit RM
open Go.Sort hiding Below ahead

/-- How a part's round ends. -/
def FF (a : Nat) (r : Nat × Array Nat) : Nat × Bool × Array Nat := (r.1, false, swp r.2 r.1 a)
theorem part_eq (d : Array Nat) (a c pv : Nat) : partition ltN d a (c + 1) pv =
    if scanUp (fun x => ltN x (swp d a pv)[a]!) (swp d a pv) c (a + 1) > scanDown (fun x => !ltN x (swp d a pv)[a]!) (swp d a pv) (scanUp (fun x => ltN x (swp d a pv)[a]!) (swp d a pv) c (a + 1)) c
    then (scanDown (fun x => !ltN x (swp d a pv)[a]!) (swp d a pv) (scanUp (fun x => ltN x (swp d a pv)[a]!) (swp d a pv) c (a + 1)) c, true, swp (swp d a pv) (scanDown (fun x => !ltN x (swp d a pv)[a]!) (swp d a pv) (scanUp (fun x => ltN x (swp d a pv)[a]!) (swp d a pv) c (a + 1)) c) a)
    else FF a (partLoop ltN a (scanUp (fun x => ltN x (swp d a pv)[a]!) (swp d a pv) c (a + 1) + 1) (scanDown (fun x => !ltN x (swp d a pv)[a]!) (swp d a pv) (scanUp (fun x => ltN x (swp d a pv)[a]!) (swp d a pv) c (a + 1)) c - 1) (swp (swp d a pv) (scanUp (fun x => ltN x (swp d a pv)[a]!) (swp d a pv) c (a + 1)) (scanDown (fun x => !ltN x (swp d a pv)[a]!) (swp d a pv) (scanUp (fun x => ltN x (swp d a pv)[a]!) (swp d a pv) c (a + 1)) c))) := rfl

set_option maxRecDepth 8000 in
set_option maxHeartbeats 4000000 in
theorem part_any (blk off n cap a c pv : Nat) (d : Array Nat) (w : World) (HN : Hid (d.size = n)) (HH : Hid (Holds eu w blk off d)) (hab : a ≤ c) (hb : c < n) (hn : n ≤ 64) (hp2 : pv ≤ c) :
    Calls Tryd.prog 74 #[.slice (some ⟨blk, off, none⟩) n cap, .int .i64 (a : Int), .int .i64 ((c : Int) + 1), .int .i64 (pv : Int)] w fun e w' =>
      e = .returned (.tuple #[.int .i64 ((partition ltN d a (c + 1) pv).1 : Int), .bool (partition ltN d a (c + 1) pv).2.1]) ∧ Holds eu w' blk off (partition ltN d a (c + 1) pv).2.2 ∧ Mut blk w w' := by
  have HT := Lib.hid (part_eq d a c pv).symm
  generalize partition ltN d a (c + 1) pv = R at *
  obtain ⟨x, HX, hc1, hf1⟩ := at_cell HN HH pv (by omega)
  obtain ⟨y, HY, hc2, hf2⟩ := at_cell HN HH a (by omega)
  obtain ⟨v3, hc3⟩ := set_some ⟨blk, off + a, none⟩ (.int .u64 (x : Int)) hc1
  obtain ⟨HN2, HH2, HM2⟩ := swp_holds HN HH (Lib.hid (Mut.refl blk w)) a pv HX HY (by omega) (by omega)
  have hr1 : (pv : Int) < (n : Int) := by omega
  have hr2 : (a : Int) < (n : Int) := by omega
  have w6 := wr_in ((a : Int) + 1) (by omega) (by omega)
  have w7 := wr_in (c : Int) (by omega) (by omega)
  go_enter Tryd.func74, Tryd.ntmps74
  go_wp2_with fail
  go_region
  have HHd : Hid (Holds eu (World.drew ((w.setCell ⟨blk, off + a, none⟩ (.int .u64 (x : Int))).setCell ⟨blk, off + pv, none⟩ (.int .u64 (y : Int)))) blk off (swp d a pv)) := HH2
  have HMd := Lib.hid HM2.out.drew
  clear hc1 hc2 hc3 hf1 hf2 HH2 HM2 HX HY HN HH
  generalize (World.drew ((w.setCell ⟨blk, off + a, none⟩ (.int .u64 (x : Int))).setCell ⟨blk, off + pv, none⟩ (.int .u64 (y : Int)))) = wr at HHd HMd ⊢
  generalize swp d a pv = dk at *
  have HN := HN2; have HH := HHd; have HM := HMd; clear HN2 HHd HMd
  obtain ⟨wo, rfl⟩ : ∃ wo : World, wo = wr := ⟨_, rfl⟩
  go_wp2_with fail
  go_loopw [10] (fun kv wr => ∃ k : Nat, kv = .int .i64 k ∧ (a + 1) ≤ k ∧ k ≤ n ∧ Hid (Holds eu wr blk off dk) ∧ Hid (Mut blk w wr) ∧ Hid (scanUp (fun x => ltN x dk[a]!) dk c k = scanUp (fun x => ltN x dk[a]!) dk c (a + 1))) (fun kv _ => n + 1 - (intOf kv).toNat)
  case atStart => exact ⟨(a + 1), by go_num, by omega, by omega, HH, HM, rfl⟩
  case round =>
    clear HH HM
    obtain ⟨k, rfl, hk1, hk2, HH, HM, HI⟩ := hrel
    go_upto_region 3 with fail
    go_cut [43] from 30 to 45 (fun cv wx => cv = .bool (decide (k ≤ c) && ltN dk[k]! dk[a]!) ∧ wx = wr.drew)
    case first =>
      by_cases hg : k ≤ c
      · obtain ⟨x, HX, hc1, hf1⟩ := at_cell HN HH k (by omega)
        obtain ⟨y, HY, hc2, hf2⟩ := at_cell HN HH a (by omega)
        obtain ⟨S, HS, c1, c2, PS⟩ := ex_cells2 hc1 hc2 HH HM
        have hg2 : (k : Int) ≤ (c : Int) := by omega
        have hr1 : (k : Int) < (n : Int) := by omega
        have hr2 : (a : Int) < (n : Int) := by omega
        have hl : ∃ t, ltN x y = t := ⟨_, rfl⟩
        obtain ⟨t, hl⟩ := hl
        have HL := Lib.hid hl; clear hl hg
        refine wp_region_ord S [(0, true), (1, true), (2, true), (3, true), (4, true), (5, true), (6, true), (7, true), (8, true), (9, true), (10, true), (11, true), (12, false), (13, true)] (by kernel_rfl) (by kernel_rfl) rfl (by kernel_rfl) HS.out ?_
        iterate 12
          (refine wpOrd_step (o := ?_) ?_ ?_; rotate_left 1; (simp only [List.getElem?_toArray, List.getElem?_cons_succ, List.getElem?_cons_zero]; with_reducible rfl))
          (first
              | (refine wpOrd_skip (by rfl) ?_)
              | (refine wpOrd_take (v := ?_) (by rfl) ?_ ?_; rotate_left 1; (intro wx hSx; have hc_0 := c1 wx hSx; have hc_1 := c2 wx hSx; go_simp; try with_reducible rfl)))
          (try simp only [Act.put, List.setIfInBounds_toArray, List.set_cons_zero, List.set_cons_succ])
        (refine wpOrd_solo (o := ?_) ?_ ?_; rotate_left 1; (simp only [List.getElem?_toArray, List.getElem?_cons_succ, List.getElem?_cons_zero]; with_reducible rfl))
        intro K hK
        go_simp
        go_at_call 72
        refine (less_any _ _ _).mono ?_
        rintro e w' ⟨rfl, rfl⟩
        refine hK.out _ _ HS.out ?_
        clear hK K
        (try simp only [Act.put, List.setIfInBounds_toArray, List.set_cons_zero, List.set_cons_succ])
        rw [HL.out]
        iterate 1
          (refine wpOrd_step (o := ?_) ?_ ?_; rotate_left 1; (simp only [List.getElem?_toArray, List.getElem?_cons_succ, List.getElem?_cons_zero]; with_reducible rfl))
          (first
              | (refine wpOrd_skip (by rfl) ?_)
              | (refine wpOrd_take (v := ?_) (by rfl) ?_ ?_; rotate_left 1; (intro wx hSx; go_simp; try with_reducible rfl)))
          (try simp only [Act.put, List.setIfInBounds_toArray, List.set_cons_zero, List.set_cons_succ])
        refine wpOrd_done ?_
        clear PS HS c1 c2 hc1 hc2 hf1 hf2
        go_wp2_with fail
        go_meet
        case rel =>
          refine ⟨?_, rfl⟩
          rw [← HX.out, ← HY.out, HL.out, decide_eq_true (Int.ofNat_le.1 hg2)]
          simp
      · have hg2 : ¬ (k : Int) ≤ (c : Int) := by omega
        obtain ⟨S, HS, PS⟩ : ∃ S : World → Prop, Hid (S wr.drew) ∧ Hid (∀ w', S w' → w' = wr.drew) := ⟨fun w' => w' = wr.drew, rfl, fun _ h => h⟩
        refine wp_region_ord S [(0, true), (1, true), (2, true), (3, true), (4, true), (5, true), (6, true), (7, true), (8, true), (9, true), (10, true), (11, true), (12, false), (13, true)] (by kernel_rfl) (by kernel_rfl) rfl (by kernel_rfl) HS.out ?_
        iterate 12
          (refine wpOrd_step (o := ?_) ?_ ?_; rotate_left 1; (simp only [List.getElem?_toArray, List.getElem?_cons_succ, List.getElem?_cons_zero]; with_reducible rfl))
          (first
              | (refine wpOrd_skip (by rfl) ?_)
              | (refine wpOrd_take (v := ?_) (by rfl) ?_ ?_; rotate_left 1; (intro wx hSx; go_simp; try with_reducible rfl)))
          (try simp only [Act.put, List.setIfInBounds_toArray, List.set_cons_zero, List.set_cons_succ])
        (refine wpOrd_solo (o := ?_) ?_ ?_; rotate_left 1; (simp only [List.getElem?_toArray, List.getElem?_cons_succ, List.getElem?_cons_zero]; with_reducible rfl))
        intro K hK
        go_simp
        refine hK.out _ _ HS.out ?_
        clear hK K
        (try simp only [Act.put, List.setIfInBounds_toArray, List.set_cons_zero, List.set_cons_succ])
        iterate 1
          (refine wpOrd_step (o := ?_) ?_ ?_; rotate_left 1; (simp only [List.getElem?_toArray, List.getElem?_cons_succ, List.getElem?_cons_zero]; with_reducible rfl))
          (first
              | (refine wpOrd_skip (by rfl) ?_)
              | (refine wpOrd_take (v := ?_) (by rfl) ?_ ?_; rotate_left 1; (intro wx hSx; go_simp; try with_reducible rfl)))
          (try simp only [Act.put, List.setIfInBounds_toArray, List.set_cons_zero, List.set_cons_succ])
        refine wpOrd_done ?_
        clear PS HS
        go_wp2_with fail
        go_meet
        case rel => exact ⟨by rw [decide_eq_false hg]; rfl, rfl⟩
    
    case rest =>
      obtain ⟨rfl, rfl⟩ := hcut
      cases hbb : (decide (k ≤ c) && ltN dk[k]! dk[a]!) with
      | true =>
        have HI2 : Hid (scanUp (fun x => ltN x dk[a]!) dk c (k + 1) = scanUp (fun x => ltN x dk[a]!) dk c (a + 1)) := by
          have h := up_yes (p := fun x => ltN x dk[a]!) hbb
          rw [← h]; exact HI
        have hkj : k ≤ c := of_decide_eq_true (and_split hbb).1
        clear hbb
        go_wp2_with fail
        go_roundw
        case rel => exact ⟨k + 1, by go_num, by omega, by omega, HH, HM.out.drew, HI2⟩
        case measure => simp [intOf]; omega
      | false =>
        have HI2 : Hid (scanUp (fun x => ltN x dk[a]!) dk c (a + 1) = k) := by
          have h := up_no (p := fun x => ltN x dk[a]!) hbb
          rw [← HI.out]; exact h
        clear hbb HI
        have HH' : Hid (Holds eu wr.drew blk off dk) := HH
        have HM' := Lib.hid HM.out.drew
        generalize wr.drew = W1 at HH' HM' ⊢
        clear HH HM
        go_wp2_with fail
        go_loopw [11] (fun lv wr => ∃ l : Nat, lv = .int .i64 l ∧ a ≤ l ∧ l ≤ c ∧ Hid (Holds eu wr blk off dk) ∧ Hid (Mut blk w wr) ∧ Hid (scanDown (fun x => !ltN x dk[a]!) dk k l = scanDown (fun x => !ltN x dk[a]!) dk k c)) (fun lv _ => (intOf lv).toNat)
        case atStart => exact ⟨c, by go_num, by omega, by omega, HH', HM', rfl⟩
        case round =>
          clear HH' HM'
          obtain ⟨l, rfl, hl1, hl2, HH, HM, HJ⟩ := hrel
          go_upto_region 5 with fail
          go_cut [60] from 46 to 62 (fun cv wx => cv = .bool (decide (k ≤ l) && !ltN dk[l]! dk[a]!) ∧ wx = wr.drew)
          case first =>
            by_cases hg : k ≤ l
            · obtain ⟨x, HX, hc1, hf1⟩ := at_cell HN HH l (by omega)
              obtain ⟨y, HY, hc2, hf2⟩ := at_cell HN HH a (by omega)
              obtain ⟨S, HS, c1, c2, PS⟩ := ex_cells2 hc1 hc2 HH HM
              have hg2 : (k : Int) ≤ (l : Int) := by omega
              have hr1 : (l : Int) < (n : Int) := by omega
              have hr2 : (a : Int) < (n : Int) := by omega
              have hl : ∃ t, ltN x y = t := ⟨_, rfl⟩
              obtain ⟨t, hl⟩ := hl
              have HL := Lib.hid hl; clear hl hg
              refine wp_region_ord S [(0, true), (1, true), (2, true), (3, true), (4, true), (5, true), (6, true), (7, true), (8, true), (9, true), (10, true), (11, true), (12, false), (13, true), (14, true)] (by kernel_rfl) (by kernel_rfl) rfl (by kernel_rfl) HS.out ?_
              iterate 12
                (refine wpOrd_step (o := ?_) ?_ ?_; rotate_left 1; (simp only [List.getElem?_toArray, List.getElem?_cons_succ, List.getElem?_cons_zero]; with_reducible rfl))
                (first
                    | (refine wpOrd_skip (by rfl) ?_)
                    | (refine wpOrd_take (v := ?_) (by rfl) ?_ ?_; rotate_left 1; (intro wx hSx; have hc_0 := c1 wx hSx; have hc_1 := c2 wx hSx; go_simp; try with_reducible rfl)))
                (try simp only [Act.put, List.setIfInBounds_toArray, List.set_cons_zero, List.set_cons_succ])
              (refine wpOrd_solo (o := ?_) ?_ ?_; rotate_left 1; (simp only [List.getElem?_toArray, List.getElem?_cons_succ, List.getElem?_cons_zero]; with_reducible rfl))
              intro K hK
              go_simp
              go_at_call 72
              refine (less_any _ _ _).mono ?_
              rintro e w' ⟨rfl, rfl⟩
              refine hK.out _ _ HS.out ?_
              clear hK K
              (try simp only [Act.put, List.setIfInBounds_toArray, List.set_cons_zero, List.set_cons_succ])
              rw [HL.out]
              iterate 2
                (refine wpOrd_step (o := ?_) ?_ ?_; rotate_left 1; (simp only [List.getElem?_toArray, List.getElem?_cons_succ, List.getElem?_cons_zero]; with_reducible rfl))
                (first
                    | (refine wpOrd_skip (by rfl) ?_)
                    | (refine wpOrd_take (v := ?_) (by rfl) ?_ ?_; rotate_left 1; (intro wx hSx; go_simp; try with_reducible rfl)))
                (try simp only [Act.put, List.setIfInBounds_toArray, List.set_cons_zero, List.set_cons_succ])
              refine wpOrd_done ?_
              clear PS HS c1 c2 hc1 hc2 hf1 hf2
              go_wp2_with fail
              go_meet
              case rel =>
                refine ⟨?_, rfl⟩
                rw [← HX.out, ← HY.out, HL.out, decide_eq_true (Int.ofNat_le.1 hg2)]
                simp
            · have hg2 : ¬ (k : Int) ≤ (l : Int) := by omega
              obtain ⟨S, HS, PS⟩ : ∃ S : World → Prop, Hid (S wr.drew) ∧ Hid (∀ w', S w' → w' = wr.drew) := ⟨fun w' => w' = wr.drew, rfl, fun _ h => h⟩
              refine wp_region_ord S [(0, true), (1, true), (2, true), (3, true), (4, true), (5, true), (6, true), (7, true), (8, true), (9, true), (10, true), (11, true), (12, false), (13, true), (14, true)] (by kernel_rfl) (by kernel_rfl) rfl (by kernel_rfl) HS.out ?_
              iterate 12
                (refine wpOrd_step (o := ?_) ?_ ?_; rotate_left 1; (simp only [List.getElem?_toArray, List.getElem?_cons_succ, List.getElem?_cons_zero]; with_reducible rfl))
                (first
                    | (refine wpOrd_skip (by rfl) ?_)
                    | (refine wpOrd_take (v := ?_) (by rfl) ?_ ?_; rotate_left 1; (intro wx hSx; go_simp; try with_reducible rfl)))
                (try simp only [Act.put, List.setIfInBounds_toArray, List.set_cons_zero, List.set_cons_succ])
              (refine wpOrd_solo (o := ?_) ?_ ?_; rotate_left 1; (simp only [List.getElem?_toArray, List.getElem?_cons_succ, List.getElem?_cons_zero]; with_reducible rfl))
              intro K hK
              go_simp
              refine hK.out _ _ HS.out ?_
              clear hK K
              (try simp only [Act.put, List.setIfInBounds_toArray, List.set_cons_zero, List.set_cons_succ])
              iterate 2
                (refine wpOrd_step (o := ?_) ?_ ?_; rotate_left 1; (simp only [List.getElem?_toArray, List.getElem?_cons_succ, List.getElem?_cons_zero]; with_reducible rfl))
                (first
                    | (refine wpOrd_skip (by rfl) ?_)
                    | (refine wpOrd_take (v := ?_) (by rfl) ?_ ?_; rotate_left 1; (intro wx hSx; go_simp; try with_reducible rfl)))
                (try simp only [Act.put, List.setIfInBounds_toArray, List.set_cons_zero, List.set_cons_succ])
              refine wpOrd_done ?_
              clear PS HS
              go_wp2_with fail
              go_meet
              case rel => exact ⟨by rw [decide_eq_false hg]; rfl, rfl⟩
          
          case rest =>
            obtain ⟨rfl, rfl⟩ := hcut
            cases hbb : (decide (k ≤ l) && !ltN dk[l]! dk[a]!) with
            | true =>
              have hkl : k ≤ l := of_decide_eq_true (and_split hbb).1
              obtain ⟨l, rfl⟩ : ∃ m, l = m + 1 := ⟨l - 1, by omega⟩
              have HJ2 : Hid (scanDown (fun x => !ltN x dk[a]!) dk k l = scanDown (fun x => !ltN x dk[a]!) dk k c) := by
                have h := down_yes (p := fun x => !ltN x dk[a]!) hbb
                rw [← h]; exact HJ
              have w9 := wr_in (l : Int) (by omega) (by omega)
              clear hbb HJ
              go_wp2_with fail
              go_roundw
              case rel => exact ⟨l, by go_num, by omega, by omega, HH, HM.out.drew, HJ2⟩
              case measure => simp [intOf]
            | false =>
              have HJ2 : Hid (scanDown (fun x => !ltN x dk[a]!) dk k c = l) := by
                have h := down_no (p := fun x => !ltN x dk[a]!) hbb
                rw [← HJ.out]; exact h
              clear hbb HJ
              have HH' : Hid (Holds eu wr.drew blk off dk) := HH
              have HM' := Lib.hid HM.out.drew
              generalize wr.drew = W2 at HH' HM' ⊢
              clear HH HM
              have HT2 : Hid ((if k > l then (l, true, swp dk l a) else FF a (partLoop ltN a (k + 1) (l - 1) (swp dk k l))) = R) := by
                have h := HT.out
                rw [HI2.out, HJ2.out] at h
                exact h
              clear HT HI2 HJ2
              by_cases hkl : l < k
              · have HT3 : Hid ((l, true, swp dk l a) = R) := by
                  have h := HT2.out
                  rw [if_pos hkl] at h
                  exact h
                have hg : (l : Int) < (k : Int) := by omega
                clear HT2
                obtain ⟨x, HX, hc1, hf1⟩ := at_cell HN HH' a (by omega)
                obtain ⟨y, HY, hc2, hf2⟩ := at_cell HN HH' l (by omega)
                obtain ⟨v3, hc3⟩ := set_some ⟨blk, off + l, none⟩ (.int .u64 (x : Int)) hc1
                obtain ⟨HN2, HH2, HM2⟩ := swp_holds HN HH' HM' l a HX HY (by omega) (by omega)
                have hr1 : (l : Int) < (n : Int) := by omega
                have hr2 : (a : Int) < (n : Int) := by omega
                go_wp2_with fail
                go_region
                go_wp2_with fail
                go_ret2
                rw [← HT3.out]
                exact ⟨rfl, HH2.out, HM2.out.drew⟩
              · obtain ⟨l, rfl⟩ : ∃ m, l = m + 1 := ⟨l - 1, by omega⟩
                have HT3 : Hid (FF a (partLoop ltN a (k + 1) l (swp dk k (l + 1))) = R) := by
                  have h := HT2.out
                  rw [if_neg hkl] at h
                  exact h
                have hg : ¬ (l : Int) + 1 < (k : Int) := by omega
                obtain ⟨x, HX, hc1, hf1⟩ := at_cell HN HH' (l + 1) (by omega)
                obtain ⟨y, HY, hc2, hf2⟩ := at_cell HN HH' k (by omega)
                obtain ⟨v3, hc3⟩ := set_some ⟨blk, off + k, none⟩ (.int .u64 (x : Int)) hc1
                obtain ⟨HN2, HH2, HM2⟩ := swp_holds HN HH' HM' k (l + 1) HX HY (by omega) (by omega)
                have hr0 : (0 : Int) ≤ (l : Int) + 1 := by omega
                have hr1 : (l : Int) + 1 < (n : Int) := by omega
                have hr2 : (k : Int) < (n : Int) := by omega
                have w9 := wr_in (l : Int) (by omega) (by omega)
                have w10 := wr_in ((k : Int) + 1) (by omega) (by omega)
                clear HT2 hkl
                go_wp2_with fail
                go_region
                have HHd : Hid (Holds eu (World.drew ((W2.setCell ⟨blk, off + k, none⟩ (.int .u64 (x : Int))).setCell ⟨blk, off + (l + 1), none⟩ (.int .u64 (y : Int)))) blk off (swp dk k (l + 1))) := HH2
                have HMd := Lib.hid HM2.out.drew
                clear hc1 hc2 hc3 hf1 hf2 HH2 HM2
                generalize (World.drew ((W2.setCell ⟨blk, off + k, none⟩ (.int .u64 (x : Int))).setCell ⟨blk, off + (l + 1), none⟩ (.int .u64 (y : Int)))) = W3 at HHd HMd ⊢
                go_wp2_with fail
                go_loopw [10, 11] (fun iv jv wr => ∃ (i j : Nat) (dk : Array Nat), iv = .int .i64 i ∧ jv = .int .i64 j ∧ a + 1 ≤ i ∧ i ≤ n ∧ a ≤ j ∧ j < n ∧ Hid (dk.size = n) ∧ Hid (Holds eu wr blk off dk) ∧ Hid (Mut blk w wr) ∧ Hid (FF a (partLoop ltN a i j dk) = R)) (fun iv jv _ => (intOf jv).toNat + 1 - (intOf iv).toNat)
                case atStart => exact ⟨k + 1, l, _, by go_num, by go_num, by omega, by omega, by omega, by omega, HN2, HHd, HMd, HT3⟩
                case round =>
                  clear HN2 HHd HMd HT3 HN HX HY HH' HM'
                  obtain ⟨i, j, dk, rfl, rfl, hi1, hi2, hj1, hj2, HN, HH, HM, HT⟩ := hrel
                  clear hk1 hk2 hl1 hl2
                  obtain ⟨wo, rfl⟩ : ∃ wo : World, wo = wr := ⟨_, rfl⟩
                  go_wp2_with fail
                  go_loopw [10] (fun kv wr => ∃ k : Nat, kv = .int .i64 k ∧ i ≤ k ∧ k ≤ n ∧ Hid (Holds eu wr blk off dk) ∧ Hid (Mut blk w wr) ∧ Hid (scanUp (fun x => ltN x dk[a]!) dk j k = scanUp (fun x => ltN x dk[a]!) dk j i)) (fun kv _ => n + 1 - (intOf kv).toNat)
                  case atStart => exact ⟨i, by go_num, by omega, by omega, HH, HM, rfl⟩
                  case round =>
                    clear HH HM
                    obtain ⟨k, rfl, hk1, hk2, HH, HM, HI⟩ := hrel
                    go_upto_region 13 with fail
                    go_cut [112] from 99 to 114 (fun cv wx => cv = .bool (decide (k ≤ j) && ltN dk[k]! dk[a]!) ∧ wx = wr.drew)
                    case first =>
                      by_cases hg : k ≤ j
                      · obtain ⟨x, HX, hc1, hf1⟩ := at_cell HN HH k (by omega)
                        obtain ⟨y, HY, hc2, hf2⟩ := at_cell HN HH a (by omega)
                        obtain ⟨S, HS, c1, c2, PS⟩ := ex_cells2 hc1 hc2 HH HM
                        have hg2 : (k : Int) ≤ (j : Int) := by omega
                        have hr1 : (k : Int) < (n : Int) := by omega
                        have hr2 : (a : Int) < (n : Int) := by omega
                        have hl : ∃ t, ltN x y = t := ⟨_, rfl⟩
                        obtain ⟨t, hl⟩ := hl
                        have HL := Lib.hid hl; clear hl hg
                        refine wp_region_ord S [(0, true), (1, true), (2, true), (3, true), (4, true), (5, true), (6, true), (7, true), (8, true), (9, true), (10, true), (11, true), (12, false), (13, true)] (by kernel_rfl) (by kernel_rfl) rfl (by kernel_rfl) HS.out ?_
                        iterate 12
                          (refine wpOrd_step (o := ?_) ?_ ?_; rotate_left 1; (simp only [List.getElem?_toArray, List.getElem?_cons_succ, List.getElem?_cons_zero]; with_reducible rfl))
                          (first
                              | (refine wpOrd_skip (by rfl) ?_)
                              | (refine wpOrd_take (v := ?_) (by rfl) ?_ ?_; rotate_left 1; (intro wx hSx; have hc_0 := c1 wx hSx; have hc_1 := c2 wx hSx; go_simp; try with_reducible rfl)))
                          (try simp only [Act.put, List.setIfInBounds_toArray, List.set_cons_zero, List.set_cons_succ])
                        (refine wpOrd_solo (o := ?_) ?_ ?_; rotate_left 1; (simp only [List.getElem?_toArray, List.getElem?_cons_succ, List.getElem?_cons_zero]; with_reducible rfl))
                        intro K hK
                        go_simp
                        go_at_call 72
                        refine (less_any _ _ _).mono ?_
                        rintro e w' ⟨rfl, rfl⟩
                        refine hK.out _ _ HS.out ?_
                        clear hK K
                        (try simp only [Act.put, List.setIfInBounds_toArray, List.set_cons_zero, List.set_cons_succ])
                        rw [HL.out]
                        iterate 1
                          (refine wpOrd_step (o := ?_) ?_ ?_; rotate_left 1; (simp only [List.getElem?_toArray, List.getElem?_cons_succ, List.getElem?_cons_zero]; with_reducible rfl))
                          (first
                              | (refine wpOrd_skip (by rfl) ?_)
                              | (refine wpOrd_take (v := ?_) (by rfl) ?_ ?_; rotate_left 1; (intro wx hSx; go_simp; try with_reducible rfl)))
                          (try simp only [Act.put, List.setIfInBounds_toArray, List.set_cons_zero, List.set_cons_succ])
                        refine wpOrd_done ?_
                        clear PS HS c1 c2 hc1 hc2 hf1 hf2
                        go_wp2_with fail
                        go_meet
                        case rel =>
                          refine ⟨?_, rfl⟩
                          rw [← HX.out, ← HY.out, HL.out, decide_eq_true (Int.ofNat_le.1 hg2)]
                          simp
                      · have hg2 : ¬ (k : Int) ≤ (j : Int) := by omega
                        obtain ⟨S, HS, PS⟩ : ∃ S : World → Prop, Hid (S wr.drew) ∧ Hid (∀ w', S w' → w' = wr.drew) := ⟨fun w' => w' = wr.drew, rfl, fun _ h => h⟩
                        refine wp_region_ord S [(0, true), (1, true), (2, true), (3, true), (4, true), (5, true), (6, true), (7, true), (8, true), (9, true), (10, true), (11, true), (12, false), (13, true)] (by kernel_rfl) (by kernel_rfl) rfl (by kernel_rfl) HS.out ?_
                        iterate 12
                          (refine wpOrd_step (o := ?_) ?_ ?_; rotate_left 1; (simp only [List.getElem?_toArray, List.getElem?_cons_succ, List.getElem?_cons_zero]; with_reducible rfl))
                          (first
                              | (refine wpOrd_skip (by rfl) ?_)
                              | (refine wpOrd_take (v := ?_) (by rfl) ?_ ?_; rotate_left 1; (intro wx hSx; go_simp; try with_reducible rfl)))
                          (try simp only [Act.put, List.setIfInBounds_toArray, List.set_cons_zero, List.set_cons_succ])
                        (refine wpOrd_solo (o := ?_) ?_ ?_; rotate_left 1; (simp only [List.getElem?_toArray, List.getElem?_cons_succ, List.getElem?_cons_zero]; with_reducible rfl))
                        intro K hK
                        go_simp
                        refine hK.out _ _ HS.out ?_
                        clear hK K
                        (try simp only [Act.put, List.setIfInBounds_toArray, List.set_cons_zero, List.set_cons_succ])
                        iterate 1
                          (refine wpOrd_step (o := ?_) ?_ ?_; rotate_left 1; (simp only [List.getElem?_toArray, List.getElem?_cons_succ, List.getElem?_cons_zero]; with_reducible rfl))
                          (first
                              | (refine wpOrd_skip (by rfl) ?_)
                              | (refine wpOrd_take (v := ?_) (by rfl) ?_ ?_; rotate_left 1; (intro wx hSx; go_simp; try with_reducible rfl)))
                          (try simp only [Act.put, List.setIfInBounds_toArray, List.set_cons_zero, List.set_cons_succ])
                        refine wpOrd_done ?_
                        clear PS HS
                        go_wp2_with fail
                        go_meet
                        case rel => exact ⟨by rw [decide_eq_false hg]; rfl, rfl⟩
                    
                    case rest =>
                      obtain ⟨rfl, rfl⟩ := hcut
                      cases hbb : (decide (k ≤ j) && ltN dk[k]! dk[a]!) with
                      | true =>
                        have HI2 : Hid (scanUp (fun x => ltN x dk[a]!) dk j (k + 1) = scanUp (fun x => ltN x dk[a]!) dk j i) := by
                          have h := up_yes (p := fun x => ltN x dk[a]!) hbb
                          rw [← h]; exact HI
                        have hkj : k ≤ j := of_decide_eq_true (and_split hbb).1
                        clear hbb
                        go_wp2_with fail
                        go_roundw
                        case rel => exact ⟨k + 1, by go_num, by omega, by omega, HH, HM.out.drew, HI2⟩
                        case measure => simp [intOf]; omega
                      | false =>
                        have HI2 : Hid (scanUp (fun x => ltN x dk[a]!) dk j i = k) := by
                          have h := up_no (p := fun x => ltN x dk[a]!) hbb
                          rw [← HI.out]; exact h
                        clear hbb HI
                        have HH' : Hid (Holds eu wr.drew blk off dk) := HH
                        have HM' := Lib.hid HM.out.drew
                        generalize wr.drew = W1 at HH' HM' ⊢
                        clear HH HM
                        go_wp2_with fail
                        go_loopw [11] (fun lv wr => ∃ l : Nat, lv = .int .i64 l ∧ a ≤ l ∧ l ≤ j ∧ Hid (Holds eu wr blk off dk) ∧ Hid (Mut blk w wr) ∧ Hid (scanDown (fun x => !ltN x dk[a]!) dk k l = scanDown (fun x => !ltN x dk[a]!) dk k j)) (fun lv _ => (intOf lv).toNat)
                        case atStart => exact ⟨j, by go_num, by omega, by omega, HH', HM', rfl⟩
                        case round =>
                          clear HH' HM'
                          obtain ⟨l, rfl, hl1, hl2, HH, HM, HJ⟩ := hrel
                          go_upto_region 15 with fail
                          go_cut [129] from 115 to 131 (fun cv wx => cv = .bool (decide (k ≤ l) && !ltN dk[l]! dk[a]!) ∧ wx = wr.drew)
                          case first =>
                            by_cases hg : k ≤ l
                            · obtain ⟨x, HX, hc1, hf1⟩ := at_cell HN HH l (by omega)
                              obtain ⟨y, HY, hc2, hf2⟩ := at_cell HN HH a (by omega)
                              obtain ⟨S, HS, c1, c2, PS⟩ := ex_cells2 hc1 hc2 HH HM
                              have hg2 : (k : Int) ≤ (l : Int) := by omega
                              have hr1 : (l : Int) < (n : Int) := by omega
                              have hr2 : (a : Int) < (n : Int) := by omega
                              have hl : ∃ t, ltN x y = t := ⟨_, rfl⟩
                              obtain ⟨t, hl⟩ := hl
                              have HL := Lib.hid hl; clear hl hg
                              refine wp_region_ord S [(0, true), (1, true), (2, true), (3, true), (4, true), (5, true), (6, true), (7, true), (8, true), (9, true), (10, true), (11, true), (12, false), (13, true), (14, true)] (by kernel_rfl) (by kernel_rfl) rfl (by kernel_rfl) HS.out ?_
                              iterate 12
                                (refine wpOrd_step (o := ?_) ?_ ?_; rotate_left 1; (simp only [List.getElem?_toArray, List.getElem?_cons_succ, List.getElem?_cons_zero]; with_reducible rfl))
                                (first
                                    | (refine wpOrd_skip (by rfl) ?_)
                                    | (refine wpOrd_take (v := ?_) (by rfl) ?_ ?_; rotate_left 1; (intro wx hSx; have hc_0 := c1 wx hSx; have hc_1 := c2 wx hSx; go_simp; try with_reducible rfl)))
                                (try simp only [Act.put, List.setIfInBounds_toArray, List.set_cons_zero, List.set_cons_succ])
                              (refine wpOrd_solo (o := ?_) ?_ ?_; rotate_left 1; (simp only [List.getElem?_toArray, List.getElem?_cons_succ, List.getElem?_cons_zero]; with_reducible rfl))
                              intro K hK
                              go_simp
                              go_at_call 72
                              refine (less_any _ _ _).mono ?_
                              rintro e w' ⟨rfl, rfl⟩
                              refine hK.out _ _ HS.out ?_
                              clear hK K
                              (try simp only [Act.put, List.setIfInBounds_toArray, List.set_cons_zero, List.set_cons_succ])
                              rw [HL.out]
                              iterate 2
                                (refine wpOrd_step (o := ?_) ?_ ?_; rotate_left 1; (simp only [List.getElem?_toArray, List.getElem?_cons_succ, List.getElem?_cons_zero]; with_reducible rfl))
                                (first
                                    | (refine wpOrd_skip (by rfl) ?_)
                                    | (refine wpOrd_take (v := ?_) (by rfl) ?_ ?_; rotate_left 1; (intro wx hSx; go_simp; try with_reducible rfl)))
                                (try simp only [Act.put, List.setIfInBounds_toArray, List.set_cons_zero, List.set_cons_succ])
                              refine wpOrd_done ?_
                              clear PS HS c1 c2 hc1 hc2 hf1 hf2
                              go_wp2_with fail
                              go_meet
                              case rel =>
                                refine ⟨?_, rfl⟩
                                rw [← HX.out, ← HY.out, HL.out, decide_eq_true (Int.ofNat_le.1 hg2)]
                                simp
                            · have hg2 : ¬ (k : Int) ≤ (l : Int) := by omega
                              obtain ⟨S, HS, PS⟩ : ∃ S : World → Prop, Hid (S wr.drew) ∧ Hid (∀ w', S w' → w' = wr.drew) := ⟨fun w' => w' = wr.drew, rfl, fun _ h => h⟩
                              refine wp_region_ord S [(0, true), (1, true), (2, true), (3, true), (4, true), (5, true), (6, true), (7, true), (8, true), (9, true), (10, true), (11, true), (12, false), (13, true), (14, true)] (by kernel_rfl) (by kernel_rfl) rfl (by kernel_rfl) HS.out ?_
                              iterate 12
                                (refine wpOrd_step (o := ?_) ?_ ?_; rotate_left 1; (simp only [List.getElem?_toArray, List.getElem?_cons_succ, List.getElem?_cons_zero]; with_reducible rfl))
                                (first
                                    | (refine wpOrd_skip (by rfl) ?_)
                                    | (refine wpOrd_take (v := ?_) (by rfl) ?_ ?_; rotate_left 1; (intro wx hSx; go_simp; try with_reducible rfl)))
                                (try simp only [Act.put, List.setIfInBounds_toArray, List.set_cons_zero, List.set_cons_succ])
                              (refine wpOrd_solo (o := ?_) ?_ ?_; rotate_left 1; (simp only [List.getElem?_toArray, List.getElem?_cons_succ, List.getElem?_cons_zero]; with_reducible rfl))
                              intro K hK
                              go_simp
                              refine hK.out _ _ HS.out ?_
                              clear hK K
                              (try simp only [Act.put, List.setIfInBounds_toArray, List.set_cons_zero, List.set_cons_succ])
                              iterate 2
                                (refine wpOrd_step (o := ?_) ?_ ?_; rotate_left 1; (simp only [List.getElem?_toArray, List.getElem?_cons_succ, List.getElem?_cons_zero]; with_reducible rfl))
                                (first
                                    | (refine wpOrd_skip (by rfl) ?_)
                                    | (refine wpOrd_take (v := ?_) (by rfl) ?_ ?_; rotate_left 1; (intro wx hSx; go_simp; try with_reducible rfl)))
                                (try simp only [Act.put, List.setIfInBounds_toArray, List.set_cons_zero, List.set_cons_succ])
                              refine wpOrd_done ?_
                              clear PS HS
                              go_wp2_with fail
                              go_meet
                              case rel => exact ⟨by rw [decide_eq_false hg]; rfl, rfl⟩
                          
                          case rest =>
                            obtain ⟨rfl, rfl⟩ := hcut
                            cases hbb : (decide (k ≤ l) && !ltN dk[l]! dk[a]!) with
                            | true =>
                              have hkl : k ≤ l := of_decide_eq_true (and_split hbb).1
                              obtain ⟨l, rfl⟩ : ∃ m, l = m + 1 := ⟨l - 1, by omega⟩
                              have HJ2 : Hid (scanDown (fun x => !ltN x dk[a]!) dk k l = scanDown (fun x => !ltN x dk[a]!) dk k j) := by
                                have h := down_yes (p := fun x => !ltN x dk[a]!) hbb
                                rw [← h]; exact HJ
                              have w9 := wr_in (l : Int) (by omega) (by omega)
                              clear hbb HJ
                              go_wp2_with fail
                              go_roundw
                              case rel => exact ⟨l, by go_num, by omega, by omega, HH, HM.out.drew, HJ2⟩
                              case measure => simp [intOf]
                            | false =>
                              have HJ2 : Hid (scanDown (fun x => !ltN x dk[a]!) dk k j = l) := by
                                have h := down_no (p := fun x => !ltN x dk[a]!) hbb
                                rw [← HJ.out]; exact h
                              clear hbb HJ
                              have HH' : Hid (Holds eu wr.drew blk off dk) := HH
                              have HM' := Lib.hid HM.out.drew
                              generalize wr.drew = W2 at HH' HM' ⊢
                              clear HH HM
                              have HT2 : Hid (FF a (if k > l then (l, dk) else partLoop ltN a (k + 1) (l - 1) (swp dk k l)) = R) := by
                                have h := HT.out
                                rw [partLoop_eq, HI2.out, HJ2.out] at h
                                exact h
                              clear HT HI2 HJ2
                              by_cases hkl : l < k
                              · have HT3 : Hid ((l, false, swp dk l a) = R) := by
                                  have h := HT2.out
                                  rw [if_pos hkl] at h
                                  exact h
                                have hg : (l : Int) < (k : Int) := by omega
                                clear HT2
                                obtain ⟨x, HX, hc1, hf1⟩ := at_cell HN HH' a (by omega)
                                obtain ⟨y, HY, hc2, hf2⟩ := at_cell HN HH' l (by omega)
                                obtain ⟨v3, hc3⟩ := set_some ⟨blk, off + l, none⟩ (.int .u64 (x : Int)) hc1
                                obtain ⟨HN2, HH2, HM2⟩ := swp_holds HN HH' HM' l a HX HY (by omega) (by omega)
                                have hr1 : (l : Int) < (n : Int) := by omega
                                have hr2 : (a : Int) < (n : Int) := by omega
                                go_wp2_with fail
                                go_region
                                go_wp2_with fail
                                go_ret2
                                rw [← HT3.out]
                                exact ⟨rfl, HH2.out, HM2.out.drew⟩
                              · obtain ⟨l, rfl⟩ : ∃ m, l = m + 1 := ⟨l - 1, by omega⟩
                                have HT3 : Hid (FF a (partLoop ltN a (k + 1) l (swp dk k (l + 1))) = R) := by
                                  have h := HT2.out
                                  rw [if_neg hkl] at h
                                  exact h
                                have hg : ¬ (l : Int) + 1 < (k : Int) := by omega
                                obtain ⟨x, HX, hc1, hf1⟩ := at_cell HN HH' (l + 1) (by omega)
                                obtain ⟨y, HY, hc2, hf2⟩ := at_cell HN HH' k (by omega)
                                obtain ⟨v3, hc3⟩ := set_some ⟨blk, off + k, none⟩ (.int .u64 (x : Int)) hc1
                                obtain ⟨HN2, HH2, HM2⟩ := swp_holds HN HH' HM' k (l + 1) HX HY (by omega) (by omega)
                                have hr0 : (0 : Int) ≤ (l : Int) + 1 := by omega
                                have hr1 : (l : Int) + 1 < (n : Int) := by omega
                                have hr2 : (k : Int) < (n : Int) := by omega
                                have w9 := wr_in (l : Int) (by omega) (by omega)
                                have w10 := wr_in ((k : Int) + 1) (by omega) (by omega)
                                clear HT2 hkl
                                go_wp2_with fail
                                go_region
                                go_wp2_with fail
                                go_roundw
                                case rel => exact ⟨k + 1, l, _, by go_num, by go_num, by omega, by omega, by omega, by omega, HN2, HH2, HM2.out.drew, HT3⟩
                                case measure => simp [intOf]; omega
end Go.Proofs.YtopckkdmldhmlaaDoor
