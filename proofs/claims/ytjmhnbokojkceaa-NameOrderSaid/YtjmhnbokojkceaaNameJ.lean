/-
  The statement NameOrder of layer 2: its function returns true. Conditions: the slice reads as a list.
-/
import Derived.Test.YtjmhnbokojkceaaNameI
import Derived.Test.YtjmhnbokojkceaaOrd
namespace Go.Proofs.Ytjmhnbokojkceaa
open Go.RowKit

theorem fst_cells {w : World} {A : Option Addr} {xs : List ByteArray} (h : Strs w A xs) (h0 : xs ≠ []) :
    ∃ b o, A = some ⟨b, o, none⟩ ∧ ∀ W, Hid (Below w.heap.size w W) → ∀ j, j < xs.length → W.cell? ⟨b, o + j, none⟩ = some (.string (NM.at_ xs j)) := by
  obtain ⟨b, o, hA, hlt, hc⟩ := h (by unfold scells; intro e; rw [List.map_eq_nil_iff] at e; exact h0 e)
  refine ⟨b, o, hA, fun W hW j hj => (hW.out.cell (p := ⟨b, o + j, none⟩) hlt).trans (hc j _ ?_)⟩
  unfold scells NM.at_
  rw [List.getElem?_map, List.getD_eq_getElem?_getD, List.getElem?_eq_getElem hj]
  rfl
theorem srt_less (xs : List ByteArray) (i : Nat) (h : i + 1 < (NM.srt xs).length) : NM.less (NM.at_ (NM.srt xs) i) (NM.at_ (NM.srt xs) (i + 1)) = true := by
  have := (List.pairwise_iff_getElem.1 (NM.srt_rises xs)) i (i + 1) (by omega) h (by omega)
  unfold NM.at_
  rw [List.getD_eq_getElem?_getD, List.getElem?_eq_getElem (show i < _ by omega), List.getD_eq_getElem?_getD, List.getElem?_eq_getElem h]
  exact this

theorem twc_srt (xs : List ByteArray) : twc (NM.srt xs) = -1 := by
  unfold twc
  refine NM.fst_miss fun j hj => ?_
  unfold twice
  rw [decide_eq_false_iff_not]
  intro h
  unfold idx at h
  rcases NM.fst_cases (fun i => decide ((NM.srt xs).getD i ⟨#[]⟩ = (NM.srt xs).getD j ⟨#[]⟩)) (NM.srt xs).length with ⟨k, hk, e, hp, h0⟩ | ⟨e, h0⟩
  · rw [e] at h
    have hp2 : (NM.srt xs).getD k ⟨#[]⟩ = (NM.srt xs).getD j ⟨#[]⟩ := by simpa using hp
    rw [List.getD_eq_getElem?_getD, List.getElem?_eq_getElem hk, List.getD_eq_getElem?_getD, List.getElem?_eq_getElem hj] at hp2
    exact (List.pairwise_iff_getElem.1 (NM.srt_nodup xs)) k j hk hj (by omega) hp2
  · exact absurd (h0 j hj) (by simp)
theorem hid_step {w0 W W' : World} (h : Hid (Below w0.heap.size w0 W)) (hb : Below W.heap.size W W') : Hid (Below w0.heap.size w0 W') := h.out.trans (hb.mono h.out.size)
set_option maxHeartbeats 1000000 in
theorem nameOrder_law (A : Option Addr) (c : Nat) (xs : List ByteArray) (a b : ByteArray) (w : World) (hA : Strs w A xs) :
    Calls Try.prog 6 #[.slice A xs.length c, .string a, .string b] w fun e w' => e = .returned (.bool true) ∧ Below w.heap.size w w' := by
  have hl1 := long_any A c xs w hA
  have hl2 := long_any (some ⟨w.heap.size, 0, none⟩) 2 [a, b] (w.alloc (.cells #[.string a, .string b] 9)) (new_strs w [a, b] 9)
  have HB0 : Hid (Below w.heap.size w (w.alloc (.cells #[.string a, .string b] 9))) := (Below.refl _ _).alloc (Nat.le_refl _) _
  have HA := Lib.hid hA; clear hA
  have HL1 := Lib.hid hl1; have HL2 := Lib.hid hl2
  clear hl1 hl2
  cases h1 : longB xs
  · cases h2 : longB [a, b]
    · rw [h1] at HL1; rw [h2] at HL2
      obtain ⟨hx1, hx2⟩ := longB_no h1
      clear h1 h2
      have hsl := NM.srt_len xs
      have HSO := Lib.hid (fun W hW => sort_any A c xs W (by omega) (HA.out.below hW))
      have HFX := Lib.hid (fun s W hW => find_any A c xs s W (by omega) (HA.out.below hW))
      have HAL := Lib.hid alive_any
      have HTL : Hid ((NM.srt xs).length = (NM.srt xs).length) := rfl
      generalize hm : (NM.srt xs).length = m at *
      have HM := Lib.hid hm; clear hm
      generalize hn : xs.length = n at *
      have HN := Lib.hid hn; clear hn
      go_enter Try.func6, Try.ntmps6
      go_wp2_with fail
      refine HL1.out.mono ?_
      rintro e w1 ⟨rfl, rfl⟩
      go_wp2_with fail
      refine HL2.out.mono ?_
      rintro e w1 ⟨rfl, rfl⟩
      go_wp2_with fail
      refine (HSO.out _ HB0.out).mono ?_
      rintro e w1 ⟨AT, ct, rfl, hs1, hb1⟩
      have HB1 := Lib.hid (HB0.out.trans (hb1.mono HB0.out.size))
      have HT := Lib.hid hs1
      clear hb1 hs1
      go_wp2_with fail
      go_loopw [8] (fun iv wr => ∃ i : Nat, i ≤ m ∧ iv = .int .i64 i ∧ Hid (Below w1.heap.size w1 wr)) (fun iv _ => m - (intOf iv).toNat)
      case atStart => exact ⟨0, by omega, rfl, Below.refl _ _⟩
      case round =>
        obtain ⟨i, hi, rfl, HW⟩ := hrel
        by_cases hlt : i < m
        · obtain ⟨bk, o, rfl, hcells⟩ := fst_cells HT.out (by intro e; have := HM.out; rw [e] at this; simp at this; omega)
          have HC := Lib.hid hcells; clear hcells
          have hfind : ∀ W, Hid (Below w1.heap.size w1 W) → Calls Try.prog 13 #[.slice A n c, .string (NM.at_ (NM.srt xs) i)] W fun e w' => e = .returned (.int .i64 (idx xs (NM.at_ (NM.srt xs) i))) ∧ Below W.heap.size W w' :=
            fun W hW => HFX.out _ W (HB1.out.trans (hW.out.mono HB1.out.size))
          have HF := Lib.hid hfind; clear hfind
          have hpos : ¬ idx xs (NM.at_ (NM.srt xs) i) < 0 := fun h => (idx_neg _ _).1 h ((NM.srt_mem xs _).1 (NM.at_mem (by rw [HM.out]; exact hlt)))
          have HWD : Hid (Below w1.heap.size w1 wr.drew) := HW.out.drew
          have hc1 := HC.out _ HWD i (by rw [HM.out]; exact hlt)
          by_cases h0 : 0 < i
          · obtain ⟨k, hik⟩ : ∃ k, i = k + 1 := ⟨i - 1, by omega⟩
            have hc2 := HC.out _ HWD k (by rw [HM.out]; omega)
            have hless := srt_less xs k (by rw [HM.out]; omega)
            rw [← hik] at hless
            have HC1 := Lib.hid (fun W hW => HC.out W hW i (by rw [HM.out]; exact hlt))
            have HC2 := Lib.hid (fun W hW => HC.out W hW k (by rw [HM.out]; omega))
            have HLE : Hid (∀ W, Calls Try.prog 11 #[.string (NM.at_ (NM.srt xs) k), .string (NM.at_ (NM.srt xs) i)] W fun e w' => e = .returned (.bool true) ∧ W = w') := by
              intro W
              have h := less_any (NM.at_ (NM.srt xs) k) (NM.at_ (NM.srt xs) i) W
              rw [hless] at h
              exact h
            clear hless
            generalize NM.at_ (NM.srt xs) i = x at *
            generalize NM.at_ (NM.srt xs) k = y at *
            generalize idx xs x = r at *
            have hrd : decide (r < 0) = false := decide_eq_false hpos
            have hi0 : (0 : Int) ≤ (i : Int) := by omega
            have him : (i : Int) < (m : Int) := by omega
            have hk0 : (0 : Int) ≤ (k : Int) := by omega
            have hkm : (k : Int) < (m : Int) := by omega
            have hgt : decide ((i : Int) > 0) = true := decide_eq_true (by omega)
            have hwr : IntKind.i64.wrap ((i : Int) - 1) = (k : Int) := by rw [IntWalk.i64_in _ ⟨by omega, by omega⟩]; omega
            have HIK := Lib.hid hik; clear hik
            go_wp2_with fail
            go_region_held3 (fun w' => w'.cell? ⟨bk, o + i, none⟩ = some (.string x) ∧ w'.cell? ⟨bk, o + k, none⟩ = some (.string y) ∧ Hid (Below w1.heap.size w1 w')) (refine ⟨?_, ?_, ?_⟩ <;> assumption)
              (first
                | (go_at_call 13; (try go_split_ands); refine (HF.out _ (by assumption)).mono ?_; rintro e w' ⟨rfl, hb⟩; have hw2 := hid_step (by assumption) hb; have hn1 := HC1.out _ hw2; have hn2 := HC2.out _ hw2)
                | (go_at_call 11; refine (HLE.out _).mono ?_; rintro e w' ⟨rfl, rfl⟩))
            all_goals
              go_wp2
              go_roundw
              case rel => exact ⟨i + 1, by omega, by go_num, by assumption⟩
              case measure => simp [intOf]; omega
          · have HC1 := Lib.hid (fun W hW => HC.out W hW i (by rw [HM.out]; exact hlt))
            generalize NM.at_ (NM.srt xs) i = x at *
            generalize idx xs x = r at *
            have hrd : decide (r < 0) = false := decide_eq_false hpos
            have hi0 : (0 : Int) ≤ (i : Int) := by omega
            have him : (i : Int) < (m : Int) := by omega
            have hgt : decide ((i : Int) > 0) = false := decide_eq_false (by omega)
            have hgt2 : decide (0 < (i : Int)) = false := decide_eq_false (by omega)
            go_wp2_with fail
            refine wp_region_ord (fun w' => w'.cell? ⟨bk, o + i, none⟩ = some (.string x) ∧ Hid (Below w1.heap.size w1 w')) [(0, true), (1, true), (2, true), (3, true), (4, true), (5, false), (6, true), (7, true), (8, true), (9, true), (10, true), (11, true), (12, true), (13, true), (14, true), (15, true), (16, true), (17, true), (18, true), (19, true), (20, true), (21, true), (22, true), (23, true)] (by kernel_rfl) (by kernel_rfl) rfl (by kernel_rfl) ⟨hc1, HWD⟩ ?_
            repeat (
              (refine wpOrd_step (o := ?_) ?_ ?_; rotate_left 1; (simp only [List.getElem?_toArray, List.getElem?_cons_succ, List.getElem?_cons_zero]; with_reducible rfl))
              (first
                | (refine wpOrd_skip (by rfl) ?_)
                | (refine wpOrd_take (v := ?_) (by rfl) ?_ ?_; rotate_left 1; (intro wx hSx; (try dsimp only at hSx); go_simp; try with_reducible rfl)))
              (try simp only [Act.put, List.setIfInBounds_toArray, List.set_cons_zero, List.set_cons_succ]))
            (refine wpOrd_solo (o := ?_) ?_ ?_; rotate_left 1; (simp only [List.getElem?_toArray, List.getElem?_cons_succ, List.getElem?_cons_zero]; with_reducible rfl))
            intro K hK
            go_simp
            go_at_call 13
            refine (HF.out _ HWD).mono ?_
            rintro e w2 ⟨rfl, hb2⟩
            have HW2 := hid_step HWD hb2; clear hb2
            refine hK.out _ _ ⟨HC1.out _ HW2, HW2⟩ ?_
            clear hK K
            (try simp only [Act.put, List.setIfInBounds_toArray, List.set_cons_zero, List.set_cons_succ])
            repeat (
              (refine wpOrd_step (o := ?_) ?_ ?_; rotate_left 1; (simp only [List.getElem?_toArray, List.getElem?_cons_succ, List.getElem?_cons_zero]; with_reducible rfl))
              (first
                | (refine wpOrd_skip (by rfl) ?_)
                | (refine wpOrd_take (v := ?_) (by rfl) ?_ ?_; rotate_left 1; (intro wx hSx; (try dsimp only at hSx); go_simp; try with_reducible rfl)))
              (try simp only [Act.put, List.setIfInBounds_toArray, List.set_cons_zero, List.set_cons_succ]))
            refine wpOrd_done ?_
            all_goals
              go_wp2
              go_roundw
              case rel => exact ⟨i + 1, by omega, by go_num, by assumption⟩
              case measure => simp [intOf]; omega
        · have HF2 : Hid (∀ s W, Hid (Below w1.heap.size w1 W) → Calls Try.prog 13 #[.slice AT m ct, .string s] W fun e w' => e = .returned (.int .i64 (idx (NM.srt xs) s)) ∧ Below W.heap.size W w') := by
            intro s W hW
            have h := find_any AT ct (NM.srt xs) s W (by rw [HM.out]; omega) (HT.out.below hW.out)
            rw [HM.out] at h
            exact h
          obtain ⟨wo, rfl⟩ : ∃ wo : World, wo = wr := ⟨_, rfl⟩
          go_wp2
          go_loopw [9] (fun iv wr => ∃ j : Nat, j ≤ n ∧ iv = .int .i64 j ∧ Hid (Below w1.heap.size w1 wr)) (fun iv _ => n - (intOf iv).toNat)
          case atStart => exact ⟨0, by omega, rfl, HW.out⟩
          case round =>
            obtain ⟨j, hj, rfl, HWJ⟩ := hrel
            by_cases hlt2 : j < n
            · obtain ⟨bk, o, rfl, hc⟩ := (HA.out.below (HB1.out.trans (HWJ.out.mono HB1.out.size))).at (k := j) (by rw [HN.out]; exact hlt2)
              have hcj : wr.cell? ⟨bk, o + j, none⟩ = some (.string (NM.at_ xs j)) := hc j (by rw [HN.out]; exact hlt2)
              have hpos : ¬ idx (NM.srt xs) (NM.at_ xs j) < 0 := fun h => (idx_neg _ _).1 h ((NM.srt_mem xs _).2 (NM.at_mem (by rw [HN.out]; exact hlt2)))
              clear hc
              generalize NM.at_ xs j = x at *
              have HFC := Lib.hid (HF2.out x wr HWJ)
              generalize idx (NM.srt xs) x = r at *
              go_wp2_with fail
              refine HFC.out.mono ?_
              rintro e w2 ⟨rfl, hb2⟩
              have HW2 := hid_step HWJ hb2; clear hb2
              go_wp2
              go_roundw
              case rel => exact ⟨j + 1, by omega, by go_num, HW2⟩
              case measure => simp [intOf]; omega
            · have hb0 := HWJ.out
              have HBW := Lib.hid (HB1.out.trans (HWJ.out.mono HB1.out.size))
              have HTW := Lib.hid (HT.out.below hb0)
              clear hb0
              have heq := NM.str_eq a b
              have hl1 := less_any a b
              have hl2 := less_any b a
              have HTC : Hid (∀ W, Below w1.heap.size w1 W → Calls Try.prog 15 #[.slice AT m ct] W fun e w' => e = .returned (.int .i64 (-1)) ∧ Below W.heap.size W w') := by
                intro W hW
                have h := twice_any AT ct (NM.srt xs) W (by rw [HM.out]; omega) (fun x hx => by have := hx2 x ((NM.srt_mem xs x).1 hx); omega) (HT.out.below hW)
                rw [HM.out, twc_srt] at h
                exact h
              have HSC : Hid (∀ W, Below w1.heap.size w1 W → Calls Try.prog 19 #[.slice AT m ct] W fun e w' => ∃ A' c', e = .returned (.slice A' m c') ∧ Strs w' A' (NM.srt xs) ∧ Below W.heap.size W w') := by
                intro W hW
                have h := sort_any AT ct (NM.srt xs) W (by rw [HM.out]; omega) (HT.out.below hW)
                rw [NM.srt_fix, HM.out] at h
                exact h
              have HEC : Hid (∀ A' c' W, Below w1.heap.size w1 W → Strs W A' (NM.srt xs) → Calls Try.prog 17 #[.slice A' m c', .slice AT m ct] W fun e w' => e = .returned (.bool true) ∧ Below W.heap.size W w') := by
                intro A' c' W hW hS
                have h := same_any A' AT c' ct (NM.srt xs) (NM.srt xs) W (by rw [HM.out]; omega) hS (HT.out.below hW)
                rw [HM.out, show same (NM.srt xs) (NM.srt xs) = true from decide_eq_true rfl] at h
                exact h
              rcases NM.less_tri a b with ⟨e1, e2, e3⟩ | ⟨e1, e2, e3⟩ | ⟨e1, e2, e3⟩
              · rw [decide_eq_false e3] at heq
                rw [e1] at hl1; rw [e2] at hl2
                have HL1' := Lib.hid hl1; have HL2' := Lib.hid hl2
                clear hl1 hl2 e1 e2 e3
                have HW3 : Hid (Below w1.heap.size w1 (wr.alloc (.cells #[.bool true, .bool false, .bool false] 4))) := HWJ.out.alloc HWJ.out.size _
                have HB3 := Lib.hid (HB1.out.trans (HW3.out.mono HB1.out.size))
                go_wp2_with fail
                refine (HL1'.out _).mono ?_
                rintro e w2 ⟨rfl, rfl⟩
                go_wp2_with fail
                refine (HL2'.out _).mono ?_
                rintro e w2 ⟨rfl, rfl⟩
                go_wp2_with fail
                refine wp_loop_rounds 4 ?_
                rw [rounds_succ]
                go_wp2_with fail
                rw [rounds_succ]
                go_wp2_with fail
                rw [rounds_succ]
                go_wp2_with fail
                rw [rounds_succ]
                go_wp2_with fail
                refine (HTC.out _ HW3.out).mono ?_
                rintro e w4 ⟨rfl, hb4⟩
                have HW4 := hid_step HW3 hb4; clear hb4
                go_wp2_with fail
                refine (HSC.out _ HW4.out).mono ?_
                rintro e w5 ⟨A5, c5, rfl, hs5, hb5⟩
                have HW5 := hid_step HW4 hb5
                have HS5 := Lib.hid hs5; clear hb5 hs5
                go_wp2_with fail
                refine (HEC.out A5 c5 _ HW5.out HS5.out).mono ?_
                rintro e w6 ⟨rfl, hb6⟩
                have HW6 := hid_step HW5 hb6; clear hb6
                go_wp2_with fail
                refine (HAL.out _).mono ?_
                rintro e w7 ⟨rfl, hb7⟩
                have HW7 := hid_step HW6 hb7; clear hb7
                go_wp2
                go_ret
                exact ⟨rfl, HB1.out.trans (HW7.out.mono HB1.out.size)⟩
              · rw [decide_eq_true e3] at heq
                rw [e1] at hl1; rw [e2] at hl2
                have HL1' := Lib.hid hl1; have HL2' := Lib.hid hl2
                clear hl1 hl2 e1 e2 e3
                have HW3 : Hid (Below w1.heap.size w1 (wr.alloc (.cells #[.bool false, .bool false, .bool true] 4))) := HWJ.out.alloc HWJ.out.size _
                have HB3 := Lib.hid (HB1.out.trans (HW3.out.mono HB1.out.size))
                go_wp2_with fail
                refine (HL1'.out _).mono ?_
                rintro e w2 ⟨rfl, rfl⟩
                go_wp2_with fail
                refine (HL2'.out _).mono ?_
                rintro e w2 ⟨rfl, rfl⟩
                go_wp2_with fail
                refine wp_loop_rounds 4 ?_
                rw [rounds_succ]
                go_wp2_with fail
                rw [rounds_succ]
                go_wp2_with fail
                rw [rounds_succ]
                go_wp2_with fail
                rw [rounds_succ]
                go_wp2_with fail
                refine (HTC.out _ HW3.out).mono ?_
                rintro e w4 ⟨rfl, hb4⟩
                have HW4 := hid_step HW3 hb4; clear hb4
                go_wp2_with fail
                refine (HSC.out _ HW4.out).mono ?_
                rintro e w5 ⟨A5, c5, rfl, hs5, hb5⟩
                have HW5 := hid_step HW4 hb5
                have HS5 := Lib.hid hs5; clear hb5 hs5
                go_wp2_with fail
                refine (HEC.out A5 c5 _ HW5.out HS5.out).mono ?_
                rintro e w6 ⟨rfl, hb6⟩
                have HW6 := hid_step HW5 hb6; clear hb6
                go_wp2_with fail
                refine (HAL.out _).mono ?_
                rintro e w7 ⟨rfl, hb7⟩
                have HW7 := hid_step HW6 hb7; clear hb7
                go_wp2
                go_ret
                exact ⟨rfl, HB1.out.trans (HW7.out.mono HB1.out.size)⟩
              · rw [decide_eq_false e3] at heq
                rw [e1] at hl1; rw [e2] at hl2
                have HL1' := Lib.hid hl1; have HL2' := Lib.hid hl2
                clear hl1 hl2 e1 e2 e3
                have HW3 : Hid (Below w1.heap.size w1 (wr.alloc (.cells #[.bool false, .bool true, .bool false] 4))) := HWJ.out.alloc HWJ.out.size _
                have HB3 := Lib.hid (HB1.out.trans (HW3.out.mono HB1.out.size))
                go_wp2_with fail
                refine (HL1'.out _).mono ?_
                rintro e w2 ⟨rfl, rfl⟩
                go_wp2_with fail
                refine (HL2'.out _).mono ?_
                rintro e w2 ⟨rfl, rfl⟩
                go_wp2_with fail
                refine wp_loop_rounds 4 ?_
                rw [rounds_succ]
                go_wp2_with fail
                rw [rounds_succ]
                go_wp2_with fail
                rw [rounds_succ]
                go_wp2_with fail
                rw [rounds_succ]
                go_wp2_with fail
                refine (HTC.out _ HW3.out).mono ?_
                rintro e w4 ⟨rfl, hb4⟩
                have HW4 := hid_step HW3 hb4; clear hb4
                go_wp2_with fail
                refine (HSC.out _ HW4.out).mono ?_
                rintro e w5 ⟨A5, c5, rfl, hs5, hb5⟩
                have HW5 := hid_step HW4 hb5
                have HS5 := Lib.hid hs5; clear hb5 hs5
                go_wp2_with fail
                refine (HEC.out A5 c5 _ HW5.out HS5.out).mono ?_
                rintro e w6 ⟨rfl, hb6⟩
                have HW6 := hid_step HW5 hb6; clear hb6
                go_wp2_with fail
                refine (HAL.out _).mono ?_
                rintro e w7 ⟨rfl, hb7⟩
                have HW7 := hid_step HW6 hb7; clear hb7
                go_wp2
                go_ret
                exact ⟨rfl, HB1.out.trans (HW7.out.mono HB1.out.size)⟩
    · rw [h1] at HL1; rw [h2] at HL2
      clear h1 h2
      have HAL := Lib.hid alive_any
      generalize hn : xs.length = n at *
      go_enter Try.func6, Try.ntmps6
      go_wp2_with fail
      refine HL1.out.mono ?_
      rintro e w1 ⟨rfl, rfl⟩
      go_wp2_with fail
      refine HL2.out.mono ?_
      rintro e w1 ⟨rfl, rfl⟩
      go_wp2_with fail
      refine (HAL.out _).mono ?_
      rintro e w1 ⟨rfl, hb1⟩
      have HB1 := Lib.hid (HB0.out.trans (hb1.mono HB0.out.size))
      clear hb1
      go_wp2
      go_ret
      exact ⟨rfl, HB1.out⟩
  · rw [h1] at HL1
    clear h1
    have HAL := Lib.hid alive_any
    generalize hn : xs.length = n at *
    go_enter Try.func6, Try.ntmps6
    go_wp2_with fail
    refine HL1.out.mono ?_
    rintro e w1 ⟨rfl, rfl⟩
    go_wp2_with fail
    refine (HAL.out _).mono ?_
    rintro e w1 ⟨rfl, hb1⟩
    have HB1 := Lib.hid hb1
    clear hb1
    go_wp2
    go_ret
    exact ⟨rfl, HB1.out⟩
end Go.Proofs.Ytjmhnbokojkceaa
