/-
  Sorting rows of words: reversing a part, and the heap. Conditions: indices within the row.
-/
import Derived.Test.YtopckkdmldhmlaaDoorSortB
import Derived.BigRegion
namespace Go.Proofs.YtopckkdmldhmlaaDoor
open Go.RowKit RM
open Go.Sort hiding Below ahead

/-- What a place of the row holds. -/
theorem at_cell {wr : World} {blk off n : Nat} {d : Array Nat} (HN : Hid (d.size = n)) (HH : Hid (Holds eu wr blk off d)) (j : Nat) (hj : j < n) :
    ∃ x : Nat, Hid (x = d[j]!) ∧ wr.cell? ⟨blk, off + j, none⟩ = some (.int .u64 (x : Int)) ∧ wr.frozen? ⟨blk, off + j, none⟩ = false := by
  obtain ⟨h1, h2⟩ := HH.out j (by rw [HN.out]; exact hj)
  exact ⟨d[j]!, rfl, h1, h2⟩
theorem wr_in (z : Int) (h1 : -1000000 ≤ z) (h2 : z ≤ 1000000) : IntKind.i64.wrap z = z := IntWalk.i64_in z ⟨by omega, by omega⟩
/-- What two stores make. -/
theorem swp_holds {wr w : World} {blk off n x y : Nat} {d : Array Nat} (HN : Hid (d.size = n)) (HH : Hid (Holds eu wr blk off d)) (HM : Hid (Mut blk w wr)) (i j : Nat) (HX : Hid (x = d[j]!)) (HY : Hid (y = d[i]!)) (hi : i < n) (hj : j < n) :
    Hid ((swp d i j).size = n) ∧ Hid (Holds eu ((wr.setCell ⟨blk, off + i, none⟩ (.int .u64 (x : Int))).setCell ⟨blk, off + j, none⟩ (.int .u64 (y : Int))) blk off (swp d i j)) ∧ Hid (Mut blk w ((wr.setCell ⟨blk, off + i, none⟩ (.int .u64 (x : Int))).setCell ⟨blk, off + j, none⟩ (.int .u64 (y : Int)))) :=
  ⟨by rw [swp_size]; exact HN, holds_swp HH.out i j x y (by rw [HN.out]; exact hi) (by rw [HN.out]; exact hj) HX.out HY.out, HM.out.trans (mut_set2 _ _ _ _ _ _)⟩

set_option maxHeartbeats 1000000 in
theorem reverse_any (blk off cap a b : Nat) (d : Array Nat) (w : World) (hH : Holds eu w blk off d) (hab : a < b) (hb : b ≤ d.size) (hs : d.size ≤ 64) :
    Calls Tryd.prog 70 #[.slice (some ⟨blk, off, none⟩) d.size cap, .int .i64 (a : Int), .int .i64 (b : Int)] w fun e w' => e = .returned (.tuple #[]) ∧ Holds eu w' blk off (reverseRange d a b) ∧ Mut blk w w' := by
  have HH := Lib.hid hH; clear hH
  generalize hn : d.size = n at *
  have HN := Lib.hid hn; clear hn
  obtain ⟨c, rfl⟩ : ∃ c, b = c + 1 := ⟨b - 1, by omega⟩
  have HT0 : Hid (reverseLoop a c d = reverseRange d a (c + 1)) := rfl
  have w1 : IntKind.i64.wrap (c : Int) = (c : Int) := IntWalk.i64_in _ ⟨by omega, by omega⟩
  go_enter Tryd.func70, Tryd.ntmps70
  go_wp2_with fail
  go_loopw [6, 7] (fun iv jv wr => ∃ (i j : Nat) (dk : Array Nat), iv = .int .i64 i ∧ jv = .int .i64 j ∧ a ≤ i ∧ j ≤ c ∧ Hid (dk.size = n) ∧ Hid (Holds eu wr blk off dk) ∧ Hid (Mut blk w wr) ∧ Hid (reverseLoop i j dk = reverseRange d a (c + 1))) (fun iv jv _ => (intOf jv).toNat + 1 - (intOf iv).toNat)
  case atStart => exact ⟨a, c, d, rfl, by go_num, by omega, by omega, HN, HH, Mut.refl _ _, HT0⟩
  case round =>
    clear HH HN HT0 w1
    obtain ⟨i, j, dk, rfl, rfl, hi, hj, HN, HH, HM, HT⟩ := hrel
    by_cases hlt : i < j
    · obtain ⟨k, rfl⟩ : ∃ k, j = k + 1 := ⟨j - 1, by omega⟩
      obtain ⟨x, HX, hc1, hf1⟩ := at_cell HN HH (k + 1) (by omega)
      obtain ⟨y, HY, hc2, hf2⟩ := at_cell HN HH i (by omega)
      obtain ⟨HN2, HH2, HM2⟩ := swp_holds HN HH HM i (k + 1) HX HY (by omega) (by omega)
      have HT2 : Hid (reverseLoop (i + 1) k (swp dk i (k + 1)) = reverseRange d a (c + 1)) := by
        have := HT.out
        rw [reverseLoop, if_pos hlt] at this
        exact this
      have hr0 : (0 : Int) ≤ (k : Int) + 1 := by omega
      have hr1 : (k : Int) + 1 < (n : Int) := by omega
      have hr2 : (i : Int) < (n : Int) := by omega
      have hgt : (i : Int) < (k : Int) + 1 := by omega
      have w1 : IntKind.i64.wrap (k : Int) = (k : Int) := IntWalk.i64_in _ ⟨by omega, by omega⟩
      clear hlt
      go_wp2_with fail
      go_region
      go_wp2_with fail
      go_roundw
      case rel => exact ⟨i + 1, k, _, by go_num, by go_num, by omega, by omega, HN2, HH2, HM2.out.drew, HT2⟩
      case measure => simp [intOf]; omega
    · have HT2 : Hid (dk = reverseRange d a (c + 1)) := by
        have := HT.out
        rw [reverseLoop, if_neg hlt] at this
        exact this
      go_wp2_with fail
      go_end0
      rw [← HT2.out]
      exact ⟨rfl, HH.out, HM.out⟩

theorem sift_stop {hi first root : Nat} {d : Array Nat} (h : hi ≤ 2 * root + 1) : siftDown ltN hi first root d = d := by
  rw [siftDown, dif_pos h]
theorem sift_step {hi first root c : Nat} {d : Array Nat} (h : (c = 2 * root + 1 + 1 ∧ c < hi ∧ ltN d[first + (2 * root + 1)]! d[first + (2 * root + 1) + 1]! = true) ∨ (c = 2 * root + 1 ∧ c < hi ∧ (c + 1 < hi → ltN d[first + (2 * root + 1)]! d[first + (2 * root + 1) + 1]! = false))) :
    siftDown ltN hi first root d = if ltN d[first + root]! d[first + c]! then siftDown ltN hi first c (swp d (first + root) (first + c)) else d := by
  rw [siftDown]
  rcases h with ⟨rfl, h1, h2⟩ | ⟨rfl, h1, h2⟩
  · rw [dif_neg (by omega), if_pos (by simp [h2]; omega)]
    cases ltN d[first + root]! d[first + (2 * root + 1 + 1)]! <;> simp
    omega
  · rw [dif_neg (by omega), if_neg (by simp; exact h2)]
    cases ltN d[first + root]! d[first + (2 * root + 1)]! <;> simp
set_option maxHeartbeats 1000000 in
theorem sift_any (blk off cap lo hi first : Nat) (d : Array Nat) (w : World) (hH : Holds eu w blk off d) (hb : first + hi ≤ d.size) (hlo : lo ≤ 64) (hs : d.size ≤ 64) :
    Calls Tryd.prog 78 #[.slice (some ⟨blk, off, none⟩) d.size cap, .int .i64 (lo : Int), .int .i64 (hi : Int), .int .i64 (first : Int)] w fun e w' => e = .returned (.tuple #[]) ∧ Holds eu w' blk off (siftDown ltN hi first lo d) ∧ Mut blk w w' := by
  have HH := Lib.hid hH; clear hH
  generalize hn : d.size = n at *
  have HN := Lib.hid hn; clear hn
  go_enter Tryd.func78, Tryd.ntmps78
  go_wp2_with fail
  go_loopw [8, 9] (fun rv _ wr => ∃ (r : Nat) (dk : Array Nat), rv = .int .i64 r ∧ r ≤ 64 ∧ Hid (dk.size = n) ∧ Hid (Holds eu wr blk off dk) ∧ Hid (Mut blk w wr) ∧ Hid (siftDown ltN hi first r dk = siftDown ltN hi first lo d)) (fun rv _ _ => hi - (intOf rv).toNat)
  case atStart => exact ⟨lo, d, rfl, hlo, HN, HH, Mut.refl _ _, rfl⟩
  case round =>
    clear HH HN
    obtain ⟨r, dk, rfl, hr, HN, HH, HM, HT⟩ := hrel
    by_cases hlt : hi ≤ 2 * r + 1
    · have HT2 : Hid (dk = siftDown ltN hi first lo d) := by
        have := HT.out
        rw [sift_stop hlt] at this
        exact this
      have hgt : (hi : Int) ≤ 2 * (r : Int) + 1 := by omega
      go_wp2_with fail
      go_end0
      rw [← HT2.out]
      exact ⟨rfl, HH.out, HM.out⟩
    · have hgt : ¬ (hi : Int) ≤ 2 * (r : Int) + 1 := by omega
      go_wp2_with fail
      clear hgt
      obtain ⟨c, hc⟩ : ∃ c, c = 2 * r + 1 := ⟨_, rfl⟩
      have e1 : 2 * (r : Int) + 1 = (c : Int) := by omega
      simp only [e1]
      clear e1
      have HC := Lib.hid hc; clear hc
      have hcr : r < c := by have := HC.out; omega
      have hch : c < hi := by have := HC.out; omega
      clear hlt
      by_cases hc2 : c + 1 < hi
      · obtain ⟨x, HX, hc1, hf1⟩ := at_cell HN HH (first + c) (by omega)
        obtain ⟨y, HY, hc2, hf2⟩ := at_cell HN HH (first + c + 1) (by omega)
        obtain ⟨S, HS, c1, c2, PS⟩ := ex_cells2 hc1 hc2 HH HM
        have hgt : (c : Int) + 1 < (hi : Int) := by omega
        have hr0 : (0 : Int) ≤ (first : Int) + (c : Int) := by omega
        have hr1 : (first : Int) + (c : Int) < (n : Int) := by omega
        have hr2 : (0 : Int) ≤ (first : Int) + (c : Int) + 1 := by omega
        have hr3 : (first : Int) + (c : Int) + 1 < (n : Int) := by omega
        have w1 := wr_in ((c : Int) + 1) (by omega) (by omega)
        have w2 := wr_in ((first : Int) + (c : Int)) (by omega) (by omega)
        have w3 := wr_in ((first : Int) + (c : Int) + 1) (by omega) (by omega)
        have t1 : ((first : Int) + (c : Int)).toNat = first + c := by omega
        have t2 : ((first : Int) + (c : Int) + 1).toNat = first + c + 1 := by omega
        cases hl : ltN x y with
        | true =>
          have HL := Lib.hid hl; clear hl
          refine wp_region_ord S [(0, true), (1, true), (2, true), (3, true), (4, true), (5, true), (6, true), (7, true), (8, true), (9, true), (10, true), (11, true), (12, true), (13, true), (14, true), (15, true), (16, true), (17, true), (18, false), (19, true)] (by kernel_rfl) (by kernel_rfl) rfl (by kernel_rfl) HS.out ?_
          iterate 18
            (refine wpOrd_step (o := ?_) ?_ ?_; rotate_left 1; (simp only [List.getElem?_toArray, List.getElem?_cons_succ, List.getElem?_cons_zero]; with_reducible rfl))
            (first
                | (refine wpOrd_skip (by rfl) ?_)
                | (refine wpOrd_take (v := ?_) (by rfl) ?_ ?_; rotate_left 1; (intro wx hSx; have hc_0 := c1 wx hSx; have hc_1 := c2 wx hSx; go_simp; try with_reducible rfl)))
            (try simp only [Act.put, List.setIfInBounds_toArray, List.set_cons_zero, List.set_cons_succ])
          (refine wpOrd_solo (o := ?_) ?_ ?_; rotate_left 1; (simp only [List.getElem?_toArray, List.getElem?_cons_succ, List.getElem?_cons_zero]; with_reducible rfl))
          intro K hK
          go_simp
          go_at_call 72
          refine (less_any _ _ _).mono ?_
          rintro e w' ⟨rfl, rfl⟩
          refine hK.out _ _ HS.out ?_
          clear hK K
          (try simp only [Act.put, List.setIfInBounds_toArray, List.set_cons_zero, List.set_cons_succ])
          rw [HL.out]
          iterate 1
            (refine wpOrd_step (o := ?_) ?_ ?_; rotate_left 1; (simp only [List.getElem?_toArray, List.getElem?_cons_succ, List.getElem?_cons_zero]; with_reducible rfl))
            (first
                | (refine wpOrd_skip (by rfl) ?_)
                | (refine wpOrd_take (v := ?_) (by rfl) ?_ ?_; rotate_left 1; (intro wx hSx; go_simp; try with_reducible rfl)))
            (try simp only [Act.put, List.setIfInBounds_toArray, List.set_cons_zero, List.set_cons_succ])
          refine wpOrd_done ?_
          clear PS HS c1 c2 hc1 hc2 hf1 hf2 hr0 hr1 hr2 hr3 w2 w3 t1 t2
          go_wp2_with fail
          obtain ⟨m, hm⟩ : ∃ m, m = c + 1 := ⟨_, rfl⟩
          have e1 : (c : Int) + 1 = (m : Int) := by omega
          simp only [e1]
          clear e1 w1
          have HCH : Hid ((m = 2 * r + 1 + 1 ∧ m < hi ∧ ltN dk[first + (2 * r + 1)]! dk[first + (2 * r + 1) + 1]! = true) ∨ (m = 2 * r + 1 ∧ m < hi ∧ (m + 1 < hi → ltN dk[first + (2 * r + 1)]! dk[first + (2 * r + 1) + 1]! = false))) :=
            .inl ⟨by rw [hm, HC.out], by omega, by rw [← HC.out, ← HX.out, ← HY.out]; exact HL.out⟩
          have hmr : r < m := by omega
          have hmh : m < hi := by omega
          clear HX HY HL hm hgt S
          have HHd : Hid (Holds eu wr.drew blk off dk) := HH
          obtain ⟨x, HX, hc1, hf1⟩ := at_cell HN HH (first + r) (by omega)
          obtain ⟨y, HY, hc2, hf2⟩ := at_cell HN HH (first + m) (by omega)
          obtain ⟨S, HS, c1, c2, PS⟩ := ex_cells2 (show wr.drew.cell? ⟨blk, off + (first + r), none⟩ = some (.int .u64 (x : Int)) from hc1) (show wr.drew.cell? ⟨blk, off + (first + m), none⟩ = some (.int .u64 (y : Int)) from hc2) HHd (Lib.hid HM.out.drew)
          have hr0 : (0 : Int) ≤ (first : Int) + (r : Int) := by omega
          have hr1 : (first : Int) + (r : Int) < (n : Int) := by omega
          have hr2 : (0 : Int) ≤ (first : Int) + (m : Int) := by omega
          have hr3 : (first : Int) + (m : Int) < (n : Int) := by omega
          have w2 := wr_in ((first : Int) + (r : Int)) (by omega) (by omega)
          have w3 := wr_in ((first : Int) + (m : Int)) (by omega) (by omega)
          have t1 : ((first : Int) + (r : Int)).toNat = first + r := by omega
          have t2 : ((first : Int) + (m : Int)).toNat = first + m := by omega
          cases hl : ltN x y with
          | true =>
            have HL := Lib.hid hl; clear hl
            refine wp_region_ord S [(0, true), (1, true), (2, true), (3, true), (4, true), (5, true), (6, true), (7, true), (8, true), (9, true), (10, true), (11, true), (12, false), (13, true)] (by kernel_rfl) (by kernel_rfl) rfl (by kernel_rfl) HS.out ?_
            iterate 12
              (refine wpOrd_step (o := ?_) ?_ ?_; rotate_left 1; (simp only [List.getElem?_toArray, List.getElem?_cons_succ, List.getElem?_cons_zero]; with_reducible rfl))
              (first
                  | (refine wpOrd_skip (by rfl) ?_)
                  | (refine wpOrd_take (v := ?_) (by rfl) ?_ ?_; rotate_left 1; (intro wx hSx; have hc_0 := c1 wx hSx; have hc_1 := c2 wx hSx; go_simp; try with_reducible rfl)))
              (try simp only [Act.put, List.setIfInBounds_toArray, List.set_cons_zero, List.set_cons_succ])
            (refine wpOrd_solo (o := ?_) ?_ ?_; rotate_left 1; (simp only [List.getElem?_toArray, List.getElem?_cons_succ, List.getElem?_cons_zero]; with_reducible rfl))
            intro K hK
            go_simp
            go_at_call 72
            refine (less_any _ _ _).mono ?_
            rintro e w' ⟨rfl, rfl⟩
            refine hK.out _ _ HS.out ?_
            clear hK K
            (try simp only [Act.put, List.setIfInBounds_toArray, List.set_cons_zero, List.set_cons_succ])
            rw [HL.out]
            iterate 1
              (refine wpOrd_step (o := ?_) ?_ ?_; rotate_left 1; (simp only [List.getElem?_toArray, List.getElem?_cons_succ, List.getElem?_cons_zero]; with_reducible rfl))
              (first
                  | (refine wpOrd_skip (by rfl) ?_)
                  | (refine wpOrd_take (v := ?_) (by rfl) ?_ ?_; rotate_left 1; (intro wx hSx; go_simp; try with_reducible rfl)))
              (try simp only [Act.put, List.setIfInBounds_toArray, List.set_cons_zero, List.set_cons_succ])
            refine wpOrd_done ?_
            obtain ⟨HN2, HH2, HM2⟩ := swp_holds HN HH HM (first + r) (first + m) HY HX (by omega) (by omega)
            have HT2 : Hid (siftDown ltN hi first m (swp dk (first + r) (first + m)) = siftDown ltN hi first lo d) := by
              have h1 := HT.out
              rw [sift_step HCH.out, ← HX.out, ← HY.out, HL.out] at h1
              exact h1
            clear PS HS c1 c2
            go_wp2_with fail
            go_region
            go_wp2_with fail
            go_roundw
            case rel => exact ⟨m, _, by go_num, by omega, HN2, HH2, HM2.out.drew.drew.drew, HT2⟩
            case measure => simp [intOf]; omega
          | false =>
            have HL := Lib.hid hl; clear hl
            refine wp_region_ord S [(0, true), (1, true), (2, true), (3, true), (4, true), (5, true), (6, true), (7, true), (8, true), (9, true), (10, true), (11, true), (12, false), (13, true)] (by kernel_rfl) (by kernel_rfl) rfl (by kernel_rfl) HS.out ?_
            iterate 12
              (refine wpOrd_step (o := ?_) ?_ ?_; rotate_left 1; (simp only [List.getElem?_toArray, List.getElem?_cons_succ, List.getElem?_cons_zero]; with_reducible rfl))
              (first
                  | (refine wpOrd_skip (by rfl) ?_)
                  | (refine wpOrd_take (v := ?_) (by rfl) ?_ ?_; rotate_left 1; (intro wx hSx; have hc_0 := c1 wx hSx; have hc_1 := c2 wx hSx; go_simp; try with_reducible rfl)))
              (try simp only [Act.put, List.setIfInBounds_toArray, List.set_cons_zero, List.set_cons_succ])
            (refine wpOrd_solo (o := ?_) ?_ ?_; rotate_left 1; (simp only [List.getElem?_toArray, List.getElem?_cons_succ, List.getElem?_cons_zero]; with_reducible rfl))
            intro K hK
            go_simp
            go_at_call 72
            refine (less_any _ _ _).mono ?_
            rintro e w' ⟨rfl, rfl⟩
            refine hK.out _ _ HS.out ?_
            clear hK K
            (try simp only [Act.put, List.setIfInBounds_toArray, List.set_cons_zero, List.set_cons_succ])
            rw [HL.out]
            iterate 1
              (refine wpOrd_step (o := ?_) ?_ ?_; rotate_left 1; (simp only [List.getElem?_toArray, List.getElem?_cons_succ, List.getElem?_cons_zero]; with_reducible rfl))
              (first
                  | (refine wpOrd_skip (by rfl) ?_)
                  | (refine wpOrd_take (v := ?_) (by rfl) ?_ ?_; rotate_left 1; (intro wx hSx; go_simp; try with_reducible rfl)))
              (try simp only [Act.put, List.setIfInBounds_toArray, List.set_cons_zero, List.set_cons_succ])
            refine wpOrd_done ?_
            have HT2 : Hid (dk = siftDown ltN hi first lo d) := by
              have h1 := HT.out
              rw [sift_step HCH.out, ← HX.out, ← HY.out, HL.out] at h1
              exact h1
            clear PS HS c1 c2 hc1 hc2 hf1 hf2
            go_wp2_with fail
            refine bodyPost_ret (results_none rfl _ _ _) rfl ?_
            rw [← HT2.out]
            exact ⟨rfl, HH.out, HM.out.drew.drew⟩
          
        | false =>
          have HL := Lib.hid hl; clear hl
          refine wp_region_ord S [(0, true), (1, true), (2, true), (3, true), (4, true), (5, true), (6, true), (7, true), (8, true), (9, true), (10, true), (11, true), (12, true), (13, true), (14, true), (15, true), (16, true), (17, true), (18, false), (19, true)] (by kernel_rfl) (by kernel_rfl) rfl (by kernel_rfl) HS.out ?_
          iterate 18
            (refine wpOrd_step (o := ?_) ?_ ?_; rotate_left 1; (simp only [List.getElem?_toArray, List.getElem?_cons_succ, List.getElem?_cons_zero]; with_reducible rfl))
            (first
                | (refine wpOrd_skip (by rfl) ?_)
                | (refine wpOrd_take (v := ?_) (by rfl) ?_ ?_; rotate_left 1; (intro wx hSx; have hc_0 := c1 wx hSx; have hc_1 := c2 wx hSx; go_simp; try with_reducible rfl)))
            (try simp only [Act.put, List.setIfInBounds_toArray, List.set_cons_zero, List.set_cons_succ])
          (refine wpOrd_solo (o := ?_) ?_ ?_; rotate_left 1; (simp only [List.getElem?_toArray, List.getElem?_cons_succ, List.getElem?_cons_zero]; with_reducible rfl))
          intro K hK
          go_simp
          go_at_call 72
          refine (less_any _ _ _).mono ?_
          rintro e w' ⟨rfl, rfl⟩
          refine hK.out _ _ HS.out ?_
          clear hK K
          (try simp only [Act.put, List.setIfInBounds_toArray, List.set_cons_zero, List.set_cons_succ])
          rw [HL.out]
          iterate 1
            (refine wpOrd_step (o := ?_) ?_ ?_; rotate_left 1; (simp only [List.getElem?_toArray, List.getElem?_cons_succ, List.getElem?_cons_zero]; with_reducible rfl))
            (first
                | (refine wpOrd_skip (by rfl) ?_)
                | (refine wpOrd_take (v := ?_) (by rfl) ?_ ?_; rotate_left 1; (intro wx hSx; go_simp; try with_reducible rfl)))
            (try simp only [Act.put, List.setIfInBounds_toArray, List.set_cons_zero, List.set_cons_succ])
          refine wpOrd_done ?_
          clear PS HS c1 c2 hc1 hc2 hf1 hf2 hr0 hr1 hr2 hr3 w2 w3 t1 t2 w1
          go_wp2_with fail
          have HCH : Hid ((c = 2 * r + 1 + 1 ∧ c < hi ∧ ltN dk[first + (2 * r + 1)]! dk[first + (2 * r + 1) + 1]! = true) ∨ (c = 2 * r + 1 ∧ c < hi ∧ (c + 1 < hi → ltN dk[first + (2 * r + 1)]! dk[first + (2 * r + 1) + 1]! = false))) :=
            .inr ⟨HC.out, by omega, fun _ => by rw [← HC.out, ← HX.out, ← HY.out]; exact HL.out⟩
          clear HX HY HL hgt S
          have HHd : Hid (Holds eu wr.drew blk off dk) := HH
          obtain ⟨x, HX, hc1, hf1⟩ := at_cell HN HH (first + r) (by omega)
          obtain ⟨y, HY, hc2, hf2⟩ := at_cell HN HH (first + c) (by omega)
          obtain ⟨S, HS, c1, c2, PS⟩ := ex_cells2 (show wr.drew.cell? ⟨blk, off + (first + r), none⟩ = some (.int .u64 (x : Int)) from hc1) (show wr.drew.cell? ⟨blk, off + (first + c), none⟩ = some (.int .u64 (y : Int)) from hc2) HHd (Lib.hid HM.out.drew)
          have hr0 : (0 : Int) ≤ (first : Int) + (r : Int) := by omega
          have hr1 : (first : Int) + (r : Int) < (n : Int) := by omega
          have hr2 : (0 : Int) ≤ (first : Int) + (c : Int) := by omega
          have hr3 : (first : Int) + (c : Int) < (n : Int) := by omega
          have w2 := wr_in ((first : Int) + (r : Int)) (by omega) (by omega)
          have w3 := wr_in ((first : Int) + (c : Int)) (by omega) (by omega)
          have t1 : ((first : Int) + (r : Int)).toNat = first + r := by omega
          have t2 : ((first : Int) + (c : Int)).toNat = first + c := by omega
          cases hl : ltN x y with
          | true =>
            have HL := Lib.hid hl; clear hl
            refine wp_region_ord S [(0, true), (1, true), (2, true), (3, true), (4, true), (5, true), (6, true), (7, true), (8, true), (9, true), (10, true), (11, true), (12, false), (13, true)] (by kernel_rfl) (by kernel_rfl) rfl (by kernel_rfl) HS.out ?_
            iterate 12
              (refine wpOrd_step (o := ?_) ?_ ?_; rotate_left 1; (simp only [List.getElem?_toArray, List.getElem?_cons_succ, List.getElem?_cons_zero]; with_reducible rfl))
              (first
                  | (refine wpOrd_skip (by rfl) ?_)
                  | (refine wpOrd_take (v := ?_) (by rfl) ?_ ?_; rotate_left 1; (intro wx hSx; have hc_0 := c1 wx hSx; have hc_1 := c2 wx hSx; go_simp; try with_reducible rfl)))
              (try simp only [Act.put, List.setIfInBounds_toArray, List.set_cons_zero, List.set_cons_succ])
            (refine wpOrd_solo (o := ?_) ?_ ?_; rotate_left 1; (simp only [List.getElem?_toArray, List.getElem?_cons_succ, List.getElem?_cons_zero]; with_reducible rfl))
            intro K hK
            go_simp
            go_at_call 72
            refine (less_any _ _ _).mono ?_
            rintro e w' ⟨rfl, rfl⟩
            refine hK.out _ _ HS.out ?_
            clear hK K
            (try simp only [Act.put, List.setIfInBounds_toArray, List.set_cons_zero, List.set_cons_succ])
            rw [HL.out]
            iterate 1
              (refine wpOrd_step (o := ?_) ?_ ?_; rotate_left 1; (simp only [List.getElem?_toArray, List.getElem?_cons_succ, List.getElem?_cons_zero]; with_reducible rfl))
              (first
                  | (refine wpOrd_skip (by rfl) ?_)
                  | (refine wpOrd_take (v := ?_) (by rfl) ?_ ?_; rotate_left 1; (intro wx hSx; go_simp; try with_reducible rfl)))
              (try simp only [Act.put, List.setIfInBounds_toArray, List.set_cons_zero, List.set_cons_succ])
            refine wpOrd_done ?_
            obtain ⟨HN2, HH2, HM2⟩ := swp_holds HN HH HM (first + r) (first + c) HY HX (by omega) (by omega)
            have HT2 : Hid (siftDown ltN hi first c (swp dk (first + r) (first + c)) = siftDown ltN hi first lo d) := by
              have h1 := HT.out
              rw [sift_step HCH.out, ← HX.out, ← HY.out, HL.out] at h1
              exact h1
            clear PS HS c1 c2
            go_wp2_with fail
            go_region
            go_wp2_with fail
            go_roundw
            case rel => exact ⟨c, _, by go_num, by omega, HN2, HH2, HM2.out.drew.drew.drew, HT2⟩
            case measure => simp [intOf]; omega
          | false =>
            have HL := Lib.hid hl; clear hl
            refine wp_region_ord S [(0, true), (1, true), (2, true), (3, true), (4, true), (5, true), (6, true), (7, true), (8, true), (9, true), (10, true), (11, true), (12, false), (13, true)] (by kernel_rfl) (by kernel_rfl) rfl (by kernel_rfl) HS.out ?_
            iterate 12
              (refine wpOrd_step (o := ?_) ?_ ?_; rotate_left 1; (simp only [List.getElem?_toArray, List.getElem?_cons_succ, List.getElem?_cons_zero]; with_reducible rfl))
              (first
                  | (refine wpOrd_skip (by rfl) ?_)
                  | (refine wpOrd_take (v := ?_) (by rfl) ?_ ?_; rotate_left 1; (intro wx hSx; have hc_0 := c1 wx hSx; have hc_1 := c2 wx hSx; go_simp; try with_reducible rfl)))
              (try simp only [Act.put, List.setIfInBounds_toArray, List.set_cons_zero, List.set_cons_succ])
            (refine wpOrd_solo (o := ?_) ?_ ?_; rotate_left 1; (simp only [List.getElem?_toArray, List.getElem?_cons_succ, List.getElem?_cons_zero]; with_reducible rfl))
            intro K hK
            go_simp
            go_at_call 72
            refine (less_any _ _ _).mono ?_
            rintro e w' ⟨rfl, rfl⟩
            refine hK.out _ _ HS.out ?_
            clear hK K
            (try simp only [Act.put, List.setIfInBounds_toArray, List.set_cons_zero, List.set_cons_succ])
            rw [HL.out]
            iterate 1
              (refine wpOrd_step (o := ?_) ?_ ?_; rotate_left 1; (simp only [List.getElem?_toArray, List.getElem?_cons_succ, List.getElem?_cons_zero]; with_reducible rfl))
              (first
                  | (refine wpOrd_skip (by rfl) ?_)
                  | (refine wpOrd_take (v := ?_) (by rfl) ?_ ?_; rotate_left 1; (intro wx hSx; go_simp; try with_reducible rfl)))
              (try simp only [Act.put, List.setIfInBounds_toArray, List.set_cons_zero, List.set_cons_succ])
            refine wpOrd_done ?_
            have HT2 : Hid (dk = siftDown ltN hi first lo d) := by
              have h1 := HT.out
              rw [sift_step HCH.out, ← HX.out, ← HY.out, HL.out] at h1
              exact h1
            clear PS HS c1 c2 hc1 hc2 hf1 hf2
            go_wp2_with fail
            refine bodyPost_ret (results_none rfl _ _ _) rfl ?_
            rw [← HT2.out]
            exact ⟨rfl, HH.out, HM.out.drew.drew⟩
          
      · have hgt : ¬ (c : Int) + 1 < (hi : Int) := by omega
        have w1 := wr_in ((c : Int) + 1) (by omega) (by omega)
        obtain ⟨S, HS, PS⟩ : ∃ S : World → Prop, Hid (S wr.drew) ∧ Hid (∀ w', S w' → w' = wr.drew) := ⟨fun w' => w' = wr.drew, rfl, fun _ h => h⟩
        refine wp_region_ord S [(0, true), (1, true), (2, true), (3, true), (4, true), (5, true), (6, true), (7, true), (8, true), (9, true), (10, true), (11, true), (12, true), (13, true), (14, true), (15, true), (16, true), (17, true), (18, false), (19, true)] (by kernel_rfl) (by kernel_rfl) rfl (by kernel_rfl) HS.out ?_
        iterate 18
          (refine wpOrd_step (o := ?_) ?_ ?_; rotate_left 1; (simp only [List.getElem?_toArray, List.getElem?_cons_succ, List.getElem?_cons_zero]; with_reducible rfl))
          (first
              | (refine wpOrd_skip (by rfl) ?_)
              | (refine wpOrd_take (v := ?_) (by rfl) ?_ ?_; rotate_left 1; (intro wx hSx; go_simp; try with_reducible rfl)))
          (try simp only [Act.put, List.setIfInBounds_toArray, List.set_cons_zero, List.set_cons_succ])
        (refine wpOrd_solo (o := ?_) ?_ ?_; rotate_left 1; (simp only [List.getElem?_toArray, List.getElem?_cons_succ, List.getElem?_cons_zero]; with_reducible rfl))
        intro K hK
        go_simp
        refine hK.out _ _ HS.out ?_
        clear hK K
        (try simp only [Act.put, List.setIfInBounds_toArray, List.set_cons_zero, List.set_cons_succ])
        iterate 1
          (refine wpOrd_step (o := ?_) ?_ ?_; rotate_left 1; (simp only [List.getElem?_toArray, List.getElem?_cons_succ, List.getElem?_cons_zero]; with_reducible rfl))
          (first
              | (refine wpOrd_skip (by rfl) ?_)
              | (refine wpOrd_take (v := ?_) (by rfl) ?_ ?_; rotate_left 1; (intro wx hSx; go_simp; try with_reducible rfl)))
          (try simp only [Act.put, List.setIfInBounds_toArray, List.set_cons_zero, List.set_cons_succ])
        refine wpOrd_done ?_
        clear PS HS w1
        go_wp2_with fail
        have HCH : Hid ((c = 2 * r + 1 + 1 ∧ c < hi ∧ ltN dk[first + (2 * r + 1)]! dk[first + (2 * r + 1) + 1]! = true) ∨ (c = 2 * r + 1 ∧ c < hi ∧ (c + 1 < hi → ltN dk[first + (2 * r + 1)]! dk[first + (2 * r + 1) + 1]! = false))) :=
          .inr ⟨HC.out, by omega, fun h => absurd h hc2⟩
        clear hgt S hc2
        have HHd : Hid (Holds eu wr.drew blk off dk) := HH
        obtain ⟨x, HX, hc1, hf1⟩ := at_cell HN HH (first + r) (by omega)
        obtain ⟨y, HY, hc2, hf2⟩ := at_cell HN HH (first + c) (by omega)
        obtain ⟨S, HS, c1, c2, PS⟩ := ex_cells2 (show wr.drew.cell? ⟨blk, off + (first + r), none⟩ = some (.int .u64 (x : Int)) from hc1) (show wr.drew.cell? ⟨blk, off + (first + c), none⟩ = some (.int .u64 (y : Int)) from hc2) HHd (Lib.hid HM.out.drew)
        have hr0 : (0 : Int) ≤ (first : Int) + (r : Int) := by omega
        have hr1 : (first : Int) + (r : Int) < (n : Int) := by omega
        have hr2 : (0 : Int) ≤ (first : Int) + (c : Int) := by omega
        have hr3 : (first : Int) + (c : Int) < (n : Int) := by omega
        have w2 := wr_in ((first : Int) + (r : Int)) (by omega) (by omega)
        have w3 := wr_in ((first : Int) + (c : Int)) (by omega) (by omega)
        have t1 : ((first : Int) + (r : Int)).toNat = first + r := by omega
        have t2 : ((first : Int) + (c : Int)).toNat = first + c := by omega
        cases hl : ltN x y with
        | true =>
          have HL := Lib.hid hl; clear hl
          refine wp_region_ord S [(0, true), (1, true), (2, true), (3, true), (4, true), (5, true), (6, true), (7, true), (8, true), (9, true), (10, true), (11, true), (12, false), (13, true)] (by kernel_rfl) (by kernel_rfl) rfl (by kernel_rfl) HS.out ?_
          iterate 12
            (refine wpOrd_step (o := ?_) ?_ ?_; rotate_left 1; (simp only [List.getElem?_toArray, List.getElem?_cons_succ, List.getElem?_cons_zero]; with_reducible rfl))
            (first
                | (refine wpOrd_skip (by rfl) ?_)
                | (refine wpOrd_take (v := ?_) (by rfl) ?_ ?_; rotate_left 1; (intro wx hSx; have hc_0 := c1 wx hSx; have hc_1 := c2 wx hSx; go_simp; try with_reducible rfl)))
            (try simp only [Act.put, List.setIfInBounds_toArray, List.set_cons_zero, List.set_cons_succ])
          (refine wpOrd_solo (o := ?_) ?_ ?_; rotate_left 1; (simp only [List.getElem?_toArray, List.getElem?_cons_succ, List.getElem?_cons_zero]; with_reducible rfl))
          intro K hK
          go_simp
          go_at_call 72
          refine (less_any _ _ _).mono ?_
          rintro e w' ⟨rfl, rfl⟩
          refine hK.out _ _ HS.out ?_
          clear hK K
          (try simp only [Act.put, List.setIfInBounds_toArray, List.set_cons_zero, List.set_cons_succ])
          rw [HL.out]
          iterate 1
            (refine wpOrd_step (o := ?_) ?_ ?_; rotate_left 1; (simp only [List.getElem?_toArray, List.getElem?_cons_succ, List.getElem?_cons_zero]; with_reducible rfl))
            (first
                | (refine wpOrd_skip (by rfl) ?_)
                | (refine wpOrd_take (v := ?_) (by rfl) ?_ ?_; rotate_left 1; (intro wx hSx; go_simp; try with_reducible rfl)))
            (try simp only [Act.put, List.setIfInBounds_toArray, List.set_cons_zero, List.set_cons_succ])
          refine wpOrd_done ?_
          obtain ⟨HN2, HH2, HM2⟩ := swp_holds HN HH HM (first + r) (first + c) HY HX (by omega) (by omega)
          have HT2 : Hid (siftDown ltN hi first c (swp dk (first + r) (first + c)) = siftDown ltN hi first lo d) := by
            have h1 := HT.out
            rw [sift_step HCH.out, ← HX.out, ← HY.out, HL.out] at h1
            exact h1
          clear PS HS c1 c2
          go_wp2_with fail
          go_region
          go_wp2_with fail
          go_roundw
          case rel => exact ⟨c, _, by go_num, by omega, HN2, HH2, HM2.out.drew.drew.drew, HT2⟩
          case measure => simp [intOf]; omega
        | false =>
          have HL := Lib.hid hl; clear hl
          refine wp_region_ord S [(0, true), (1, true), (2, true), (3, true), (4, true), (5, true), (6, true), (7, true), (8, true), (9, true), (10, true), (11, true), (12, false), (13, true)] (by kernel_rfl) (by kernel_rfl) rfl (by kernel_rfl) HS.out ?_
          iterate 12
            (refine wpOrd_step (o := ?_) ?_ ?_; rotate_left 1; (simp only [List.getElem?_toArray, List.getElem?_cons_succ, List.getElem?_cons_zero]; with_reducible rfl))
            (first
                | (refine wpOrd_skip (by rfl) ?_)
                | (refine wpOrd_take (v := ?_) (by rfl) ?_ ?_; rotate_left 1; (intro wx hSx; have hc_0 := c1 wx hSx; have hc_1 := c2 wx hSx; go_simp; try with_reducible rfl)))
            (try simp only [Act.put, List.setIfInBounds_toArray, List.set_cons_zero, List.set_cons_succ])
          (refine wpOrd_solo (o := ?_) ?_ ?_; rotate_left 1; (simp only [List.getElem?_toArray, List.getElem?_cons_succ, List.getElem?_cons_zero]; with_reducible rfl))
          intro K hK
          go_simp
          go_at_call 72
          refine (less_any _ _ _).mono ?_
          rintro e w' ⟨rfl, rfl⟩
          refine hK.out _ _ HS.out ?_
          clear hK K
          (try simp only [Act.put, List.setIfInBounds_toArray, List.set_cons_zero, List.set_cons_succ])
          rw [HL.out]
          iterate 1
            (refine wpOrd_step (o := ?_) ?_ ?_; rotate_left 1; (simp only [List.getElem?_toArray, List.getElem?_cons_succ, List.getElem?_cons_zero]; with_reducible rfl))
            (first
                | (refine wpOrd_skip (by rfl) ?_)
                | (refine wpOrd_take (v := ?_) (by rfl) ?_ ?_; rotate_left 1; (intro wx hSx; go_simp; try with_reducible rfl)))
            (try simp only [Act.put, List.setIfInBounds_toArray, List.set_cons_zero, List.set_cons_succ])
          refine wpOrd_done ?_
          have HT2 : Hid (dk = siftDown ltN hi first lo d) := by
            have h1 := HT.out
            rw [sift_step HCH.out, ← HX.out, ← HY.out, HL.out] at h1
            exact h1
          clear PS HS c1 c2 hc1 hc2 hf1 hf2
          go_wp2_with fail
          refine bodyPost_ret (results_none rfl _ _ _) rfl ?_
          rw [← HT2.out]
          exact ⟨rfl, HH.out, HM.out.drew.drew⟩
        
end Go.Proofs.YtopckkdmldhmlaaDoor
