/- Texts that all the claims need. Conditions: those that each states. -/
import Derived.BigRegion
import Derived.Deep.CutRange
import Derived.Test.YtnfndapgcpdcpaaGreatDoorFa5
set_option linter.unusedSimpArgs false
set_option linter.unusedVariables false
set_option maxRecDepth 100000
set_option maxHeartbeats 40000000
namespace Go.Proofs.YtnfndapgcpdcpaaGreatDoor
section
open Go.RowKit RM
open Go.Sort hiding Below ahead
theorem at_cell {wr : World} {blk off n : Nat} {d : Array Nat} (HN : Hid (d.size = n)) (HH : Hid (Holds eu wr blk off d)) (j : Nat) (hj : j < n) :
 ∃ x : Nat, Hid (x = d[j]!) ∧ wr.cell? ⟨blk, off + j, none⟩ = some (.int .u64 (x : Int)) ∧ wr.frozen? ⟨blk, off + j, none⟩ = false := by
 obtain ⟨h1, h2⟩ := HH.out j (by rw [HN.out]; exact hj)
 exact ⟨d[j]!, rfl, h1, h2⟩
theorem wr_in (z : Int) (h1 : -1000000 ≤ z) (h2 : z ≤ 1000000) : IntKind.i64.wrap z = z := IntWalk.i64_in z ⟨by omega, by omega⟩
theorem swp_holds {wr w : World} {blk off n x y : Nat} {d : Array Nat} (HN : Hid (d.size = n)) (HH : Hid (Holds eu wr blk off d)) (HM : Hid (Mut blk w wr)) (i j : Nat) (HX : Hid (x = d[j]!)) (HY : Hid (y = d[i]!)) (hi : i < n) (hj : j < n) :
 Hid ((swp d i j).size = n) ∧ Hid (Holds eu ((wr.setCell ⟨blk, off + i, none⟩ (.int .u64 (x : Int))).setCell ⟨blk, off + j, none⟩ (.int .u64 (y : Int))) blk off (swp d i j)) ∧ Hid (Mut blk w ((wr.setCell ⟨blk, off + i, none⟩ (.int .u64 (x : Int))).setCell ⟨blk, off + j, none⟩ (.int .u64 (y : Int)))) :=
 ⟨by rw [swp_size]; exact HN, holds_swp HH.out i j x y (by rw [HN.out]; exact hi) (by rw [HN.out]; exact hj) HX.out HY.out, HM.out.trans (mut_set2 _ _ _ _ _ _)⟩
theorem reverse_any (blk off cap a b : Nat) (d : Array Nat) (w : World) (hH : Holds eu w blk off d) (hab : a < b) (hb : b ≤ d.size) (hs : d.size ≤ 64) :
 Calls Tryz.prog 201 #[.slice (some ⟨blk, off, none⟩) d.size cap, .int .i64 (a : Int), .int .i64 (b : Int)] w fun e w' => e = .returned (.tuple #[]) ∧ Holds eu w' blk off (reverseRange d a b) ∧ Mut blk w w' := by
 have HH := zh hH; clear hH
 generalize hn : d.size = n at *
 have HN := zh hn; clear hn
 obtain ⟨c, rfl⟩ : ∃ c, b = c + 1 := ⟨b - 1, by omega⟩
 have HT0 : Hid (reverseLoop a c d = reverseRange d a (c + 1)) := rfl
 have w1 : IntKind.i64.wrap (c : Int) = (c : Int) := IntWalk.i64_in _ ⟨by omega, by omega⟩
 go_enter Tryz.func201, Tryz.ntmps201
 go_wp2_with fail
 go_loopw [6, 7] (fun iv jv wr => ∃ (i j : Nat) (dk : Array Nat), iv = .int .i64 i ∧ jv = .int .i64 j ∧ a ≤ i ∧ j ≤ c ∧ Hid (dk.size = n) ∧ Hid (Holds eu wr blk off dk) ∧ Hid (Mut blk w wr) ∧ Hid (reverseLoop i j dk = reverseRange d a (c + 1))) (fun iv jv _ => (intOf jv).toNat + 1 - (intOf iv).toNat)
 case atStart => exact ⟨a, c, d, rfl, by go_num, by omega, by omega, HN, HH, Mut.refl _ _, HT0⟩
 case round =>
  clear HH HN HT0 w1
  obtain ⟨i, j, dk, rfl, rfl, hi, hj, HN, HH, HM, HT⟩ := hrel
  by_cases hlt : i < j
  ·obtain ⟨k, rfl⟩ : ∃ k, j = k + 1 := ⟨j - 1, by omega⟩
   obtain ⟨x, HX, hc1, hf1⟩ := at_cell HN HH (k + 1) (by omega)
   obtain ⟨y, HY, hc2, hf2⟩ := at_cell HN HH i (by omega)
   obtain ⟨HN2, HH2, HM2⟩ := swp_holds HN HH HM i (k + 1) HX HY (by omega) (by omega)
   have HT2 : Hid (reverseLoop (i + 1) k (swp dk i (k + 1)) = reverseRange d a (c + 1)) := by
        have := HT.out
        rw [reverseLoop, if_pos hlt] at this
        exact this
   have hr0 : (0 : Int) ≤ (k : Int) + 1 := by omega
   have hr1 : (k : Int) + 1 < (n : Int) := by omega
   have hr2 : (i : Int) < (n : Int) := by omega
   have hgt : (i : Int) < (k : Int) + 1 := by omega
   have w1 : IntKind.i64.wrap (k : Int) = (k : Int) := IntWalk.i64_in _ ⟨by omega, by omega⟩
   clear hlt
   go_wp2_with fail
   go_region
   go_wp2_with fail
   go_roundw
   case rel => exact ⟨i + 1, k, _, by go_num, by go_num, by omega, by omega, HN2, HH2, HM2.out.drew, HT2⟩
   case measure => simp [intOf]; omega
  ·have HT2 : Hid (dk = reverseRange d a (c + 1)) := by
        have := HT.out
        rw [reverseLoop, if_neg hlt] at this
        exact this
   go_wp2_with fail
   go_end0
   rw [← HT2.out]
   exact ⟨rfl, HH.out, HM.out⟩
theorem sift_stop {hi first root : Nat} {d : Array Nat} (h : hi ≤ 2 * root + 1) : siftDown ltN hi first root d = d := by
 rw [siftDown, dif_pos h]
theorem sift_step {hi first root c : Nat} {d : Array Nat} (h : (c = 2 * root + 1 + 1 ∧ c < hi ∧ ltN d[first + (2 * root + 1)]! d[first + (2 * root + 1) + 1]! = true) ∨ (c = 2 * root + 1 ∧ c < hi ∧ (c + 1 < hi → ltN d[first + (2 * root + 1)]! d[first + (2 * root + 1) + 1]! = false))) :
 siftDown ltN hi first root d = if ltN d[first + root]! d[first + c]! then siftDown ltN hi first c (swp d (first + root) (first + c)) else d := by
 rw [siftDown]
 rcases h with ⟨rfl, h1, h2⟩ | ⟨rfl, h1, h2⟩
 ·rw [dif_neg (by omega), if_pos (by simp [h2]; omega)]
  cases ltN d[first + root]! d[first + (2 * root + 1 + 1)]! <;> simp
  omega
 ·rw [dif_neg (by omega), if_neg (by simp; exact h2)]
  cases ltN d[first + root]! d[first + (2 * root + 1)]! <;> simp
theorem sift_any (blk off cap lo hi first : Nat) (d : Array Nat) (w : World) (hH : Holds eu w blk off d) (hb : first + hi ≤ d.size) (hlo : lo ≤ 64) (hs : d.size ≤ 64) :
 Calls Tryz.prog 208 #[.slice (some ⟨blk, off, none⟩) d.size cap, .int .i64 (lo : Int), .int .i64 (hi : Int), .int .i64 (first : Int)] w fun e w' => e = .returned (.tuple #[]) ∧ Holds eu w' blk off (siftDown ltN hi first lo d) ∧ Mut blk w w' := by
 have HH := zh hH; clear hH
 generalize hn : d.size = n at *
 have HN := zh hn; clear hn
 go_enter Tryz.func208, Tryz.ntmps208
 go_wp2_with fail
 go_loopw [8, 9] (fun rv _ wr => ∃ (r : Nat) (dk : Array Nat), rv = .int .i64 r ∧ r ≤ 64 ∧ Hid (dk.size = n) ∧ Hid (Holds eu wr blk off dk) ∧ Hid (Mut blk w wr) ∧ Hid (siftDown ltN hi first r dk = siftDown ltN hi first lo d)) (fun rv _ _ => hi - (intOf rv).toNat)
 case atStart => exact ⟨lo, d, rfl, hlo, HN, HH, Mut.refl _ _, rfl⟩
 case round =>
  clear HH HN
  obtain ⟨r, dk, rfl, hr, HN, HH, HM, HT⟩ := hrel
  by_cases hlt : hi ≤ 2 * r + 1
  ·have HT2 : Hid (dk = siftDown ltN hi first lo d) := by
        have := HT.out
        rw [sift_stop hlt] at this
        exact this
   have hgt : (hi : Int) ≤ 2 * (r : Int) + 1 := by omega
   go_wp2_with fail
   go_end0
   rw [← HT2.out]
   exact ⟨rfl, HH.out, HM.out⟩
  ·have hgt : ¬ (hi : Int) ≤ 2 * (r : Int) + 1 := by omega
   go_wp2_with fail
   clear hgt
   obtain ⟨c, hc⟩ : ∃ c, c = 2 * r + 1 := ⟨_, rfl⟩
   have e1 : 2 * (r : Int) + 1 = (c : Int) := by omega
   simp only [e1]
   clear e1
   have HC := zh hc; clear hc
   have hcr : r < c := by have := HC.out; omega
   have hch : c < hi := by have := HC.out; omega
   clear hlt
   by_cases hc2 : c + 1 < hi
   ·obtain ⟨x, HX, hc1, hf1⟩ := at_cell HN HH (first + c) (by omega)
    obtain ⟨y, HY, hc2, hf2⟩ := at_cell HN HH (first + c + 1) (by omega)
    obtain ⟨S, HS, c1, c2, PS⟩ := ex_cells2 hc1 hc2 HH HM
    have hgt : (c : Int) + 1 < (hi : Int) := by omega
    have hr0 : (0 : Int) ≤ (first : Int) + (c : Int) := by omega
    have hr1 : (first : Int) + (c : Int) < (n : Int) := by omega
    have hr2 : (0 : Int) ≤ (first : Int) + (c : Int) + 1 := by omega
    have hr3 : (first : Int) + (c : Int) + 1 < (n : Int) := by omega
    have w1 := wr_in ((c : Int) + 1) (by omega) (by omega)
    have w2 := wr_in ((first : Int) + (c : Int)) (by omega) (by omega)
    have w3 := wr_in ((first : Int) + (c : Int) + 1) (by omega) (by omega)
    have t1 : ((first : Int) + (c : Int)).toNat = first + c := by omega
    have t2 : ((first : Int) + (c : Int) + 1).toNat = first + c + 1 := by omega
    cases hl : ltN x y with
    | true =>
      have HL := zh hl; clear hl
      refine wp_region_ord S [(0, true), (1, true), (2, true), (3, true), (4, true), (5, true), (6, true), (7, true), (8, true), (9, true), (10, true), (11, true), (12, true), (13, true), (14, true), (15, true), (16, true), (17, true), (18, false), (19, true)] (by kernel_rfl) (by kernel_rfl) rfl (by kernel_rfl) HS.out ?_
      iterate 18
       (refine wpOrd_step (zO rfl) ?_)
       (first
            | (refine wpOrd_skip (by rfl) ?_)
            | (refine wpOrd_take (v := ?_) (by rfl) ?_ ?_; rotate_left 1; (intro wx hSx; have hc_0 := c1 wx hSx; have hc_1 := c2 wx hSx; go_simp; try with_reducible rfl)))
       (try simp only [Act.put, zA4, zA5, zA6])
      (refine wpOrd_solo (zO rfl) ?_)
      intro K hK
      go_simp
      go_at_call 203
      refine (less_any _ _ _).mono ?_
      rintro e w' ⟨rfl, rfl⟩
      refine hK.out _ _ HS.out ?_
      clear hK K
      (try simp only [Act.put, zA4, zA5, zA6])
      rw [HL.out]
      iterate 1
       (refine wpOrd_step (zO rfl) ?_)
       (first
            | (refine wpOrd_skip (by rfl) ?_)
            | (refine wpOrd_take (v := ?_) (by rfl) ?_ ?_; rotate_left 1; (intro wx hSx; go_simp; try with_reducible rfl)))
       (try simp only [Act.put, zA4, zA5, zA6])
      refine wpOrd_done ?_
      clear PS HS c1 c2 hc1 hc2 hf1 hf2 hr0 hr1 hr2 hr3 w2 w3 t1 t2
      go_wp2_with fail
      obtain ⟨m, hm⟩ : ∃ m, m = c + 1 := ⟨_, rfl⟩
      have e1 : (c : Int) + 1 = (m : Int) := by omega
      simp only [e1]
      clear e1 w1
      have HCH : Hid ((m = 2 * r + 1 + 1 ∧ m < hi ∧ ltN dk[first + (2 * r + 1)]! dk[first + (2 * r + 1) + 1]! = true) ∨ (m = 2 * r + 1 ∧ m < hi ∧ (m + 1 < hi → ltN dk[first + (2 * r + 1)]! dk[first + (2 * r + 1) + 1]! = false))) :=
       .inl ⟨by rw [hm, HC.out], by omega, by rw [← HC.out, ← HX.out, ← HY.out]; exact HL.out⟩
      have hmr : r < m := by omega
      have hmh : m < hi := by omega
      clear HX HY HL hm hgt S
      have HHd : Hid (Holds eu wr.drew blk off dk) := HH
      obtain ⟨x, HX, hc1, hf1⟩ := at_cell HN HH (first + r) (by omega)
      obtain ⟨y, HY, hc2, hf2⟩ := at_cell HN HH (first + m) (by omega)
      obtain ⟨S, HS, c1, c2, PS⟩ := ex_cells2 (show wr.drew.cell? ⟨blk, off + (first + r), none⟩ = some (.int .u64 (x : Int)) from hc1) (show wr.drew.cell? ⟨blk, off + (first + m), none⟩ = some (.int .u64 (y : Int)) from hc2) HHd (zh HM.out.drew)
      have hr0 : (0 : Int) ≤ (first : Int) + (r : Int) := by omega
      have hr1 : (first : Int) + (r : Int) < (n : Int) := by omega
      have hr2 : (0 : Int) ≤ (first : Int) + (m : Int) := by omega
      have hr3 : (first : Int) + (m : Int) < (n : Int) := by omega
      have w2 := wr_in ((first : Int) + (r : Int)) (by omega) (by omega)
      have w3 := wr_in ((first : Int) + (m : Int)) (by omega) (by omega)
      have t1 : ((first : Int) + (r : Int)).toNat = first + r := by omega
      have t2 : ((first : Int) + (m : Int)).toNat = first + m := by omega
      cases hl : ltN x y with
      | true =>
        have HL := zh hl; clear hl
        refine wp_region_ord S [(0, true), (1, true), (2, true), (3, true), (4, true), (5, true), (6, true), (7, true), (8, true), (9, true), (10, true), (11, true), (12, false), (13, true)] (by kernel_rfl) (by kernel_rfl) rfl (by kernel_rfl) HS.out ?_
        iterate 12
         (refine wpOrd_step (zO rfl) ?_)
         (first
                  | (refine wpOrd_skip (by rfl) ?_)
                  | (refine wpOrd_take (v := ?_) (by rfl) ?_ ?_; rotate_left 1; (intro wx hSx; have hc_0 := c1 wx hSx; have hc_1 := c2 wx hSx; go_simp; try with_reducible rfl)))
         (try simp only [Act.put, zA4, zA5, zA6])
        (refine wpOrd_solo (zO rfl) ?_)
        intro K hK
        go_simp
        go_at_call 203
        refine (less_any _ _ _).mono ?_
        rintro e w' ⟨rfl, rfl⟩
        refine hK.out _ _ HS.out ?_
        clear hK K
        (try simp only [Act.put, zA4, zA5, zA6])
        rw [HL.out]
        iterate 1
         (refine wpOrd_step (zO rfl) ?_)
         (first
                  | (refine wpOrd_skip (by rfl) ?_)
                  | (refine wpOrd_take (v := ?_) (by rfl) ?_ ?_; rotate_left 1; (intro wx hSx; go_simp; try with_reducible rfl)))
         (try simp only [Act.put, zA4, zA5, zA6])
        refine wpOrd_done ?_
        obtain ⟨HN2, HH2, HM2⟩ := swp_holds HN HH HM (first + r) (first + m) HY HX (by omega) (by omega)
        have HT2 : Hid (siftDown ltN hi first m (swp dk (first + r) (first + m)) = siftDown ltN hi first lo d) := by
         have h1 := HT.out
         rw [sift_step HCH.out, ← HX.out, ← HY.out, HL.out] at h1
         exact h1
        clear PS HS c1 c2
        go_wp2_with fail
        go_region
        go_wp2_with fail
        go_roundw
        case rel => exact ⟨m, _, by go_num, by omega, HN2, HH2, HM2.out.drew.drew.drew, HT2⟩
        case measure => simp [intOf]; omega
      | false =>
        have HL := zh hl; clear hl
        refine wp_region_ord S [(0, true), (1, true), (2, true), (3, true), (4, true), (5, true), (6, true), (7, true), (8, true), (9, true), (10, true), (11, true), (12, false), (13, true)] (by kernel_rfl) (by kernel_rfl) rfl (by kernel_rfl) HS.out ?_
        iterate 12
         (refine wpOrd_step (zO rfl) ?_)
         (first
              | (refine wpOrd_skip (by rfl) ?_)
              | (refine wpOrd_take (v := ?_) (by rfl) ?_ ?_; rotate_left 1; (intro wx hSx; have hc_0 := c1 wx hSx; have hc_1 := c2 wx hSx; go_simp; try with_reducible rfl)))
         (try simp only [Act.put, zA4, zA5, zA6])
        (refine wpOrd_solo (zO rfl) ?_)
        intro K hK
        go_simp
        go_at_call 203
        refine (less_any _ _ _).mono ?_
        rintro e w' ⟨rfl, rfl⟩
        refine hK.out _ _ HS.out ?_
        clear hK K
        (try simp only [Act.put, zA4, zA5, zA6])
        rw [HL.out]
        iterate 1
         (refine wpOrd_step (zO rfl) ?_)
         (first
              | (refine wpOrd_skip (by rfl) ?_)
              | (refine wpOrd_take (v := ?_) (by rfl) ?_ ?_; rotate_left 1; (intro wx hSx; go_simp; try with_reducible rfl)))
         (try simp only [Act.put, zA4, zA5, zA6])
        refine wpOrd_done ?_
        have HT2 : Hid (dk = siftDown ltN hi first lo d) := by
         have h1 := HT.out
         rw [sift_step HCH.out, ← HX.out, ← HY.out, HL.out] at h1
         exact h1
        clear PS HS c1 c2 hc1 hc2 hf1 hf2
        go_wp2_with fail
        refine bodyPost_ret (results_none rfl _ _ _) rfl ?_
        rw [← HT2.out]
        exact ⟨rfl, HH.out, HM.out.drew.drew⟩
    | false =>
      have HL := zh hl; clear hl
      refine wp_region_ord S [(0, true), (1, true), (2, true), (3, true), (4, true), (5, true), (6, true), (7, true), (8, true), (9, true), (10, true), (11, true), (12, true), (13, true), (14, true), (15, true), (16, true), (17, true), (18, false), (19, true)] (by kernel_rfl) (by kernel_rfl) rfl (by kernel_rfl) HS.out ?_
      iterate 18
       (refine wpOrd_step (zO rfl) ?_)
       (first
            | (refine wpOrd_skip (by rfl) ?_)
            | (refine wpOrd_take (v := ?_) (by rfl) ?_ ?_; rotate_left 1; (intro wx hSx; have hc_0 := c1 wx hSx; have hc_1 := c2 wx hSx; go_simp; try with_reducible rfl)))
       (try simp only [Act.put, zA4, zA5, zA6])
      (refine wpOrd_solo (zO rfl) ?_)
      intro K hK
      go_simp
      go_at_call 203
      refine (less_any _ _ _).mono ?_
      rintro e w' ⟨rfl, rfl⟩
      refine hK.out _ _ HS.out ?_
      clear hK K
      (try simp only [Act.put, zA4, zA5, zA6])
      rw [HL.out]
      iterate 1
       (refine wpOrd_step (zO rfl) ?_)
       (first
            | (refine wpOrd_skip (by rfl) ?_)
            | (refine wpOrd_take (v := ?_) (by rfl) ?_ ?_; rotate_left 1; (intro wx hSx; go_simp; try with_reducible rfl)))
       (try simp only [Act.put, zA4, zA5, zA6])
      refine wpOrd_done ?_
      clear PS HS c1 c2 hc1 hc2 hf1 hf2 hr0 hr1 hr2 hr3 w2 w3 t1 t2 w1
      go_wp2_with fail
      have HCH : Hid ((c = 2 * r + 1 + 1 ∧ c < hi ∧ ltN dk[first + (2 * r + 1)]! dk[first + (2 * r + 1) + 1]! = true) ∨ (c = 2 * r + 1 ∧ c < hi ∧ (c + 1 < hi → ltN dk[first + (2 * r + 1)]! dk[first + (2 * r + 1) + 1]! = false))) :=
       .inr ⟨HC.out, by omega, fun _ => by rw [← HC.out, ← HX.out, ← HY.out]; exact HL.out⟩
      clear HX HY HL hgt S
      have HHd : Hid (Holds eu wr.drew blk off dk) := HH
      obtain ⟨x, HX, hc1, hf1⟩ := at_cell HN HH (first + r) (by omega)
      obtain ⟨y, HY, hc2, hf2⟩ := at_cell HN HH (first + c) (by omega)
      obtain ⟨S, HS, c1, c2, PS⟩ := ex_cells2 (show wr.drew.cell? ⟨blk, off + (first + r), none⟩ = some (.int .u64 (x : Int)) from hc1) (show wr.drew.cell? ⟨blk, off + (first + c), none⟩ = some (.int .u64 (y : Int)) from hc2) HHd (zh HM.out.drew)
      have hr0 : (0 : Int) ≤ (first : Int) + (r : Int) := by omega
      have hr1 : (first : Int) + (r : Int) < (n : Int) := by omega
      have hr2 : (0 : Int) ≤ (first : Int) + (c : Int) := by omega
      have hr3 : (first : Int) + (c : Int) < (n : Int) := by omega
      have w2 := wr_in ((first : Int) + (r : Int)) (by omega) (by omega)
      have w3 := wr_in ((first : Int) + (c : Int)) (by omega) (by omega)
      have t1 : ((first : Int) + (r : Int)).toNat = first + r := by omega
      have t2 : ((first : Int) + (c : Int)).toNat = first + c := by omega
      cases hl : ltN x y with
      | true =>
        have HL := zh hl; clear hl
        refine wp_region_ord S [(0, true), (1, true), (2, true), (3, true), (4, true), (5, true), (6, true), (7, true), (8, true), (9, true), (10, true), (11, true), (12, false), (13, true)] (by kernel_rfl) (by kernel_rfl) rfl (by kernel_rfl) HS.out ?_
        iterate 12
         (refine wpOrd_step (zO rfl) ?_)
         (first
                  | (refine wpOrd_skip (by rfl) ?_)
                  | (refine wpOrd_take (v := ?_) (by rfl) ?_ ?_; rotate_left 1; (intro wx hSx; have hc_0 := c1 wx hSx; have hc_1 := c2 wx hSx; go_simp; try with_reducible rfl)))
         (try simp only [Act.put, zA4, zA5, zA6])
        (refine wpOrd_solo (zO rfl) ?_)
        intro K hK
        go_simp
        go_at_call 203
        refine (less_any _ _ _).mono ?_
        rintro e w' ⟨rfl, rfl⟩
        refine hK.out _ _ HS.out ?_
        clear hK K
        (try simp only [Act.put, zA4, zA5, zA6])
        rw [HL.out]
        iterate 1
         (refine wpOrd_step (zO rfl) ?_)
         (first
                  | (refine wpOrd_skip (by rfl) ?_)
                  | (refine wpOrd_take (v := ?_) (by rfl) ?_ ?_; rotate_left 1; (intro wx hSx; go_simp; try with_reducible rfl)))
         (try simp only [Act.put, zA4, zA5, zA6])
        refine wpOrd_done ?_
        obtain ⟨HN2, HH2, HM2⟩ := swp_holds HN HH HM (first + r) (first + c) HY HX (by omega) (by omega)
        have HT2 : Hid (siftDown ltN hi first c (swp dk (first + r) (first + c)) = siftDown ltN hi first lo d) := by
         have h1 := HT.out
         rw [sift_step HCH.out, ← HX.out, ← HY.out, HL.out] at h1
         exact h1
        clear PS HS c1 c2
        go_wp2_with fail
        go_region
        go_wp2_with fail
        go_roundw
        case rel => exact ⟨c, _, by go_num, by omega, HN2, HH2, HM2.out.drew.drew.drew, HT2⟩
        case measure => simp [intOf]; omega
      | false =>
        have HL := zh hl; clear hl
        refine wp_region_ord S [(0, true), (1, true), (2, true), (3, true), (4, true), (5, true), (6, true), (7, true), (8, true), (9, true), (10, true), (11, true), (12, false), (13, true)] (by kernel_rfl) (by kernel_rfl) rfl (by kernel_rfl) HS.out ?_
        iterate 12
         (refine wpOrd_step (zO rfl) ?_)
         (first
              | (refine wpOrd_skip (by rfl) ?_)
              | (refine wpOrd_take (v := ?_) (by rfl) ?_ ?_; rotate_left 1; (intro wx hSx; have hc_0 := c1 wx hSx; have hc_1 := c2 wx hSx; go_simp; try with_reducible rfl)))
         (try simp only [Act.put, zA4, zA5, zA6])
        (refine wpOrd_solo (zO rfl) ?_)
        intro K hK
        go_simp
        go_at_call 203
        refine (less_any _ _ _).mono ?_
        rintro e w' ⟨rfl, rfl⟩
        refine hK.out _ _ HS.out ?_
        clear hK K
        (try simp only [Act.put, zA4, zA5, zA6])
        rw [HL.out]
        iterate 1
         (refine wpOrd_step (zO rfl) ?_)
         (first
              | (refine wpOrd_skip (by rfl) ?_)
              | (refine wpOrd_take (v := ?_) (by rfl) ?_ ?_; rotate_left 1; (intro wx hSx; go_simp; try with_reducible rfl)))
         (try simp only [Act.put, zA4, zA5, zA6])
        refine wpOrd_done ?_
        have HT2 : Hid (dk = siftDown ltN hi first lo d) := by
         have h1 := HT.out
         rw [sift_step HCH.out, ← HX.out, ← HY.out, HL.out] at h1
         exact h1
        clear PS HS c1 c2 hc1 hc2 hf1 hf2
        go_wp2_with fail
        refine bodyPost_ret (results_none rfl _ _ _) rfl ?_
        rw [← HT2.out]
        exact ⟨rfl, HH.out, HM.out.drew.drew⟩
   ·have hgt : ¬ (c : Int) + 1 < (hi : Int) := by omega
    have w1 := wr_in ((c : Int) + 1) (by omega) (by omega)
    obtain ⟨S, HS, PS⟩ : ∃ S : World → Prop, Hid (S wr.drew) ∧ Hid (∀ w', S w' → w' = wr.drew) := ⟨fun w' => w' = wr.drew, rfl, fun _ h => h⟩
    refine wp_region_ord S [(0, true), (1, true), (2, true), (3, true), (4, true), (5, true), (6, true), (7, true), (8, true), (9, true), (10, true), (11, true), (12, true), (13, true), (14, true), (15, true), (16, true), (17, true), (18, false), (19, true)] (by kernel_rfl) (by kernel_rfl) rfl (by kernel_rfl) HS.out ?_
    iterate 18
     (refine wpOrd_step (zO rfl) ?_)
     (first
      | (refine wpOrd_skip (by rfl) ?_)
      | (refine wpOrd_take (v := ?_) (by rfl) ?_ ?_; rotate_left 1; (intro wx hSx; go_simp; try with_reducible rfl)))
     (try simp only [Act.put, zA4, zA5, zA6])
    (refine wpOrd_solo (zO rfl) ?_)
    intro K hK
    go_simp
    refine hK.out _ _ HS.out ?_
    clear hK K
    (try simp only [Act.put, zA4, zA5, zA6])
    iterate 1
     (refine wpOrd_step (zO rfl) ?_)
     (first
      | (refine wpOrd_skip (by rfl) ?_)
      | (refine wpOrd_take (v := ?_) (by rfl) ?_ ?_; rotate_left 1; (intro wx hSx; go_simp; try with_reducible rfl)))
     (try simp only [Act.put, zA4, zA5, zA6])
    refine wpOrd_done ?_
    clear PS HS w1
    go_wp2_with fail
    have HCH : Hid ((c = 2 * r + 1 + 1 ∧ c < hi ∧ ltN dk[first + (2 * r + 1)]! dk[first + (2 * r + 1) + 1]! = true) ∨ (c = 2 * r + 1 ∧ c < hi ∧ (c + 1 < hi → ltN dk[first + (2 * r + 1)]! dk[first + (2 * r + 1) + 1]! = false))) :=
     .inr ⟨HC.out, by omega, fun h => absurd h hc2⟩
    clear hgt S hc2
    have HHd : Hid (Holds eu wr.drew blk off dk) := HH
    obtain ⟨x, HX, hc1, hf1⟩ := at_cell HN HH (first + r) (by omega)
    obtain ⟨y, HY, hc2, hf2⟩ := at_cell HN HH (first + c) (by omega)
    obtain ⟨S, HS, c1, c2, PS⟩ := ex_cells2 (show wr.drew.cell? ⟨blk, off + (first + r), none⟩ = some (.int .u64 (x : Int)) from hc1) (show wr.drew.cell? ⟨blk, off + (first + c), none⟩ = some (.int .u64 (y : Int)) from hc2) HHd (zh HM.out.drew)
    have hr0 : (0 : Int) ≤ (first : Int) + (r : Int) := by omega
    have hr1 : (first : Int) + (r : Int) < (n : Int) := by omega
    have hr2 : (0 : Int) ≤ (first : Int) + (c : Int) := by omega
    have hr3 : (first : Int) + (c : Int) < (n : Int) := by omega
    have w2 := wr_in ((first : Int) + (r : Int)) (by omega) (by omega)
    have w3 := wr_in ((first : Int) + (c : Int)) (by omega) (by omega)
    have t1 : ((first : Int) + (r : Int)).toNat = first + r := by omega
    have t2 : ((first : Int) + (c : Int)).toNat = first + c := by omega
    cases hl : ltN x y with
    | true =>
      have HL := zh hl; clear hl
      refine wp_region_ord S [(0, true), (1, true), (2, true), (3, true), (4, true), (5, true), (6, true), (7, true), (8, true), (9, true), (10, true), (11, true), (12, false), (13, true)] (by kernel_rfl) (by kernel_rfl) rfl (by kernel_rfl) HS.out ?_
      iterate 12
       (refine wpOrd_step (zO rfl) ?_)
       (first
        | (refine wpOrd_skip (by rfl) ?_)
        | (refine wpOrd_take (v := ?_) (by rfl) ?_ ?_; rotate_left 1; (intro wx hSx; have hc_0 := c1 wx hSx; have hc_1 := c2 wx hSx; go_simp; try with_reducible rfl)))
       (try simp only [Act.put, zA4, zA5, zA6])
      (refine wpOrd_solo (zO rfl) ?_)
      intro K hK
      go_simp
      go_at_call 203
      refine (less_any _ _ _).mono ?_
      rintro e w' ⟨rfl, rfl⟩
      refine hK.out _ _ HS.out ?_
      clear hK K
      (try simp only [Act.put, zA4, zA5, zA6])
      rw [HL.out]
      iterate 1
       (refine wpOrd_step (zO rfl) ?_)
       (first
        | (refine wpOrd_skip (by rfl) ?_)
        | (refine wpOrd_take (v := ?_) (by rfl) ?_ ?_; rotate_left 1; (intro wx hSx; go_simp; try with_reducible rfl)))
       (try simp only [Act.put, zA4, zA5, zA6])
      refine wpOrd_done ?_
      obtain ⟨HN2, HH2, HM2⟩ := swp_holds HN HH HM (first + r) (first + c) HY HX (by omega) (by omega)
      have HT2 : Hid (siftDown ltN hi first c (swp dk (first + r) (first + c)) = siftDown ltN hi first lo d) := by
       have h1 := HT.out
       rw [sift_step HCH.out, ← HX.out, ← HY.out, HL.out] at h1
       exact h1
      clear PS HS c1 c2
      go_wp2_with fail
      go_region
      go_wp2_with fail
      go_roundw
      case rel => exact ⟨c, _, by go_num, by omega, HN2, HH2, HM2.out.drew.drew.drew, HT2⟩
      case measure => simp [intOf]; omega
    | false =>
      have HL := zh hl; clear hl
      refine wp_region_ord S [(0, true), (1, true), (2, true), (3, true), (4, true), (5, true), (6, true), (7, true), (8, true), (9, true), (10, true), (11, true), (12, false), (13, true)] (by kernel_rfl) (by kernel_rfl) rfl (by kernel_rfl) HS.out ?_
      iterate 12
       (refine wpOrd_step (zO rfl) ?_)
       (first
            | (refine wpOrd_skip (by rfl) ?_)
            | (refine wpOrd_take (v := ?_) (by rfl) ?_ ?_; rotate_left 1; (intro wx hSx; have hc_0 := c1 wx hSx; have hc_1 := c2 wx hSx; go_simp; try with_reducible rfl)))
       (try simp only [Act.put, zA4, zA5, zA6])
      (refine wpOrd_solo (zO rfl) ?_)
      intro K hK
      go_simp
      go_at_call 203
      refine (less_any _ _ _).mono ?_
      rintro e w' ⟨rfl, rfl⟩
      refine hK.out _ _ HS.out ?_
      clear hK K
      (try simp only [Act.put, zA4, zA5, zA6])
      rw [HL.out]
      iterate 1
       (refine wpOrd_step (zO rfl) ?_)
       (first
            | (refine wpOrd_skip (by rfl) ?_)
            | (refine wpOrd_take (v := ?_) (by rfl) ?_ ?_; rotate_left 1; (intro wx hSx; go_simp; try with_reducible rfl)))
       (try simp only [Act.put, zA4, zA5, zA6])
      refine wpOrd_done ?_
      have HT2 : Hid (dk = siftDown ltN hi first lo d) := by
       have h1 := HT.out
       rw [sift_step HCH.out, ← HX.out, ← HY.out, HL.out] at h1
       exact h1
      clear PS HS c1 c2 hc1 hc2 hf1 hf2
      go_wp2_with fail
      refine bodyPost_ret (results_none rfl _ _ _) rfl ?_
      rw [← HT2.out]
      exact ⟨rfl, HH.out, HM.out.drew.drew⟩
end
section
open Go.RowKit RM
open Go.Sort hiding Below ahead
theorem sift_n {blk off n hi first lo : Nat} {d : Array Nat} {w : World} (cap : Nat) (HN : Hid (d.size = n)) (HH : Hid (Holds eu w blk off d)) (hb : first + hi ≤ n) (hlo : lo ≤ 64) (hs : n ≤ 64) :
 Calls Tryz.prog 208 #[.slice (some ⟨blk, off, none⟩) n cap, .int .i64 (lo : Int), .int .i64 (hi : Int), .int .i64 (first : Int)] w fun e w' => e = .returned (.tuple #[]) ∧ Holds eu w' blk off (siftDown ltN hi first lo d) ∧ Mut blk w w' := by
 obtain rfl := HN.out
 exact sift_any blk off cap lo hi first d w HH.out hb hlo hs
theorem sift_0 {blk off n hi first : Nat} {d : Array Nat} {w : World} (cap : Nat) (HN : Hid (d.size = n)) (HH : Hid (Holds eu w blk off d)) (hb : first + hi ≤ n) (hs : n ≤ 64) :
 Calls Tryz.prog 208 #[.slice (some ⟨blk, off, none⟩) n cap, .int .i64 0, .int .i64 (hi : Int), .int .i64 (first : Int)] w fun e w' => e = .returned (.tuple #[]) ∧ Holds eu w' blk off (siftDown ltN hi first 0 d) ∧ Mut blk w w' :=
 sift_n (lo := 0) cap HN HH hb (Nat.zero_le _) hs
theorem set_some {w : World} {q : Addr} {u : Value} (p : Addr) (v : Value) (h : w.cell? q = some u) : ∃ x, (w.setCell p v).cell? q = some x := by
 by_cases e : p = q
 ·subst e
  exact ⟨v, World.cell?_setCell_same' _ _ _ (by rw [h]; rfl)⟩
 ·exact ⟨u, by rw [World.cell?_setCell_other (h := e), h]⟩
theorem siftDown_size (lt : Nat → Nat → Bool) (hi first root : Nat) (d : Array Nat) : (siftDown lt hi first root d).size = d.size := by
 fun_induction siftDown lt hi first root d <;> simp_all [swp]
theorem heap_any (blk off cap a b : Nat) (d : Array Nat) (w : World) (hH : Holds eu w blk off d) (hab : a < b) (hb : b ≤ d.size) (hs : d.size ≤ 64) :
 Calls Tryz.prog 198 #[.slice (some ⟨blk, off, none⟩) d.size cap, .int .i64 (a : Int), .int .i64 (b : Int)] w fun e w' => e = .returned (.tuple #[]) ∧ Holds eu w' blk off (heapSort ltN d a b) ∧ Mut blk w w' := by
 have HH := zh hH; clear hH
 generalize hn : d.size = n at *
 have HN := zh hn; clear hn
 obtain ⟨h, hh⟩ : ∃ h, h = b - a := ⟨_, rfl⟩
 obtain ⟨q, hq⟩ : ∃ q, q = (h - 1) / 2 := ⟨_, rfl⟩
 have HT0 : Hid (heapPop ltN a h (heapBuild ltN h a (q + 1) d) = heapSort ltN d a b) := by
  rw [hq, hh]
  exact rfl
 have e1 : (b : Int) - (a : Int) = (h : Int) := by omega
 have e2 : ((h : Int) - 1) / 2 = (q : Int) := by omega
 have HE1 := zh e1; clear e1
 have HE2 := zh e2; clear e2
 have hqh : q < h := by omega
 have hbh : a + h ≤ n := by omega
 clear hh hq
 go_enter Tryz.func198, Tryz.ntmps198
 go_wp2_with fail
 simp only [HE1.out, HE2.out]
 clear HE1 HE2
 go_loopw [9] (fun iv wr => ∃ (z : Int) (k : Nat) (dk : Array Nat), iv = .int .i64 z ∧ z + 1 = k ∧ k ≤ q + 1 ∧ Hid (dk.size = n) ∧ Hid (Holds eu wr blk off dk) ∧ Hid (Mut blk w wr) ∧ Hid (heapPop ltN a h (heapBuild ltN h a k dk) = heapSort ltN d a b)) (fun iv _ => (intOf iv + 1).toNat)
 case atStart => exact ⟨q, q + 1, d, rfl, by omega, by omega, HN, HH, Mut.refl _ _, HT0⟩
 case round =>
  clear HH HN HT0
  obtain ⟨z, k, dk, rfl, hz, hk, HN, HH, HM, HT⟩ := hrel
  cases k with
  | succ k =>
    obtain rfl : z = (k : Int) := by omega
    clear hz
    have HT2 : Hid (heapPop ltN a h (heapBuild ltN h a k (siftDown ltN h a k dk)) = heapSort ltN d a b) := HT
    go_wp2_with fail
    refine (sift_n cap HN HH (by omega) (by omega) (by omega)).mono ?_
    rintro e w' ⟨rfl, h1, h2⟩
    have HS := zh (siftDown_size ltN h a k dk); clear HT
    have HN2 : Hid ((siftDown ltN h a k dk).size = n) := by rw [HS.out]; exact HN
    have HH2 := zh h1; clear h1
    have HM2 := zh (HM.out.trans h2); clear h2
    go_wp2_with fail
    go_roundw
    case rel =>
        exact ⟨(k : Int) - 1, k, _, by go_num, by omega, by omega, HN2, HH2, HM2, HT2⟩
    case measure => simp [intOf]
  | zero =>
    obtain rfl : z = -1 := by omega
    clear hz
    have HT2 : Hid (heapPop ltN a h dk = heapSort ltN d a b) := HT
    clear HT
    go_wp2_with fail
    obtain ⟨wo, rfl⟩ : ∃ wo : World, wo = wr := ⟨_, rfl⟩
    go_loopw [10] (fun iv wr => ∃ (z : Int) (k : Nat) (dk : Array Nat), iv = .int .i64 z ∧ z + 1 = k ∧ k ≤ h ∧ Hid (dk.size = n) ∧ Hid (Holds eu wr blk off dk) ∧ Hid (Mut blk w wr) ∧ Hid (heapPop ltN a k dk = heapSort ltN d a b)) (fun iv _ => (intOf iv + 1).toNat)
    case atStart => exact ⟨(h : Int) - 1, h, dk, by go_num, by omega, by omega, HN, HH, HM, HT2⟩
    case round =>
        clear HH HN HT2 HM
        obtain ⟨z, k, dk, rfl, hz, hk, HN, HH, HM, HT⟩ := hrel
        cases k with
        | zero =>
          obtain rfl : z = -1 := by omega
          clear hz
          have HT2 : Hid (dk = heapSort ltN d a b) := HT
          go_wp2_with fail
          go_end0
          rw [← HT2.out]
          exact ⟨rfl, HH.out, HM.out⟩
        | succ k =>
          obtain rfl : z = (k : Int) := by omega
          clear hz
          have HT2 : Hid (heapPop ltN a k (siftDown ltN k a 0 (swp dk a (a + k))) = heapSort ltN d a b) := HT
          clear HT
          obtain ⟨x, HX, hc1, hf1⟩ := at_cell HN HH (a + k) (by omega)
          obtain ⟨y, HY, hc2, hf2⟩ := at_cell HN HH a (by omega)
          obtain ⟨HN2, HH2, HM2⟩ := swp_holds HN HH HM a (a + k) HX HY (by omega) (by omega)
          obtain ⟨v3, hc3⟩ := set_some ⟨blk, off + a, none⟩ (.int .u64 (x : Int)) hc1
          have hr0 : (0 : Int) ≤ (a : Int) + (k : Int) := by omega
          have hr1 : (a : Int) + (k : Int) < (n : Int) := by omega
          have hr2 : (a : Int) < (n : Int) := by omega
          have w1 := wr_in ((a : Int) + (k : Int)) (by omega) (by omega)
          have t1 : ((a : Int) + (k : Int)).toNat = a + k := by omega
          go_wp2_with fail
          go_region
          go_wp2_with fail
          have HHd : Hid (Holds eu (World.drew ((wr.setCell ⟨blk, off + a, none⟩ (.int .u64 (x : Int))).setCell ⟨blk, off + (a + k), none⟩ (.int .u64 (y : Int)))) blk off (swp dk a (a + k))) := HH2
          refine (sift_0 cap HN2 HHd (by omega) (by omega)).mono ?_
          rintro e w' ⟨rfl, h1, h2⟩
          have HS := zh (siftDown_size ltN k a 0 (swp dk a (a + k)))
          have HN3 : Hid ((siftDown ltN k a 0 (swp dk a (a + k))).size = n) := by rw [HS.out]; exact HN2
          have HH3 := zh h1; clear h1
          have HM3 := zh (HM2.out.drew.trans h2); clear h2
          clear hc1 hc2 hc3 hf1 hf2
          go_wp2_with fail
          go_roundw
          case rel => exact ⟨(k : Int) - 1, k, _, by go_num, by omega, by omega, HN3, HH3, HM3, HT2⟩
          case measure => simp [intOf]
end
section
open Go.RowKit RM
open Go.Sort hiding Below ahead
theorem holds_mut {w w' : World} {blk off g : Nat} {d : Array Nat} (h : Holds eu w blk off d) (hm : Mut g w w') (hg : blk ≠ g) : Holds eu w' blk off d := by
 intro j hj
 obtain ⟨h1, h2⟩ := h j hj
 have hb := hm.block blk (World.block_lt_of_cell? w _ h1) hg
 refine ⟨cell_mut h1 hm hg, ?_⟩
 rw [← h2]
 unfold World.frozen?
 rw [hb]
theorem order2_any {blk off n a b p s : Nat} {d : Array Nat} {w : World} (cap : Nat) (HN : Hid (d.size = n)) (HH : Hid (Holds eu w blk off d)) (ha : a < n) (hb : b < n) (hs : s ≤ 1000) (HB : Hid (Box w p 3 (.int .i64 (s : Int)))) :
 Calls Tryz.prog 214 #[.slice (some ⟨blk, off, none⟩) n cap, .int .i64 (a : Int), .int .i64 (b : Int), .pointer (some ⟨p, 0, none⟩)] w fun e w' =>
  ∃ x y s' : Nat, e = .returned (.tuple #[.int .i64 (x : Int), .int .i64 (y : Int)]) ∧ ((x = a ∧ y = b) ∨ (x = b ∧ y = a)) ∧ s' ≤ s + 1 ∧ Box w' p 3 (.int .i64 (s' : Int)) ∧ Mut p w w' := by
 obtain ⟨x, HX, hc1, hf1⟩ := at_cell HN HH b hb
 obtain ⟨y, HY, hc2, hf2⟩ := at_cell HN HH a ha
 obtain ⟨S, HS, c1, c2, PS⟩ := ex_cells2 hc1 hc2 HH (zh (Mut.refl blk w))
 have hp := HB.out.cell
 have hpf := HB.out.free
 have hr0 : (a : Int) < (n : Int) := by omega
 have hr1 : (b : Int) < (n : Int) := by omega
 have w1 := wr_in ((s : Int) + 1) (by omega) (by omega)
 go_enter Tryz.func214, Tryz.ntmps214
 go_wp2_with fail
 cases hl : ltN x y with
 | true =>
   have HL := zh hl; clear hl
   refine wp_region_ord S [(0, true), (1, true), (2, true), (3, true), (4, true), (5, true), (6, true), (7, true), (8, false)] (by kernel_rfl) (by kernel_rfl) rfl (by kernel_rfl) HS.out ?_
   iterate 8
    (refine wpOrd_step (zO rfl) ?_)
    (first
     | (refine wpOrd_skip (by rfl) ?_)
     | (refine wpOrd_take (v := ?_) (by rfl) ?_ ?_; rotate_left 1; (intro wx hSx; have hc_0 := c1 wx hSx; have hc_1 := c2 wx hSx; go_simp; try with_reducible rfl)))
    (try simp only [Act.put, zA4, zA5, zA6])
   (refine wpOrd_solo (zO rfl) ?_)
   intro K hK
   go_simp
   go_at_call 203
   refine (less_any _ _ _).mono ?_
   rintro e w' ⟨rfl, rfl⟩
   refine hK.out _ _ HS.out ?_
   clear hK K
   (try simp only [Act.put, zA4, zA5, zA6])
   rw [HL.out]
   refine wpOrd_done ?_
   clear PS HS c1 c2 hc1 hc2 hf1 hf2
   go_wp2_with fail
   go_ret2
   exact ⟨b, a, s + 1, rfl, .inr ⟨rfl, rfl⟩, zL _, HB.out.put _, (Mut.of_set w p 0 _).drew⟩
 | false =>
   have HL := zh hl; clear hl
   refine wp_region_ord S [(0, true), (1, true), (2, true), (3, true), (4, true), (5, true), (6, true), (7, true), (8, false)] (by kernel_rfl) (by kernel_rfl) rfl (by kernel_rfl) HS.out ?_
   iterate 8
    (refine wpOrd_step (zO rfl) ?_)
    (first
         | (refine wpOrd_skip (by rfl) ?_)
         | (refine wpOrd_take (v := ?_) (by rfl) ?_ ?_; rotate_left 1; (intro wx hSx; have hc_0 := c1 wx hSx; have hc_1 := c2 wx hSx; go_simp; try with_reducible rfl)))
    (try simp only [Act.put, zA4, zA5, zA6])
   (refine wpOrd_solo (zO rfl) ?_)
   intro K hK
   go_simp
   go_at_call 203
   refine (less_any _ _ _).mono ?_
   rintro e w' ⟨rfl, rfl⟩
   refine hK.out _ _ HS.out ?_
   clear hK K
   (try simp only [Act.put, zA4, zA5, zA6])
   rw [HL.out]
   refine wpOrd_done ?_
   clear PS HS c1 c2 hc1 hc2 hf1 hf2
   go_wp2_with fail
   go_ret2
   exact ⟨a, b, s, rfl, .inl ⟨rfl, rfl⟩, Nat.le_succ _, HB.out, (Mut.refl p w).drew⟩
theorem median_any {blk off n a b c p s : Nat} {d : Array Nat} {w : World} (cap : Nat) (HN : Hid (d.size = n)) (HH : Hid (Holds eu w blk off d)) (ha : a < n) (hb : b < n) (hc : c < n) (hs : s ≤ 900) (HB : Hid (Box w p 3 (.int .i64 (s : Int)))) (hpb : blk ≠ p) :
 Calls Tryz.prog 212 #[.slice (some ⟨blk, off, none⟩) n cap, .int .i64 (a : Int), .int .i64 (b : Int), .int .i64 (c : Int), .pointer (some ⟨p, 0, none⟩)] w fun e w' =>
  ∃ x s' : Nat, e = .returned (.int .i64 (x : Int)) ∧ (x = a ∨ x = b ∨ x = c) ∧ s' ≤ s + 3 ∧ Box w' p 3 (.int .i64 (s' : Int)) ∧ Mut p w w' := by
 go_enter Tryz.func212, Tryz.ntmps212
 go_wp2_with fail
 refine (order2_any cap HN HH ha hb (by omega) HB).mono ?_
 rintro e w1 ⟨x1, y1, s1, rfl, hxy1, hs1, hb1, hm1⟩
 have HB1 := zh hb1; clear hb1
 have HM1 := zh hm1; clear hm1
 have HH1 := zh (holds_mut HH.out HM1.out hpb)
 have hy1 : y1 < n := by omega
 have hx1 : x1 < n := by omega
 have H1 := zh hxy1; clear hxy1
 go_wp2_with fail
 refine (order2_any cap HN HH1 hy1 hc (by omega) HB1).mono ?_
 rintro e w2 ⟨x2, y2, s2, rfl, hxy2, hs2, hb2, hm2⟩
 have HB2 := zh hb2; clear hb2
 have HM2 := zh hm2; clear hm2
 have HH2 := zh (holds_mut HH1.out HM2.out hpb)
 have hx2 : x2 < n := by omega
 have H2 := zh hxy2; clear hxy2
 go_wp2_with fail
 refine (order2_any cap HN HH2 hx1 hx2 (by omega) HB2).mono ?_
 rintro e w3 ⟨x3, y3, s3, rfl, hxy3, hs3, hb3, hm3⟩
 have HB3 := zh hb3; clear hb3
 have HM3 := zh hm3; clear hm3
 have H3 := zh hxy3; clear hxy3
 go_wp2_with fail
 go_ret
 refine ⟨y3, s3, rfl, ?_, by omega, HB3.out, (HM1.out.trans HM2.out).trans HM3.out⟩
 have h1 := H1.out; have h2 := H2.out; have h3 := H3.out
 omega
theorem medadj_any {blk off n a p s : Nat} {d : Array Nat} {w : World} (cap : Nat) (HN : Hid (d.size = n)) (HH : Hid (Holds eu w blk off d)) (ha : 1 ≤ a) (hb : a + 1 < n) (hn : n ≤ 64) (hs : s ≤ 900) (HB : Hid (Box w p 3 (.int .i64 (s : Int)))) (hpb : blk ≠ p) :
 Calls Tryz.prog 211 #[.slice (some ⟨blk, off, none⟩) n cap, .int .i64 (a : Int), .pointer (some ⟨p, 0, none⟩)] w fun e w' =>
  ∃ x s' : Nat, e = .returned (.int .i64 (x : Int)) ∧ a ≤ x + 1 ∧ x ≤ a + 1 ∧ s' ≤ s + 3 ∧ Box w' p 3 (.int .i64 (s' : Int)) ∧ Mut p w w' := by
 obtain ⟨k, rfl⟩ : ∃ k, a = k + 1 := ⟨a - 1, by omega⟩
 have hc := median_any (a := k) (b := k + 1) (c := k + 1 + 1) cap HN HH (by omega) (by omega) (by omega) hs HB hpb
 have e1 : ((k + 1 : Nat) : Int) = (k : Int) + 1 := by omega
 have e2 : ((k + 1 + 1 : Nat) : Int) = (k : Int) + 1 + 1 := by omega
 rw [e1, e2] at hc
 rw [e1]
 have HC := zh hc; clear hc e1 e2
 have w1 := wr_in (k : Int) (by omega) (by omega)
 have w2 := wr_in ((k : Int) + 1 - 1) (by omega) (by omega)
 have w3 := wr_in ((k : Int) + 1 + 1) (by omega) (by omega)
 go_enter Tryz.func211, Tryz.ntmps211
 go_wp2_with fail
 refine HC.out.mono ?_
 rintro e w' ⟨x, s', rfl, hx, hs', hb', hm⟩
 have HB' := zh hb'; clear hb'
 have HM' := zh hm; clear hm
 have HXX := zh hx; clear hx
 go_wp2_with fail
 go_ret
 have hx := HXX.out
 exact ⟨x, s', rfl, by omega, by omega, hs', HB'.out, HM'.out⟩
theorem pivot_any (blk off n cap a b : Nat) (d : Array Nat) (w : World) (HN : Hid (d.size = n)) (HH : Hid (Holds eu w blk off d)) (hab : a + 12 < b) (hb : b ≤ n) (hn : n ≤ 64) :
 Calls Tryz.prog 200 #[.slice (some ⟨blk, off, none⟩) n cap, .int .i64 (a : Int), .int .i64 (b : Int)] w fun e w' =>
  ∃ x h : Nat, e = .returned (.tuple #[.int .i64 (x : Int), .int .i64 (h : Int)]) ∧ a ≤ x ∧ x < b ∧ h ≤ 2 ∧ Below w.heap.size w w' := by
 obtain ⟨l, hl⟩ : ∃ l, l = b - a := ⟨_, rfl⟩
 obtain ⟨q, hq⟩ : ∃ q, q = l / 4 := ⟨_, rfl⟩
 obtain ⟨i, hi⟩ : ∃ i, i = a + q := ⟨_, rfl⟩
 obtain ⟨j, hj⟩ : ∃ j, j = a + q * 2 := ⟨_, rfl⟩
 obtain ⟨k, hk⟩ : ∃ k, k = a + q * 3 := ⟨_, rfl⟩
 have e1 : (b : Int) - (a : Int) = (l : Int) := by omega
 have e2 : (l : Int) / 4 = (q : Int) := by omega
 have e3 : (a : Int) + (q : Int) = (i : Int) := by omega
 have e4 : (a : Int) + (q : Int) * 2 = (j : Int) := by omega
 have e5 : (a : Int) + (q : Int) * 3 = (k : Int) := by omega
 have hl8 : 12 < l := by omega
 have hl9 : l ≤ n := by omega
 have hq9 : q ≤ n := by omega
 have hi1 : a + 3 ≤ i := by omega
 have hi2 : i + 3 < b := by omega
 have hj1 : a + 3 ≤ j := by omega
 have hj2 : j + 3 < b := by omega
 have hk1 : a + 3 ≤ k := by omega
 have hk2 : k + 3 ≤ b := by omega
 have hblk : blk ≠ w.heap.size := by
  have h := World.block_lt_of_cell? w _ (HH.out 0 (by rw [HN.out]; omega)).1
  exact Nat.ne_of_lt h
 clear hl hq hi hj hk
 have hb0 : Hid (Box (w.alloc (.cells #[.int .i64 0] 3)) w.heap.size 3 (.int .i64 ((0 : Nat) : Int))) := Box.new w _ _
 have hh0 : Hid (Holds eu (w.alloc (.cells #[.int .i64 0] 3)) blk off d) := holds_mut HH.out (Mut.of_below ((zB _ _).alloc (zL _) _) w.heap.size) hblk
 have hl0 : Hid (Below w.heap.size w (w.alloc (.cells #[.int .i64 0] 3))) := (zB _ _).alloc (zL _) _
 go_enter Tryz.func200, Tryz.ntmps200
 have hg8 : (8 : Int) ≤ (l : Int) := by omega
 by_cases hl50 : 50 ≤ l
 ·have hg : (50 : Int) ≤ (l : Int) := by omega
  go_wp2_with fail
  refine (medadj_any cap HN hh0 (by omega) (by omega) hn (by omega) hb0 hblk).mono ?_
  rintro e w1 ⟨i1, s1, rfl, hi3, hi4, hs1, hbx1, hm1⟩
  have HB1 := zh hbx1; clear hbx1
  have HM1 := zh hm1; clear hm1
  have HH1 := zh (holds_mut hh0.out HM1.out hblk)
  clear hh0 hb0
  go_wp2_with fail
  refine (medadj_any cap HN HH1 (by omega) (by omega) hn (by omega) HB1 hblk).mono ?_
  rintro e w2 ⟨j1, s2, rfl, hj3, hj4, hs2, hbx2, hm2⟩
  have HB2 := zh hbx2; clear hbx2
  have HH2 := zh (holds_mut HH1.out hm2 hblk)
  have HM2 := zh (HM1.out.trans hm2); clear hm2
  clear HH1 HM1 HB1
  go_wp2_with fail
  refine (medadj_any cap HN HH2 (by omega) (by omega) hn (by omega) HB2 hblk).mono ?_
  rintro e w3 ⟨k1, s3, rfl, hk3, hk4, hs3, hbx3, hm3⟩
  have HB3 := zh hbx3; clear hbx3
  have HH3 := zh (holds_mut HH2.out hm3 hblk)
  have HM3 := zh (HM2.out.trans hm3); clear hm3
  clear HH2 HM2 HB2
  go_wp2_with fail
  refine (median_any cap HN HH3 (by omega) (by omega) (by omega) (by omega) HB3 hblk).mono ?_
  rintro e w4 ⟨x, s, rfl, hx, hs, hbx, hm⟩
  have hax : a ≤ x ∧ x < b := by omega
  have HM := zh (HM3.out.trans hm); clear hm
  have HB := zh hbx; clear hbx
  clear HH3 HM3 HB3 hx
  have HBL := zh (hl0.out.trans (HM.out.below (zL _) hl0.out.size))
  have hcl := HB.out.cell
  have hs9 : s ≤ 100 := by omega
  by_cases hs0 : s = 0
  ·subst hs0
   change World.cell? _ _ = some (.int .i64 0) at hcl
   go_wp2_with fail
   go_ret2
   exact ⟨x, 1, rfl, hax.1, hax.2, by omega, HBL.out⟩
  ·by_cases hs12 : s = 12
   ·subst hs12
    change World.cell? _ _ = some (.int .i64 12) at hcl
    go_wp2_with fail
    go_ret2
    exact ⟨x, 2, rfl, hax.1, hax.2, by omega, HBL.out⟩
   ·have hz0 : ¬ (s : Int) = 0 := by omega
    have hz12 : ¬ (s : Int) = 12 := by omega
    go_wp2_with fail
    go_ret2
    exact ⟨x, 0, rfl, hax.1, hax.2, by omega, HBL.out⟩
 ·have hg : ¬ (50 : Int) ≤ (l : Int) := by omega
  go_wp2_with fail
  refine (median_any cap HN hh0 (by omega) (by omega) (by omega) (by omega) hb0 hblk).mono ?_
  rintro e w2 ⟨x, s, rfl, hx, hs, hbx, hm⟩
  have hax : a ≤ x ∧ x < b := by omega
  have HM := zh hm; clear hm
  have HB := zh hbx; clear hbx
  clear hh0 hb0 hx
  have HBL := zh (hl0.out.trans (HM.out.below (zL _) hl0.out.size))
  have hcl := HB.out.cell
  have hs9 : s ≤ 100 := by omega
  by_cases hs0 : s = 0
  ·subst hs0
   change World.cell? _ _ = some (.int .i64 0) at hcl
   go_wp2_with fail
   go_ret2
   exact ⟨x, 1, rfl, hax.1, hax.2, by omega, HBL.out⟩
  ·by_cases hs12 : s = 12
   ·subst hs12
    change World.cell? _ _ = some (.int .i64 12) at hcl
    go_wp2_with fail
    go_ret2
    exact ⟨x, 2, rfl, hax.1, hax.2, by omega, HBL.out⟩
   ·have hz0 : ¬ (s : Int) = 0 := by omega
    have hz12 : ¬ (s : Int) = 12 := by omega
    go_wp2_with fail
    go_ret2
    exact ⟨x, 0, rfl, hax.1, hax.2, by omega, HBL.out⟩
end
section
open Go.RowKit RM
open Go.Sort hiding Below ahead
theorem mut_new {w w1 w2 : World} {g p : Nat} (h : Mut g w w1) (h2 : Mut p w1 w2) (hp : w.heap.size ≤ p) : Mut g w w2 :=
 ⟨h2.os.trans h.os, h2.tape.trans h.tape, h2.output.trans h.output, zM h.size h2.size, fun k hk hg => (h2.block k (zT hk h.size) (by omega)).trans (h.block k hk hg)⟩
theorem xor_in (x y : Int) : ∃ r : Nat, bits BinOp.xor IntKind.u64 x y = (r : Int) ∧ r < 2 ^ 64 := by
 unfold bits
 rw [IntKind.wrap_u64]
 generalize BitVec.toNat _ = t
 exact ⟨t % 18446744073709551616, by omega, by omega⟩
theorem box_put {p r : Nat} {w0 w : World} (v : Value) (HB : Hid (Box w p 218 (.int .u64 (r : Int)))) (HM : Hid (Mut p w0 w)) :
 Hid (Box (w.setCell ⟨p, 0, none⟩ v).drew p 218 v) ∧ Hid (Mut p w0 (w.setCell ⟨p, 0, none⟩ v).drew) :=
 ⟨HB.out.put _, (HM.out.trans (Mut.of_set w p 0 v)).drew⟩
theorem next_any {p r : Nat} {w : World} (HB : Hid (Box w p 218 (.int .u64 (r : Int)))) :
 Calls Tryz.prog 210 #[.pointer (some ⟨p, 0, none⟩)] w fun e w' => ∃ r' : Nat, e = .returned (.int .u64 (r' : Int)) ∧ r' < 2 ^ 64 ∧ Box w' p 218 (.int .u64 (r' : Int)) ∧ Mut p w w' := by
 have hp := HB.out.cell
 have hpf := HB.out.free
 have HM : Hid (Mut p w w) := Mut.refl p w
 go_enter Tryz.func210, Tryz.ntmps210
 go_wp2_with fail
 go_region
 obtain ⟨r1, e1, hr1⟩ := xor_in (r : Int) (IntKind.u64.wrap ((r : Int) * 8192))
 simp only [e1]
 clear e1
 obtain ⟨HB1, HM1⟩ := box_put (.int .u64 (r1 : Int)) HB HM
 generalize (w.setCell ⟨p, 0, none⟩ (.int .u64 (r1 : Int))).drew = W1 at HB1 HM1 ⊢
 clear hp hpf HB HM
 have hp := HB1.out.cell
 have hpf := HB1.out.free
 go_wp2_with fail
 go_region
 obtain ⟨r2, e2, hr2⟩ := xor_in (r1 : Int) ((r1 : Int) / 128)
 simp only [e2]
 clear e2
 obtain ⟨HB2, HM2⟩ := box_put (.int .u64 (r2 : Int)) HB1 HM1
 generalize (W1.setCell ⟨p, 0, none⟩ (.int .u64 (r2 : Int))).drew = W2 at HB2 HM2 ⊢
 clear hp hpf HB1 HM1
 have hp := HB2.out.cell
 have hpf := HB2.out.free
 go_wp2_with fail
 go_region
 obtain ⟨r3, e3, hr3⟩ := xor_in (r2 : Int) (IntKind.u64.wrap ((r2 : Int) * 131072))
 simp only [e3]
 clear e3
 obtain ⟨HB3, HM3⟩ := box_put (.int .u64 (r3 : Int)) HB2 HM2
 generalize (W2.setCell ⟨p, 0, none⟩ (.int .u64 (r3 : Int))).drew = W3 at HB3 HM3 ⊢
 clear hp hpf HB2 HM2
 have hp := HB3.out.cell
 go_wp2_with fail
 go_ret
 exact ⟨r3, rfl, hr3, HB3.out, HM3.out⟩
theorem pow_le : ∀ l : Fin 65, 1 ≤ l.val → 1 ≤ 2 ^ min (Lib.bitLen l.val) 64 ∧ 2 ^ min (Lib.bitLen l.val) 64 ≤ 2 * l.val := by decide +kernel
theorem pow_any (l : Nat) (hl : 1 ≤ l) (hl2 : l ≤ 64) (w : World) : Calls Tryz.prog 209 #[.int .i64 (l : Int)] w fun e w' => ∃ m : Nat, e = .returned (.int .u64 (m : Int)) ∧ 1 ≤ m ∧ m ≤ 2 * l ∧ w' = w := by
 have hc := fun w => Tryz.bits_Len (l : Int) w (by omega) (by omega)
 rw [Int.toNat_natCast] at hc
 have HC := zh hc; clear hc
 have w1 : IntKind.u64.wrap (l : Int) = l := by rw [IntKind.wrap_u64]; omega
 obtain ⟨h1, h2⟩ := pow_le ⟨l, by omega⟩ hl
 obtain ⟨m, hm⟩ : ∃ m : Nat, m = 2 ^ min (Lib.bitLen l) 64 := ⟨_, rfl⟩
 have hm1 : 1 ≤ m := by rw [hm]; exact h1
 have hm2 : m ≤ 2 * l := by rw [hm]; exact h2
 have e1 : (2 : Int) ^ min (Lib.bitLen l) 64 = (m : Int) := by rw [hm]; exact (Int.natCast_pow 2 _).symm
 have HE := zh e1; clear e1 hm h1 h2
 go_enter Tryz.func209, Tryz.ntmps209
 go_wp2_with fail
 refine (HC.out _).mono ?_
 rintro e w1 ⟨rfl, rfl⟩
 go_wp2_with fail
 rw [HE.out]
 go_ret
 exact ⟨m, ret_eq (int_eq (by rw [IntKind.wrap_u64]; omega)), hm1, hm2, rfl⟩
theorem break_any (blk off n cap a b : Nat) (d : Array Nat) (w : World) (HN : Hid (d.size = n)) (HH : Hid (Holds eu w blk off d)) (hab : a + 12 < b) (hb : b ≤ n) (hn : n ≤ 64) :
 Calls Tryz.prog 199 #[.slice (some ⟨blk, off, none⟩) n cap, .int .i64 (a : Int), .int .i64 (b : Int)] w fun e w' =>
  e = .returned (.tuple #[]) ∧ ∃ d', PermIn a b d d' ∧ Holds eu w' blk off d' ∧ Mut blk w w' := by
 obtain ⟨l, hl⟩ : ∃ l, l = b - a := ⟨_, rfl⟩
 obtain ⟨q, hq⟩ : ∃ q, q = l / 4 := ⟨_, rfl⟩
 obtain ⟨m, hm⟩ : ∃ m, m + 1 = a + q * 2 := ⟨a + q * 2 - 1, by omega⟩
 have e1 : (b : Int) - (a : Int) = (l : Int) := by omega
 have e2 : (l : Int) / 4 = (q : Int) := by omega
 have e4 : (a : Int) + (q : Int) * 2 = (m : Int) + 1 := by omega
 have hl8 : 12 < l := by omega
 have hl9 : l ≤ n := by omega
 have hq9 : q ≤ n := by omega
 have hm1 : a + 3 ≤ m := by omega
 have hm2 : m + 3 < b := by omega
 have hal : a + l = b := by omega
 have hblk : blk < w.heap.size := World.block_lt_of_cell? w _ (HH.out 0 (by rw [HN.out]; omega)).1
 have hg8 : (8 : Int) ≤ (l : Int) := by omega
 have HAL := zh hal; clear hal
 clear hl hq hm
 have wl : IntKind.u64.wrap (l : Int) = l := by rw [IntKind.wrap_u64]; omega
 have w5 := wr_in (m : Int) (by omega) (by omega)
 go_enter Tryz.func199, Tryz.ntmps199
 go_wp2_with fail
 refine (pow_any l (by omega) (by omega) _).mono ?_
 rintro e w' ⟨M, rfl, hM1, hM2, rfl⟩
 obtain ⟨K, rfl⟩ : ∃ K, M = K + 1 := ⟨M - 1, by omega⟩
 go_wp2_with fail
 go_loopw [9, 10] (fun iv _ wr => ∃ (i r : Nat) (dk : Array Nat), iv = .int .i64 i ∧ m ≤ i ∧ i ≤ m + 3 ∧ r < 2 ^ 64 ∧ Hid (dk.size = n) ∧ Hid (Holds eu wr blk off dk) ∧ Hid (Mut blk w wr) ∧ Hid (PermIn a b d dk) ∧ Hid (Box wr w.heap.size 218 (.int .u64 (r : Int)))) (fun iv _ _ => (m + 3) - (intOf iv).toNat)
 case atStart => exact ⟨m, l, d, by go_num, by omega, by omega, by omega, HN, holds_mut HH.out (Mut.of_below ((zB _ _).alloc (zL _) _) w.heap.size) (Nat.ne_of_lt hblk), Mut.of_below ((zB _ _).alloc (zL _) _) blk, permIn_refl _ _ _, Box.new w _ _⟩
 case round =>
  clear HH HN
  obtain ⟨i, r, dk, rfl, hi1, hi2, hr, HN, HH, HM, HP, HB⟩ := hrel
  have w8 := wr_in ((m : Int) + 1 + 1) (by omega) (by omega)
  by_cases hlt : i < m + 3
  ·have hg : (i : Int) ≤ (m : Int) + 1 + 1 := by omega
   go_wp2_with fail
   refine (next_any HB).mono ?_
   rintro e w1 ⟨r2, rfl, hr2', hbx, hm⟩
   have HB1 := zh hbx; clear hbx
   have HH1 := zh (holds_mut HH.out hm (Nat.ne_of_lt hblk))
   have HM1 := zh (mut_new HM.out hm (zL _)); clear hm
   clear HH HM HB
   have hK : r2 &&& K ≤ K := Nat.and_le_right
   have eand : bits BinOp.and IntKind.u64 (r2 : Int) (K : Int) = ((r2 &&& K : Nat) : Int) := and_c r2 K (by omega) (by omega)
   have HEA := zh eand; clear eand
   obtain ⟨o, ho⟩ : ∃ o, o = r2 &&& K := ⟨_, rfl⟩
   rw [← ho] at HEA hK
   clear ho
   have wK : IntKind.u64.wrap (K : Int) = K := by rw [IntKind.wrap_u64]; omega
   have wo := wr_in (o : Int) (by omega) (by omega)
   have hand := HEA.out
   by_cases hol : l ≤ o
   ·obtain ⟨t, ht⟩ : ∃ t, o = l + t := ⟨o - l, by omega⟩
    have e6 : (o : Int) - (l : Int) = (t : Int) := by omega
    have htl : t < l := by omega
    have hgo : (l : Int) ≤ (o : Int) := by omega
    have wt := wr_in (t : Int) (by omega) (by omega)
    clear ht
    obtain ⟨x, HX, hc1, hf1⟩ := at_cell HN HH1 (a + t) (by omega)
    obtain ⟨y, HY, hc2, hf2⟩ := at_cell HN HH1 i (by omega)
    obtain ⟨v3, hc3⟩ := set_some ⟨blk, off + i, none⟩ (.int .u64 (x : Int)) hc1
    obtain ⟨HN2, HH2, HM2⟩ := swp_holds HN HH1 HM1 i (a + t) HX HY (by omega) (by omega)
    have HP2 : Hid (PermIn a b d (swp dk i (a + t))) := permIn_trans _ _ _ _ _ HP.out (swp_permIn dk a b i (a + t) (by omega) (by omega) (by omega) (by have := HAL.out; omega) (by rw [HN.out]; exact hb))
    have HB2 : Hid (Box ((w1.setCell ⟨blk, off + i, none⟩ (.int .u64 (x : Int))).setCell ⟨blk, off + (a + t), none⟩ (.int .u64 (y : Int))) w.heap.size 218 (.int .u64 (r2 : Int))) := (HB1.out.far (Nat.ne_of_lt hblk) _).far (Nat.ne_of_lt hblk) _
    have hr0 : (0 : Int) ≤ (a : Int) + (t : Int) := by omega
    have hr1 : (a : Int) + (t : Int) < (n : Int) := by omega
    have hr2 : (i : Int) < (n : Int) := by omega
    have w6 := wr_in ((a : Int) + (t : Int)) (by omega) (by omega)
    have t1 : ((a : Int) + (t : Int)).toNat = a + t := by omega
    have w7 := wr_in ((i : Int) + 1) (by omega) (by omega)
    go_wp2_with fail
    go_region
    go_wp2_with fail
    go_roundw
    case rel => exact ⟨i + 1, r2, _, by go_num, by omega, by omega, hr2', HN2, HH2, HM2.out.drew, HP2, HB2⟩
    case measure => simp [intOf]; omega
   ·have hgo : ¬ (l : Int) ≤ (o : Int) := by omega
    have htl : o < l := by omega
    obtain ⟨x, HX, hc1, hf1⟩ := at_cell HN HH1 (a + o) (by omega)
    obtain ⟨y, HY, hc2, hf2⟩ := at_cell HN HH1 i (by omega)
    obtain ⟨v3, hc3⟩ := set_some ⟨blk, off + i, none⟩ (.int .u64 (x : Int)) hc1
    obtain ⟨HN2, HH2, HM2⟩ := swp_holds HN HH1 HM1 i (a + o) HX HY (by omega) (by omega)
    have HP2 : Hid (PermIn a b d (swp dk i (a + o))) := permIn_trans _ _ _ _ _ HP.out (swp_permIn dk a b i (a + o) (by omega) (by omega) (by omega) (by have := HAL.out; omega) (by rw [HN.out]; exact hb))
    have HB2 : Hid (Box ((w1.setCell ⟨blk, off + i, none⟩ (.int .u64 (x : Int))).setCell ⟨blk, off + (a + o), none⟩ (.int .u64 (y : Int))) w.heap.size 218 (.int .u64 (r2 : Int))) := (HB1.out.far (Nat.ne_of_lt hblk) _).far (Nat.ne_of_lt hblk) _
    have hr0 : (0 : Int) ≤ (a : Int) + (o : Int) := by omega
    have hr1 : (a : Int) + (o : Int) < (n : Int) := by omega
    have hr2 : (i : Int) < (n : Int) := by omega
    have w6 := wr_in ((a : Int) + (o : Int)) (by omega) (by omega)
    have t1 : ((a : Int) + (o : Int)).toNat = a + o := by omega
    have w7 := wr_in ((i : Int) + 1) (by omega) (by omega)
    go_wp2_with fail
    go_region
    go_wp2_with fail
    go_roundw
    case rel => exact ⟨i + 1, r2, _, by go_num, by omega, by omega, hr2', HN2, HH2, HM2.out.drew, HP2, HB2⟩
    case measure => simp [intOf]; omega
  ·have hg : ¬ (i : Int) ≤ (m : Int) + 1 + 1 := by omega
   go_wp2_with fail
   go_end0
   exact ⟨rfl, dk, HP.out, HH.out, HM.out⟩
end
section
open Go.RowKit RM
open Go.Sort hiding Below ahead
theorem up_yes {p : Nat → Bool} {d : Array Nat} {j i : Nat} (h : (decide (i ≤ j) && p d[i]!) = true) : scanUp p d j i = scanUp p d j (i + 1) := by
 conv => lhs; rw [scanUp]
 rw [if_pos h]
theorem up_no {p : Nat → Bool} {d : Array Nat} {j i : Nat} (h : (decide (i ≤ j) && p d[i]!) = false) : scanUp p d j i = i := by
 rw [scanUp, if_neg (by rw [h]; simp)]
theorem down_yes {p : Nat → Bool} {d : Array Nat} {j i : Nat} (h : (decide (i ≤ j + 1) && p d[j + 1]!) = true) : scanDown p d i (j + 1) = scanDown p d i j := by
 rw [scanDown, if_pos h]
theorem down_no {p : Nat → Bool} {d : Array Nat} {j i : Nat} (h : (decide (i ≤ j) && p d[j]!) = false) : scanDown p d i j = j := by
 cases j with
 | zero => rfl
 | succ j => rw [scanDown, if_neg (by rw [h]; simp)]
theorem and_split {a b : Bool} (h : (a && b) = true) : a = true ∧ b = true := by simpa using h
theorem parteq_any (blk off n cap a c pv : Nat) (d : Array Nat) (w : World) (HN : Hid (d.size = n)) (HH : Hid (Holds eu w blk off d)) (hab : a ≤ c) (hb : c < n) (hn : n ≤ 64) (hp2 : pv ≤ c) :
 Calls Tryz.prog 204 #[.slice (some ⟨blk, off, none⟩) n cap, .int .i64 (a : Int), .int .i64 ((c : Int) + 1), .int .i64 (pv : Int)] w fun e w' =>
  e = .returned (.int .i64 ((partitionEqual ltN d a (c + 1) pv).1 : Int)) ∧ Holds eu w' blk off (partitionEqual ltN d a (c + 1) pv).2 ∧ Mut blk w w' := by
 have HT0 : Hid (partEqLoop ltN a (a + 1) c (swp d a pv) = partitionEqual ltN d a (c + 1) pv) := rfl
 generalize partitionEqual ltN d a (c + 1) pv = R at *
 obtain ⟨x, HX, hc1, hf1⟩ := at_cell HN HH pv (by omega)
 obtain ⟨y, HY, hc2, hf2⟩ := at_cell HN HH a (by omega)
 obtain ⟨v3, hc3⟩ := set_some ⟨blk, off + a, none⟩ (.int .u64 (x : Int)) hc1
 obtain ⟨HN2, HH2, HM2⟩ := swp_holds HN HH (zh (Mut.refl blk w)) a pv HX HY (by omega) (by omega)
 have hr1 : (pv : Int) < (n : Int) := by omega
 have hr2 : (a : Int) < (n : Int) := by omega
 have w6 := wr_in ((a : Int) + 1) (by omega) (by omega)
 have w7 := wr_in (c : Int) (by omega) (by omega)
 go_enter Tryz.func204, Tryz.ntmps204
 go_wp2_with fail
 go_region
 go_wp2_with fail
 have HHd : Hid (Holds eu (World.drew ((w.setCell ⟨blk, off + a, none⟩ (.int .u64 (x : Int))).setCell ⟨blk, off + pv, none⟩ (.int .u64 (y : Int)))) blk off (swp d a pv)) := HH2
 have HMd := zh HM2.out.drew
 clear hc1 hc2 hc3 hf1 hf2 HH2 HM2
 generalize (World.drew ((w.setCell ⟨blk, off + a, none⟩ (.int .u64 (x : Int))).setCell ⟨blk, off + pv, none⟩ (.int .u64 (y : Int)))) = W at HHd HMd ⊢
 go_loopw [9, 10] (fun iv jv wr => ∃ (i j : Nat) (dk : Array Nat), iv = .int .i64 i ∧ jv = .int .i64 j ∧ a + 1 ≤ i ∧ i ≤ n ∧ a ≤ j ∧ j < n ∧ Hid (dk.size = n) ∧ Hid (Holds eu wr blk off dk) ∧ Hid (Mut blk w wr) ∧ Hid (partEqLoop ltN a i j dk = R)) (fun iv jv _ => (intOf jv).toNat + 1 - (intOf iv).toNat)
 case atStart => exact ⟨a + 1, c, _, by go_num, by go_num, by omega, by omega, by omega, by omega, HN2, HHd, HMd, HT0⟩
 case round =>
  clear HN2 HHd HMd HT0 HN HH HX HY
  obtain ⟨i, j, dk, rfl, rfl, hi1, hi2, hj1, hj2, HN, HH, HM, HT⟩ := hrel
  obtain ⟨wo, rfl⟩ : ∃ wo : World, wo = wr := ⟨_, rfl⟩
  go_wp2_with fail
  go_loopw [9] (fun kv wr => ∃ k : Nat, kv = .int .i64 k ∧ i ≤ k ∧ k ≤ n ∧ Hid (Holds eu wr blk off dk) ∧ Hid (Mut blk w wr) ∧ Hid (scanUp (fun x => !ltN dk[a]! x) dk j k = scanUp (fun x => !ltN dk[a]! x) dk j i)) (fun kv _ => n + 1 - (intOf kv).toNat)
  case atStart => exact ⟨i, rfl, by omega, by omega, HH, HM, rfl⟩
  case round =>
   clear HH HM
   obtain ⟨k, rfl, hk1, hk2, HH, HM, HI⟩ := hrel
   go_upto_region 3 with fail
   go_cut [43] from 29 to 45 (fun cv wx => cv = .bool (decide (k ≤ j) && !ltN dk[a]! dk[k]!) ∧ wx = wr.drew)
   case first =>
        by_cases hg : k ≤ j
        ·obtain ⟨x, HX, hc1, hf1⟩ := at_cell HN HH a (by omega)
         obtain ⟨y, HY, hc2, hf2⟩ := at_cell HN HH k (by omega)
         obtain ⟨S, HS, c1, c2, PS⟩ := ex_cells2 hc1 hc2 HH HM
         have hg2 : (k : Int) ≤ (j : Int) := by omega
         have hr1 : (a : Int) < (n : Int) := by omega
         have hr2 : (k : Int) < (n : Int) := by omega
         have hl : ∃ t, ltN x y = t := ⟨_, rfl⟩
         obtain ⟨t, hl⟩ := hl
         have HL := zh hl; clear hl hg
         refine wp_region_ord S [(0, true), (1, true), (2, true), (3, true), (4, true), (5, true), (6, true), (7, true), (8, true), (9, true), (10, true), (11, true), (12, false), (13, true), (14, true)] (by kernel_rfl) (by kernel_rfl) rfl (by kernel_rfl) HS.out ?_
         iterate 12
          (refine wpOrd_step (zO rfl) ?_)
          (first
           | (refine wpOrd_skip (by rfl) ?_)
           | (refine wpOrd_take (v := ?_) (by rfl) ?_ ?_; rotate_left 1; (intro wx hSx; have hc_0 := c1 wx hSx; have hc_1 := c2 wx hSx; go_simp; try with_reducible rfl)))
          (try simp only [Act.put, zA4, zA5, zA6])
         (refine wpOrd_solo (zO rfl) ?_)
         intro K hK
         go_simp
         go_at_call 203
         refine (less_any _ _ _).mono ?_
         rintro e w' ⟨rfl, rfl⟩
         refine hK.out _ _ HS.out ?_
         clear hK K
         (try simp only [Act.put, zA4, zA5, zA6])
         rw [HL.out]
         iterate 2
          (refine wpOrd_step (zO rfl) ?_)
          (first
           | (refine wpOrd_skip (by rfl) ?_)
           | (refine wpOrd_take (v := ?_) (by rfl) ?_ ?_; rotate_left 1; (intro wx hSx; go_simp; try with_reducible rfl)))
          (try simp only [Act.put, zA4, zA5, zA6])
         refine wpOrd_done ?_
         clear PS HS c1 c2 hc1 hc2 hf1 hf2
         go_wp2_with fail
         go_meet
         case rel =>
          refine ⟨?_, rfl⟩
          rw [← HX.out, ← HY.out, HL.out, zE (Int.ofNat_le.1 hg2)]
          simp
        ·have hg2 : ¬ (k : Int) ≤ (j : Int) := by omega
         obtain ⟨S, HS, PS⟩ : ∃ S : World → Prop, Hid (S wr.drew) ∧ Hid (∀ w', S w' → w' = wr.drew) := ⟨fun w' => w' = wr.drew, rfl, fun _ h => h⟩
         refine wp_region_ord S [(0, true), (1, true), (2, true), (3, true), (4, true), (5, true), (6, true), (7, true), (8, true), (9, true), (10, true), (11, true), (12, false), (13, true), (14, true)] (by kernel_rfl) (by kernel_rfl) rfl (by kernel_rfl) HS.out ?_
         iterate 12
          (refine wpOrd_step (zO rfl) ?_)
          (first
           | (refine wpOrd_skip (by rfl) ?_)
           | (refine wpOrd_take (v := ?_) (by rfl) ?_ ?_; rotate_left 1; (intro wx hSx; go_simp; try with_reducible rfl)))
          (try simp only [Act.put, zA4, zA5, zA6])
         (refine wpOrd_solo (zO rfl) ?_)
         intro K hK
         go_simp
         refine hK.out _ _ HS.out ?_
         clear hK K
         (try simp only [Act.put, zA4, zA5, zA6])
         iterate 2
          (refine wpOrd_step (zO rfl) ?_)
          (first
           | (refine wpOrd_skip (by rfl) ?_)
           | (refine wpOrd_take (v := ?_) (by rfl) ?_ ?_; rotate_left 1; (intro wx hSx; go_simp; try with_reducible rfl)))
          (try simp only [Act.put, zA4, zA5, zA6])
         refine wpOrd_done ?_
         clear PS HS
         go_wp2_with fail
         go_meet
         case rel => exact ⟨by rw [zF hg]; rfl, rfl⟩
   case rest =>
        obtain ⟨rfl, rfl⟩ := hcut
        cases hbb : (decide (k ≤ j) && !ltN dk[a]! dk[k]!) with
        | true =>
          have HI2 : Hid (scanUp (fun x => !ltN dk[a]! x) dk j (k + 1) = scanUp (fun x => !ltN dk[a]! x) dk j i) := by
           have h := up_yes (p := fun x => !ltN dk[a]! x) hbb
           rw [← h]; exact HI
          have hkj : k ≤ j := of_decide_eq_true (and_split hbb).1
          clear hbb
          go_wp2_with fail
          go_roundw
          case rel => exact ⟨k + 1, by go_num, by omega, by omega, HH, HM.out.drew, HI2⟩
          case measure => simp [intOf]; omega
        | false =>
          have HI2 : Hid (scanUp (fun x => !ltN dk[a]! x) dk j i = k) := by
           have h := up_no (p := fun x => !ltN dk[a]! x) hbb
           rw [← HI.out]; exact h
          clear hbb HI
          have HH' : Hid (Holds eu wr.drew blk off dk) := HH
          have HM' := zh HM.out.drew
          generalize wr.drew = W1 at HH' HM' ⊢
          clear HH HM
          go_wp2_with fail
          go_loopw [10] (fun lv wr => ∃ l : Nat, lv = .int .i64 l ∧ a ≤ l ∧ l ≤ j ∧ Hid (Holds eu wr blk off dk) ∧ Hid (Mut blk w wr) ∧ Hid (scanDown (fun x => ltN dk[a]! x) dk k l = scanDown (fun x => ltN dk[a]! x) dk k j)) (fun lv _ => (intOf lv).toNat)
          case atStart => exact ⟨j, rfl, by omega, by omega, HH', HM', rfl⟩
          case round =>
           clear HH' HM'
           obtain ⟨l, rfl, hl1, hl2, HH, HM, HJ⟩ := hrel
           go_upto_region 5 with fail
           go_cut [59] from 46 to 61 (fun cv wx => cv = .bool (decide (k ≤ l) && ltN dk[a]! dk[l]!) ∧ wx = wr.drew)
           case first =>
            by_cases hg : k ≤ l
            ·obtain ⟨x, HX, hc1, hf1⟩ := at_cell HN HH a (by omega)
             obtain ⟨y, HY, hc2, hf2⟩ := at_cell HN HH l (by omega)
             obtain ⟨S, HS, c1, c2, PS⟩ := ex_cells2 hc1 hc2 HH HM
             have hg2 : (k : Int) ≤ (l : Int) := by omega
             have hr1 : (a : Int) < (n : Int) := by omega
             have hr2 : (l : Int) < (n : Int) := by omega
             have hl : ∃ t, ltN x y = t := ⟨_, rfl⟩
             obtain ⟨t, hl⟩ := hl
             have HL := zh hl; clear hl hg
             refine wp_region_ord S [(0, true), (1, true), (2, true), (3, true), (4, true), (5, true), (6, true), (7, true), (8, true), (9, true), (10, true), (11, true), (12, false), (13, true)] (by kernel_rfl) (by kernel_rfl) rfl (by kernel_rfl) HS.out ?_
             iterate 12
              (refine wpOrd_step (zO rfl) ?_)
              (first
               | (refine wpOrd_skip (by rfl) ?_)
               | (refine wpOrd_take (v := ?_) (by rfl) ?_ ?_; rotate_left 1; (intro wx hSx; have hc_0 := c1 wx hSx; have hc_1 := c2 wx hSx; go_simp; try with_reducible rfl)))
              (try simp only [Act.put, zA4, zA5, zA6])
             (refine wpOrd_solo (zO rfl) ?_)
             intro K hK
             go_simp
             go_at_call 203
             refine (less_any _ _ _).mono ?_
             rintro e w' ⟨rfl, rfl⟩
             refine hK.out _ _ HS.out ?_
             clear hK K
             (try simp only [Act.put, zA4, zA5, zA6])
             rw [HL.out]
             iterate 1
              (refine wpOrd_step (zO rfl) ?_)
              (first
               | (refine wpOrd_skip (by rfl) ?_)
               | (refine wpOrd_take (v := ?_) (by rfl) ?_ ?_; rotate_left 1; (intro wx hSx; go_simp; try with_reducible rfl)))
              (try simp only [Act.put, zA4, zA5, zA6])
             refine wpOrd_done ?_
             clear PS HS c1 c2 hc1 hc2 hf1 hf2
             go_wp2_with fail
             go_meet
             case rel =>
              refine ⟨?_, rfl⟩
              rw [← HX.out, ← HY.out, HL.out, zE (Int.ofNat_le.1 hg2)]
              simp
            ·have hg2 : ¬ (k : Int) ≤ (l : Int) := by omega
             obtain ⟨S, HS, PS⟩ : ∃ S : World → Prop, Hid (S wr.drew) ∧ Hid (∀ w', S w' → w' = wr.drew) := ⟨fun w' => w' = wr.drew, rfl, fun _ h => h⟩
             refine wp_region_ord S [(0, true), (1, true), (2, true), (3, true), (4, true), (5, true), (6, true), (7, true), (8, true), (9, true), (10, true), (11, true), (12, false), (13, true)] (by kernel_rfl) (by kernel_rfl) rfl (by kernel_rfl) HS.out ?_
             iterate 12
              (refine wpOrd_step (zO rfl) ?_)
              (first
               | (refine wpOrd_skip (by rfl) ?_)
               | (refine wpOrd_take (v := ?_) (by rfl) ?_ ?_; rotate_left 1; (intro wx hSx; go_simp; try with_reducible rfl)))
              (try simp only [Act.put, zA4, zA5, zA6])
             (refine wpOrd_solo (zO rfl) ?_)
             intro K hK
             go_simp
             refine hK.out _ _ HS.out ?_
             clear hK K
             (try simp only [Act.put, zA4, zA5, zA6])
             iterate 1
              (refine wpOrd_step (zO rfl) ?_)
              (first
               | (refine wpOrd_skip (by rfl) ?_)
               | (refine wpOrd_take (v := ?_) (by rfl) ?_ ?_; rotate_left 1; (intro wx hSx; go_simp; try with_reducible rfl)))
              (try simp only [Act.put, zA4, zA5, zA6])
             refine wpOrd_done ?_
             clear PS HS
             go_wp2_with fail
             go_meet
             case rel => exact ⟨by rw [zF hg]; rfl, rfl⟩
           case rest =>
            obtain ⟨rfl, rfl⟩ := hcut
            cases hbb : (decide (k ≤ l) && ltN dk[a]! dk[l]!) with
            | true =>
              have hkl : k ≤ l := of_decide_eq_true (and_split hbb).1
              obtain ⟨l, rfl⟩ : ∃ m, l = m + 1 := ⟨l - 1, by omega⟩
              have HJ2 : Hid (scanDown (fun x => ltN dk[a]! x) dk k l = scanDown (fun x => ltN dk[a]! x) dk k j) := by
               have h := down_yes (p := fun x => ltN dk[a]! x) hbb
               rw [← h]; exact HJ
              have w9 := wr_in (l : Int) (by omega) (by omega)
              clear hbb HJ
              go_wp2_with fail
              go_roundw
              case rel => exact ⟨l, by go_num, by omega, by omega, HH, HM.out.drew, HJ2⟩
              case measure => simp [intOf]
            | false =>
              have HJ2 : Hid (scanDown (fun x => ltN dk[a]! x) dk k j = l) := by
               have h := down_no (p := fun x => ltN dk[a]! x) hbb
               rw [← HJ.out]; exact h
              clear hbb HJ
              have HH' : Hid (Holds eu wr.drew blk off dk) := HH
              have HM' := zh HM.out.drew
              generalize wr.drew = W2 at HH' HM' ⊢
              clear HH HM
              have HT2 : Hid ((if k > l then (k, dk) else partEqLoop ltN a (k + 1) (l - 1) (swp dk k l)) = R) := by
               have h := HT.out
               rw [partEqLoop_eq, HI2.out, HJ2.out] at h
               exact h
              clear HT HI2 HJ2
              by_cases hkl : l < k
              ·have HT3 : Hid ((k, dk) = R) := by
                    have h := HT2.out
                    rw [if_pos hkl] at h
                    exact h
               have hg : (l : Int) < (k : Int) := by omega
               clear HT2
               go_wp2_with fail
               go_ret
               rw [← HT3.out]
               exact ⟨rfl, HH'.out, HM'.out⟩
              ·obtain ⟨l, rfl⟩ : ∃ m, l = m + 1 := ⟨l - 1, by omega⟩
               have HT3 : Hid (partEqLoop ltN a (k + 1) l (swp dk k (l + 1)) = R) := by
                    have h := HT2.out
                    rw [if_neg hkl] at h
                    exact h
               have hg : ¬ (l : Int) + 1 < (k : Int) := by omega
               obtain ⟨x, HX, hc1, hf1⟩ := at_cell HN HH' (l + 1) (by omega)
               obtain ⟨y, HY, hc2, hf2⟩ := at_cell HN HH' k (by omega)
               obtain ⟨v3, hc3⟩ := set_some ⟨blk, off + k, none⟩ (.int .u64 (x : Int)) hc1
               obtain ⟨HN2, HH2, HM2⟩ := swp_holds HN HH' HM' k (l + 1) HX HY (by omega) (by omega)
               have hr0 : (0 : Int) ≤ (l : Int) + 1 := by omega
               have hr1 : (l : Int) + 1 < (n : Int) := by omega
               have hr2 : (k : Int) < (n : Int) := by omega
               have w9 := wr_in (l : Int) (by omega) (by omega)
               have w10 := wr_in ((k : Int) + 1) (by omega) (by omega)
               clear HT2 hkl
               go_wp2_with fail
               go_region
               go_wp2_with fail
               go_roundw
               case rel => exact ⟨k + 1, l, _, by go_num, by go_num, by omega, by omega, by omega, by omega, HN2, HH2, HM2.out.drew, HT3⟩
               case measure => simp [intOf]; omega
end
section
open Go.RowKit RM
open Go.Sort hiding Below ahead
def FF (a : Nat) (r : Nat × Array Nat) : Nat × Bool × Array Nat := (r.1, false, swp r.2 r.1 a)
theorem part_eq (d : Array Nat) (a c pv : Nat) : partition ltN d a (c + 1) pv =
 if scanUp (fun x => ltN x (swp d a pv)[a]!) (swp d a pv) c (a + 1) > scanDown (fun x => !ltN x (swp d a pv)[a]!) (swp d a pv) (scanUp (fun x => ltN x (swp d a pv)[a]!) (swp d a pv) c (a + 1)) c
 then (scanDown (fun x => !ltN x (swp d a pv)[a]!) (swp d a pv) (scanUp (fun x => ltN x (swp d a pv)[a]!) (swp d a pv) c (a + 1)) c, true, swp (swp d a pv) (scanDown (fun x => !ltN x (swp d a pv)[a]!) (swp d a pv) (scanUp (fun x => ltN x (swp d a pv)[a]!) (swp d a pv) c (a + 1)) c) a)
 else FF a (partLoop ltN a (scanUp (fun x => ltN x (swp d a pv)[a]!) (swp d a pv) c (a + 1) + 1) (scanDown (fun x => !ltN x (swp d a pv)[a]!) (swp d a pv) (scanUp (fun x => ltN x (swp d a pv)[a]!) (swp d a pv) c (a + 1)) c - 1) (swp (swp d a pv) (scanUp (fun x => ltN x (swp d a pv)[a]!) (swp d a pv) c (a + 1)) (scanDown (fun x => !ltN x (swp d a pv)[a]!) (swp d a pv) (scanUp (fun x => ltN x (swp d a pv)[a]!) (swp d a pv) c (a + 1)) c))) := rfl
theorem part_any (blk off n cap a c pv : Nat) (d : Array Nat) (w : World) (HN : Hid (d.size = n)) (HH : Hid (Holds eu w blk off d)) (hab : a ≤ c) (hb : c < n) (hn : n ≤ 64) (hp2 : pv ≤ c) :
 Calls Tryz.prog 205 #[.slice (some ⟨blk, off, none⟩) n cap, .int .i64 (a : Int), .int .i64 ((c : Int) + 1), .int .i64 (pv : Int)] w fun e w' =>
  e = .returned (.tuple #[.int .i64 ((partition ltN d a (c + 1) pv).1 : Int), .bool (partition ltN d a (c + 1) pv).2.1]) ∧ Holds eu w' blk off (partition ltN d a (c + 1) pv).2.2 ∧ Mut blk w w' := by
 have HT := zh (part_eq d a c pv).symm
 generalize partition ltN d a (c + 1) pv = R at *
 obtain ⟨x, HX, hc1, hf1⟩ := at_cell HN HH pv (by omega)
 obtain ⟨y, HY, hc2, hf2⟩ := at_cell HN HH a (by omega)
 obtain ⟨v3, hc3⟩ := set_some ⟨blk, off + a, none⟩ (.int .u64 (x : Int)) hc1
 obtain ⟨HN2, HH2, HM2⟩ := swp_holds HN HH (zh (Mut.refl blk w)) a pv HX HY (by omega) (by omega)
 have hr1 : (pv : Int) < (n : Int) := by omega
 have hr2 : (a : Int) < (n : Int) := by omega
 have w6 := wr_in ((a : Int) + 1) (by omega) (by omega)
 have w7 := wr_in (c : Int) (by omega) (by omega)
 go_enter Tryz.func205, Tryz.ntmps205
 go_wp2_with fail
 go_region
 have HHd : Hid (Holds eu (World.drew ((w.setCell ⟨blk, off + a, none⟩ (.int .u64 (x : Int))).setCell ⟨blk, off + pv, none⟩ (.int .u64 (y : Int)))) blk off (swp d a pv)) := HH2
 have HMd := zh HM2.out.drew
 clear hc1 hc2 hc3 hf1 hf2 HH2 HM2 HX HY HN HH
 generalize (World.drew ((w.setCell ⟨blk, off + a, none⟩ (.int .u64 (x : Int))).setCell ⟨blk, off + pv, none⟩ (.int .u64 (y : Int)))) = wr at HHd HMd ⊢
 generalize swp d a pv = dk at *
 have HN := HN2; have HH := HHd; have HM := HMd; clear HN2 HHd HMd
 obtain ⟨wo, rfl⟩ : ∃ wo : World, wo = wr := ⟨_, rfl⟩
 go_wp2_with fail
 go_loopw [10] (fun kv wr => ∃ k : Nat, kv = .int .i64 k ∧ (a + 1) ≤ k ∧ k ≤ n ∧ Hid (Holds eu wr blk off dk) ∧ Hid (Mut blk w wr) ∧ Hid (scanUp (fun x => ltN x dk[a]!) dk c k = scanUp (fun x => ltN x dk[a]!) dk c (a + 1))) (fun kv _ => n + 1 - (intOf kv).toNat)
 case atStart => exact ⟨(a + 1), by go_num, by omega, by omega, HH, HM, rfl⟩
 case round =>
  clear HH HM
  obtain ⟨k, rfl, hk1, hk2, HH, HM, HI⟩ := hrel
  go_upto_region 3 with fail
  go_cut [43] from 30 to 45 (fun cv wx => cv = .bool (decide (k ≤ c) && ltN dk[k]! dk[a]!) ∧ wx = wr.drew)
  case first =>
   by_cases hg : k ≤ c
   ·obtain ⟨x, HX, hc1, hf1⟩ := at_cell HN HH k (by omega)
    obtain ⟨y, HY, hc2, hf2⟩ := at_cell HN HH a (by omega)
    obtain ⟨S, HS, c1, c2, PS⟩ := ex_cells2 hc1 hc2 HH HM
    have hg2 : (k : Int) ≤ (c : Int) := by omega
    have hr1 : (k : Int) < (n : Int) := by omega
    have hr2 : (a : Int) < (n : Int) := by omega
    have hl : ∃ t, ltN x y = t := ⟨_, rfl⟩
    obtain ⟨t, hl⟩ := hl
    have HL := zh hl; clear hl hg
    refine wp_region_ord S [(0, true), (1, true), (2, true), (3, true), (4, true), (5, true), (6, true), (7, true), (8, true), (9, true), (10, true), (11, true), (12, false), (13, true)] (by kernel_rfl) (by kernel_rfl) rfl (by kernel_rfl) HS.out ?_
    iterate 12
     (refine wpOrd_step (zO rfl) ?_)
     (first
      | (refine wpOrd_skip (by rfl) ?_)
      | (refine wpOrd_take (v := ?_) (by rfl) ?_ ?_; rotate_left 1; (intro wx hSx; have hc_0 := c1 wx hSx; have hc_1 := c2 wx hSx; go_simp; try with_reducible rfl)))
     (try simp only [Act.put, zA4, zA5, zA6])
    (refine wpOrd_solo (zO rfl) ?_)
    intro K hK
    go_simp
    go_at_call 203
    refine (less_any _ _ _).mono ?_
    rintro e w' ⟨rfl, rfl⟩
    refine hK.out _ _ HS.out ?_
    clear hK K
    (try simp only [Act.put, zA4, zA5, zA6])
    rw [HL.out]
    iterate 1
     (refine wpOrd_step (zO rfl) ?_)
     (first
      | (refine wpOrd_skip (by rfl) ?_)
      | (refine wpOrd_take (v := ?_) (by rfl) ?_ ?_; rotate_left 1; (intro wx hSx; go_simp; try with_reducible rfl)))
     (try simp only [Act.put, zA4, zA5, zA6])
    refine wpOrd_done ?_
    clear PS HS c1 c2 hc1 hc2 hf1 hf2
    go_wp2_with fail
    go_meet
    case rel =>
     refine ⟨?_, rfl⟩
     rw [← HX.out, ← HY.out, HL.out, zE (Int.ofNat_le.1 hg2)]
     simp
   ·have hg2 : ¬ (k : Int) ≤ (c : Int) := by omega
    obtain ⟨S, HS, PS⟩ : ∃ S : World → Prop, Hid (S wr.drew) ∧ Hid (∀ w', S w' → w' = wr.drew) := ⟨fun w' => w' = wr.drew, rfl, fun _ h => h⟩
    refine wp_region_ord S [(0, true), (1, true), (2, true), (3, true), (4, true), (5, true), (6, true), (7, true), (8, true), (9, true), (10, true), (11, true), (12, false), (13, true)] (by kernel_rfl) (by kernel_rfl) rfl (by kernel_rfl) HS.out ?_
    iterate 12
     (refine wpOrd_step (zO rfl) ?_)
     (first
      | (refine wpOrd_skip (by rfl) ?_)
      | (refine wpOrd_take (v := ?_) (by rfl) ?_ ?_; rotate_left 1; (intro wx hSx; go_simp; try with_reducible rfl)))
     (try simp only [Act.put, zA4, zA5, zA6])
    (refine wpOrd_solo (zO rfl) ?_)
    intro K hK
    go_simp
    refine hK.out _ _ HS.out ?_
    clear hK K
    (try simp only [Act.put, zA4, zA5, zA6])
    iterate 1
     (refine wpOrd_step (zO rfl) ?_)
     (first
      | (refine wpOrd_skip (by rfl) ?_)
      | (refine wpOrd_take (v := ?_) (by rfl) ?_ ?_; rotate_left 1; (intro wx hSx; go_simp; try with_reducible rfl)))
     (try simp only [Act.put, zA4, zA5, zA6])
    refine wpOrd_done ?_
    clear PS HS
    go_wp2_with fail
    go_meet
    case rel => exact ⟨by rw [zF hg]; rfl, rfl⟩
  case rest =>
   obtain ⟨rfl, rfl⟩ := hcut
   cases hbb : (decide (k ≤ c) && ltN dk[k]! dk[a]!) with
   | true =>
     have HI2 : Hid (scanUp (fun x => ltN x dk[a]!) dk c (k + 1) = scanUp (fun x => ltN x dk[a]!) dk c (a + 1)) := by
      have h := up_yes (p := fun x => ltN x dk[a]!) hbb
      rw [← h]; exact HI
     have hkj : k ≤ c := of_decide_eq_true (and_split hbb).1
     clear hbb
     go_wp2_with fail
     go_roundw
     case rel => exact ⟨k + 1, by go_num, by omega, by omega, HH, HM.out.drew, HI2⟩
     case measure => simp [intOf]; omega
   | false =>
     have HI2 : Hid (scanUp (fun x => ltN x dk[a]!) dk c (a + 1) = k) := by
      have h := up_no (p := fun x => ltN x dk[a]!) hbb
      rw [← HI.out]; exact h
     clear hbb HI
     have HH' : Hid (Holds eu wr.drew blk off dk) := HH
     have HM' := zh HM.out.drew
     generalize wr.drew = W1 at HH' HM' ⊢
     clear HH HM
     go_wp2_with fail
     go_loopw [11] (fun lv wr => ∃ l : Nat, lv = .int .i64 l ∧ a ≤ l ∧ l ≤ c ∧ Hid (Holds eu wr blk off dk) ∧ Hid (Mut blk w wr) ∧ Hid (scanDown (fun x => !ltN x dk[a]!) dk k l = scanDown (fun x => !ltN x dk[a]!) dk k c)) (fun lv _ => (intOf lv).toNat)
     case atStart => exact ⟨c, by go_num, by omega, by omega, HH', HM', rfl⟩
     case round =>
      clear HH' HM'
      obtain ⟨l, rfl, hl1, hl2, HH, HM, HJ⟩ := hrel
      go_upto_region 5 with fail
      go_cut [60] from 46 to 62 (fun cv wx => cv = .bool (decide (k ≤ l) && !ltN dk[l]! dk[a]!) ∧ wx = wr.drew)
      case first =>
       by_cases hg : k ≤ l
       ·obtain ⟨x, HX, hc1, hf1⟩ := at_cell HN HH l (by omega)
        obtain ⟨y, HY, hc2, hf2⟩ := at_cell HN HH a (by omega)
        obtain ⟨S, HS, c1, c2, PS⟩ := ex_cells2 hc1 hc2 HH HM
        have hg2 : (k : Int) ≤ (l : Int) := by omega
        have hr1 : (l : Int) < (n : Int) := by omega
        have hr2 : (a : Int) < (n : Int) := by omega
        have hl : ∃ t, ltN x y = t := ⟨_, rfl⟩
        obtain ⟨t, hl⟩ := hl
        have HL := zh hl; clear hl hg
        refine wp_region_ord S [(0, true), (1, true), (2, true), (3, true), (4, true), (5, true), (6, true), (7, true), (8, true), (9, true), (10, true), (11, true), (12, false), (13, true), (14, true)] (by kernel_rfl) (by kernel_rfl) rfl (by kernel_rfl) HS.out ?_
        iterate 12
         (refine wpOrd_step (zO rfl) ?_)
         (first
          | (refine wpOrd_skip (by rfl) ?_)
          | (refine wpOrd_take (v := ?_) (by rfl) ?_ ?_; rotate_left 1; (intro wx hSx; have hc_0 := c1 wx hSx; have hc_1 := c2 wx hSx; go_simp; try with_reducible rfl)))
         (try simp only [Act.put, zA4, zA5, zA6])
        (refine wpOrd_solo (zO rfl) ?_)
        intro K hK
        go_simp
        go_at_call 203
        refine (less_any _ _ _).mono ?_
        rintro e w' ⟨rfl, rfl⟩
        refine hK.out _ _ HS.out ?_
        clear hK K
        (try simp only [Act.put, zA4, zA5, zA6])
        rw [HL.out]
        iterate 2
         (refine wpOrd_step (zO rfl) ?_)
         (first
          | (refine wpOrd_skip (by rfl) ?_)
          | (refine wpOrd_take (v := ?_) (by rfl) ?_ ?_; rotate_left 1; (intro wx hSx; go_simp; try with_reducible rfl)))
         (try simp only [Act.put, zA4, zA5, zA6])
        refine wpOrd_done ?_
        clear PS HS c1 c2 hc1 hc2 hf1 hf2
        go_wp2_with fail
        go_meet
        case rel =>
         refine ⟨?_, rfl⟩
         rw [← HX.out, ← HY.out, HL.out, zE (Int.ofNat_le.1 hg2)]
         simp
       ·have hg2 : ¬ (k : Int) ≤ (l : Int) := by omega
        obtain ⟨S, HS, PS⟩ : ∃ S : World → Prop, Hid (S wr.drew) ∧ Hid (∀ w', S w' → w' = wr.drew) := ⟨fun w' => w' = wr.drew, rfl, fun _ h => h⟩
        refine wp_region_ord S [(0, true), (1, true), (2, true), (3, true), (4, true), (5, true), (6, true), (7, true), (8, true), (9, true), (10, true), (11, true), (12, false), (13, true), (14, true)] (by kernel_rfl) (by kernel_rfl) rfl (by kernel_rfl) HS.out ?_
        iterate 12
         (refine wpOrd_step (zO rfl) ?_)
         (first
          | (refine wpOrd_skip (by rfl) ?_)
          | (refine wpOrd_take (v := ?_) (by rfl) ?_ ?_; rotate_left 1; (intro wx hSx; go_simp; try with_reducible rfl)))
         (try simp only [Act.put, zA4, zA5, zA6])
        (refine wpOrd_solo (zO rfl) ?_)
        intro K hK
        go_simp
        refine hK.out _ _ HS.out ?_
        clear hK K
        (try simp only [Act.put, zA4, zA5, zA6])
        iterate 2
         (refine wpOrd_step (zO rfl) ?_)
         (first
          | (refine wpOrd_skip (by rfl) ?_)
          | (refine wpOrd_take (v := ?_) (by rfl) ?_ ?_; rotate_left 1; (intro wx hSx; go_simp; try with_reducible rfl)))
         (try simp only [Act.put, zA4, zA5, zA6])
        refine wpOrd_done ?_
        clear PS HS
        go_wp2_with fail
        go_meet
        case rel => exact ⟨by rw [zF hg]; rfl, rfl⟩
      case rest =>
       obtain ⟨rfl, rfl⟩ := hcut
       cases hbb : (decide (k ≤ l) && !ltN dk[l]! dk[a]!) with
       | true =>
         have hkl : k ≤ l := of_decide_eq_true (and_split hbb).1
         obtain ⟨l, rfl⟩ : ∃ m, l = m + 1 := ⟨l - 1, by omega⟩
         have HJ2 : Hid (scanDown (fun x => !ltN x dk[a]!) dk k l = scanDown (fun x => !ltN x dk[a]!) dk k c) := by
          have h := down_yes (p := fun x => !ltN x dk[a]!) hbb
          rw [← h]; exact HJ
         have w9 := wr_in (l : Int) (by omega) (by omega)
         clear hbb HJ
         go_wp2_with fail
         go_roundw
         case rel => exact ⟨l, by go_num, by omega, by omega, HH, HM.out.drew, HJ2⟩
         case measure => simp [intOf]
       | false =>
         have HJ2 : Hid (scanDown (fun x => !ltN x dk[a]!) dk k c = l) := by
          have h := down_no (p := fun x => !ltN x dk[a]!) hbb
          rw [← HJ.out]; exact h
         clear hbb HJ
         have HH' : Hid (Holds eu wr.drew blk off dk) := HH
         have HM' := zh HM.out.drew
         generalize wr.drew = W2 at HH' HM' ⊢
         clear HH HM
         have HT2 : Hid ((if k > l then (l, true, swp dk l a) else FF a (partLoop ltN a (k + 1) (l - 1) (swp dk k l))) = R) := by
          have h := HT.out
          rw [HI2.out, HJ2.out] at h
          exact h
         clear HT HI2 HJ2
         by_cases hkl : l < k
         ·have HT3 : Hid ((l, true, swp dk l a) = R) := by
                  have h := HT2.out
                  rw [if_pos hkl] at h
                  exact h
          have hg : (l : Int) < (k : Int) := by omega
          clear HT2
          obtain ⟨x, HX, hc1, hf1⟩ := at_cell HN HH' a (by omega)
          obtain ⟨y, HY, hc2, hf2⟩ := at_cell HN HH' l (by omega)
          obtain ⟨v3, hc3⟩ := set_some ⟨blk, off + l, none⟩ (.int .u64 (x : Int)) hc1
          obtain ⟨HN2, HH2, HM2⟩ := swp_holds HN HH' HM' l a HX HY (by omega) (by omega)
          have hr1 : (l : Int) < (n : Int) := by omega
          have hr2 : (a : Int) < (n : Int) := by omega
          go_wp2_with fail
          go_region
          go_wp2_with fail
          go_ret2
          rw [← HT3.out]
          exact ⟨rfl, HH2.out, HM2.out.drew⟩
         ·obtain ⟨l, rfl⟩ : ∃ m, l = m + 1 := ⟨l - 1, by omega⟩
          have HT3 : Hid (FF a (partLoop ltN a (k + 1) l (swp dk k (l + 1))) = R) := by
                  have h := HT2.out
                  rw [if_neg hkl] at h
                  exact h
          have hg : ¬ (l : Int) + 1 < (k : Int) := by omega
          obtain ⟨x, HX, hc1, hf1⟩ := at_cell HN HH' (l + 1) (by omega)
          obtain ⟨y, HY, hc2, hf2⟩ := at_cell HN HH' k (by omega)
          obtain ⟨v3, hc3⟩ := set_some ⟨blk, off + k, none⟩ (.int .u64 (x : Int)) hc1
          obtain ⟨HN2, HH2, HM2⟩ := swp_holds HN HH' HM' k (l + 1) HX HY (by omega) (by omega)
          have hr0 : (0 : Int) ≤ (l : Int) + 1 := by omega
          have hr1 : (l : Int) + 1 < (n : Int) := by omega
          have hr2 : (k : Int) < (n : Int) := by omega
          have w9 := wr_in (l : Int) (by omega) (by omega)
          have w10 := wr_in ((k : Int) + 1) (by omega) (by omega)
          clear HT2 hkl
          go_wp2_with fail
          go_region
          have HHd : Hid (Holds eu (World.drew ((W2.setCell ⟨blk, off + k, none⟩ (.int .u64 (x : Int))).setCell ⟨blk, off + (l + 1), none⟩ (.int .u64 (y : Int)))) blk off (swp dk k (l + 1))) := HH2
          have HMd := zh HM2.out.drew
          clear hc1 hc2 hc3 hf1 hf2 HH2 HM2
          generalize (World.drew ((W2.setCell ⟨blk, off + k, none⟩ (.int .u64 (x : Int))).setCell ⟨blk, off + (l + 1), none⟩ (.int .u64 (y : Int)))) = W3 at HHd HMd ⊢
          go_wp2_with fail
          go_loopw [10, 11] (fun iv jv wr => ∃ (i j : Nat) (dk : Array Nat), iv = .int .i64 i ∧ jv = .int .i64 j ∧ a + 1 ≤ i ∧ i ≤ n ∧ a ≤ j ∧ j < n ∧ Hid (dk.size = n) ∧ Hid (Holds eu wr blk off dk) ∧ Hid (Mut blk w wr) ∧ Hid (FF a (partLoop ltN a i j dk) = R)) (fun iv jv _ => (intOf jv).toNat + 1 - (intOf iv).toNat)
          case atStart => exact ⟨k + 1, l, _, by go_num, by go_num, by omega, by omega, by omega, by omega, HN2, HHd, HMd, HT3⟩
          case round =>
                  clear HN2 HHd HMd HT3 HN HX HY HH' HM'
                  obtain ⟨i, j, dk, rfl, rfl, hi1, hi2, hj1, hj2, HN, HH, HM, HT⟩ := hrel
                  clear hk1 hk2 hl1 hl2
                  obtain ⟨wo, rfl⟩ : ∃ wo : World, wo = wr := ⟨_, rfl⟩
                  go_wp2_with fail
                  go_loopw [10] (fun kv wr => ∃ k : Nat, kv = .int .i64 k ∧ i ≤ k ∧ k ≤ n ∧ Hid (Holds eu wr blk off dk) ∧ Hid (Mut blk w wr) ∧ Hid (scanUp (fun x => ltN x dk[a]!) dk j k = scanUp (fun x => ltN x dk[a]!) dk j i)) (fun kv _ => n + 1 - (intOf kv).toNat)
                  case atStart => exact ⟨i, by go_num, by omega, by omega, HH, HM, rfl⟩
                  case round =>
                   clear HH HM
                   obtain ⟨k, rfl, hk1, hk2, HH, HM, HI⟩ := hrel
                   go_upto_region 13 with fail
                   go_cut [112] from 99 to 114 (fun cv wx => cv = .bool (decide (k ≤ j) && ltN dk[k]! dk[a]!) ∧ wx = wr.drew)
                   case first =>
                      by_cases hg : k ≤ j
                      ·obtain ⟨x, HX, hc1, hf1⟩ := at_cell HN HH k (by omega)
                       obtain ⟨y, HY, hc2, hf2⟩ := at_cell HN HH a (by omega)
                       obtain ⟨S, HS, c1, c2, PS⟩ := ex_cells2 hc1 hc2 HH HM
                       have hg2 : (k : Int) ≤ (j : Int) := by omega
                       have hr1 : (k : Int) < (n : Int) := by omega
                       have hr2 : (a : Int) < (n : Int) := by omega
                       have hl : ∃ t, ltN x y = t := ⟨_, rfl⟩
                       obtain ⟨t, hl⟩ := hl
                       have HL := zh hl; clear hl hg
                       refine wp_region_ord S [(0, true), (1, true), (2, true), (3, true), (4, true), (5, true), (6, true), (7, true), (8, true), (9, true), (10, true), (11, true), (12, false), (13, true)] (by kernel_rfl) (by kernel_rfl) rfl (by kernel_rfl) HS.out ?_
                       iterate 12
                          (refine wpOrd_step (zO rfl) ?_)
                          (first
                           | (refine wpOrd_skip (by rfl) ?_)
                           | (refine wpOrd_take (v := ?_) (by rfl) ?_ ?_; rotate_left 1; (intro wx hSx; have hc_0 := c1 wx hSx; have hc_1 := c2 wx hSx; go_simp; try with_reducible rfl)))
                          (try simp only [Act.put, zA4, zA5, zA6])
                       (refine wpOrd_solo (zO rfl) ?_)
                       intro K hK
                       go_simp
                       go_at_call 203
                       refine (less_any _ _ _).mono ?_
                       rintro e w' ⟨rfl, rfl⟩
                       refine hK.out _ _ HS.out ?_
                       clear hK K
                       (try simp only [Act.put, zA4, zA5, zA6])
                       rw [HL.out]
                       iterate 1
                          (refine wpOrd_step (zO rfl) ?_)
                          (first
                           | (refine wpOrd_skip (by rfl) ?_)
                           | (refine wpOrd_take (v := ?_) (by rfl) ?_ ?_; rotate_left 1; (intro wx hSx; go_simp; try with_reducible rfl)))
                          (try simp only [Act.put, zA4, zA5, zA6])
                       refine wpOrd_done ?_
                       clear PS HS c1 c2 hc1 hc2 hf1 hf2
                       go_wp2_with fail
                       go_meet
                       case rel =>
                          refine ⟨?_, rfl⟩
                          rw [← HX.out, ← HY.out, HL.out, zE (Int.ofNat_le.1 hg2)]
                          simp
                      ·have hg2 : ¬ (k : Int) ≤ (j : Int) := by omega
                       obtain ⟨S, HS, PS⟩ : ∃ S : World → Prop, Hid (S wr.drew) ∧ Hid (∀ w', S w' → w' = wr.drew) := ⟨fun w' => w' = wr.drew, rfl, fun _ h => h⟩
                       refine wp_region_ord S [(0, true), (1, true), (2, true), (3, true), (4, true), (5, true), (6, true), (7, true), (8, true), (9, true), (10, true), (11, true), (12, false), (13, true)] (by kernel_rfl) (by kernel_rfl) rfl (by kernel_rfl) HS.out ?_
                       iterate 12
                          (refine wpOrd_step (zO rfl) ?_)
                          (first
                           | (refine wpOrd_skip (by rfl) ?_)
                           | (refine wpOrd_take (v := ?_) (by rfl) ?_ ?_; rotate_left 1; (intro wx hSx; go_simp; try with_reducible rfl)))
                          (try simp only [Act.put, zA4, zA5, zA6])
                       (refine wpOrd_solo (zO rfl) ?_)
                       intro K hK
                       go_simp
                       refine hK.out _ _ HS.out ?_
                       clear hK K
                       (try simp only [Act.put, zA4, zA5, zA6])
                       iterate 1
                          (refine wpOrd_step (zO rfl) ?_)
                          (first
                           | (refine wpOrd_skip (by rfl) ?_)
                           | (refine wpOrd_take (v := ?_) (by rfl) ?_ ?_; rotate_left 1; (intro wx hSx; go_simp; try with_reducible rfl)))
                          (try simp only [Act.put, zA4, zA5, zA6])
                       refine wpOrd_done ?_
                       clear PS HS
                       go_wp2_with fail
                       go_meet
                       case rel => exact ⟨by rw [zF hg]; rfl, rfl⟩
                   case rest =>
                      obtain ⟨rfl, rfl⟩ := hcut
                      cases hbb : (decide (k ≤ j) && ltN dk[k]! dk[a]!) with
                      | true =>
                        have HI2 : Hid (scanUp (fun x => ltN x dk[a]!) dk j (k + 1) = scanUp (fun x => ltN x dk[a]!) dk j i) := by
                          have h := up_yes (p := fun x => ltN x dk[a]!) hbb
                          rw [← h]; exact HI
                        have hkj : k ≤ j := of_decide_eq_true (and_split hbb).1
                        clear hbb
                        go_wp2_with fail
                        go_roundw
                        case rel => exact ⟨k + 1, by go_num, by omega, by omega, HH, HM.out.drew, HI2⟩
                        case measure => simp [intOf]; omega
                      | false =>
                        have HI2 : Hid (scanUp (fun x => ltN x dk[a]!) dk j i = k) := by
                          have h := up_no (p := fun x => ltN x dk[a]!) hbb
                          rw [← HI.out]; exact h
                        clear hbb HI
                        have HH' : Hid (Holds eu wr.drew blk off dk) := HH
                        have HM' := zh HM.out.drew
                        generalize wr.drew = W1 at HH' HM' ⊢
                        clear HH HM
                        go_wp2_with fail
                        go_loopw [11] (fun lv wr => ∃ l : Nat, lv = .int .i64 l ∧ a ≤ l ∧ l ≤ j ∧ Hid (Holds eu wr blk off dk) ∧ Hid (Mut blk w wr) ∧ Hid (scanDown (fun x => !ltN x dk[a]!) dk k l = scanDown (fun x => !ltN x dk[a]!) dk k j)) (fun lv _ => (intOf lv).toNat)
                        case atStart => exact ⟨j, by go_num, by omega, by omega, HH', HM', rfl⟩
                        case round =>
                          clear HH' HM'
                          obtain ⟨l, rfl, hl1, hl2, HH, HM, HJ⟩ := hrel
                          go_upto_region 15 with fail
                          go_cut [129] from 115 to 131 (fun cv wx => cv = .bool (decide (k ≤ l) && !ltN dk[l]! dk[a]!) ∧ wx = wr.drew)
                          case first =>
                            by_cases hg : k ≤ l
                            ·obtain ⟨x, HX, hc1, hf1⟩ := at_cell HN HH l (by omega)
                             obtain ⟨y, HY, hc2, hf2⟩ := at_cell HN HH a (by omega)
                             obtain ⟨S, HS, c1, c2, PS⟩ := ex_cells2 hc1 hc2 HH HM
                             have hg2 : (k : Int) ≤ (l : Int) := by omega
                             have hr1 : (l : Int) < (n : Int) := by omega
                             have hr2 : (a : Int) < (n : Int) := by omega
                             have hl : ∃ t, ltN x y = t := ⟨_, rfl⟩
                             obtain ⟨t, hl⟩ := hl
                             have HL := zh hl; clear hl hg
                             refine wp_region_ord S [(0, true), (1, true), (2, true), (3, true), (4, true), (5, true), (6, true), (7, true), (8, true), (9, true), (10, true), (11, true), (12, false), (13, true), (14, true)] (by kernel_rfl) (by kernel_rfl) rfl (by kernel_rfl) HS.out ?_
                             iterate 12
                              (refine wpOrd_step (zO rfl) ?_)
                              (first
                               | (refine wpOrd_skip (by rfl) ?_)
                               | (refine wpOrd_take (v := ?_) (by rfl) ?_ ?_; rotate_left 1; (intro wx hSx; have hc_0 := c1 wx hSx; have hc_1 := c2 wx hSx; go_simp; try with_reducible rfl)))
                              (try simp only [Act.put, zA4, zA5, zA6])
                             (refine wpOrd_solo (zO rfl) ?_)
                             intro K hK
                             go_simp
                             go_at_call 203
                             refine (less_any _ _ _).mono ?_
                             rintro e w' ⟨rfl, rfl⟩
                             refine hK.out _ _ HS.out ?_
                             clear hK K
                             (try simp only [Act.put, zA4, zA5, zA6])
                             rw [HL.out]
                             iterate 2
                              (refine wpOrd_step (zO rfl) ?_)
                              (first
                               | (refine wpOrd_skip (by rfl) ?_)
                               | (refine wpOrd_take (v := ?_) (by rfl) ?_ ?_; rotate_left 1; (intro wx hSx; go_simp; try with_reducible rfl)))
                              (try simp only [Act.put, zA4, zA5, zA6])
                             refine wpOrd_done ?_
                             clear PS HS c1 c2 hc1 hc2 hf1 hf2
                             go_wp2_with fail
                             go_meet
                             case rel =>
                              refine ⟨?_, rfl⟩
                              rw [← HX.out, ← HY.out, HL.out, zE (Int.ofNat_le.1 hg2)]
                              simp
                            ·have hg2 : ¬ (k : Int) ≤ (l : Int) := by omega
                             obtain ⟨S, HS, PS⟩ : ∃ S : World → Prop, Hid (S wr.drew) ∧ Hid (∀ w', S w' → w' = wr.drew) := ⟨fun w' => w' = wr.drew, rfl, fun _ h => h⟩
                             refine wp_region_ord S [(0, true), (1, true), (2, true), (3, true), (4, true), (5, true), (6, true), (7, true), (8, true), (9, true), (10, true), (11, true), (12, false), (13, true), (14, true)] (by kernel_rfl) (by kernel_rfl) rfl (by kernel_rfl) HS.out ?_
                             iterate 12
                              (refine wpOrd_step (zO rfl) ?_)
                              (first
                               | (refine wpOrd_skip (by rfl) ?_)
                               | (refine wpOrd_take (v := ?_) (by rfl) ?_ ?_; rotate_left 1; (intro wx hSx; go_simp; try with_reducible rfl)))
                              (try simp only [Act.put, zA4, zA5, zA6])
                             (refine wpOrd_solo (zO rfl) ?_)
                             intro K hK
                             go_simp
                             refine hK.out _ _ HS.out ?_
                             clear hK K
                             (try simp only [Act.put, zA4, zA5, zA6])
                             iterate 2
                              (refine wpOrd_step (zO rfl) ?_)
                              (first
                               | (refine wpOrd_skip (by rfl) ?_)
                               | (refine wpOrd_take (v := ?_) (by rfl) ?_ ?_; rotate_left 1; (intro wx hSx; go_simp; try with_reducible rfl)))
                              (try simp only [Act.put, zA4, zA5, zA6])
                             refine wpOrd_done ?_
                             clear PS HS
                             go_wp2_with fail
                             go_meet
                             case rel => exact ⟨by rw [zF hg]; rfl, rfl⟩
                          case rest =>
                            obtain ⟨rfl, rfl⟩ := hcut
                            cases hbb : (decide (k ≤ l) && !ltN dk[l]! dk[a]!) with
                            | true =>
                              have hkl : k ≤ l := of_decide_eq_true (and_split hbb).1
                              obtain ⟨l, rfl⟩ : ∃ m, l = m + 1 := ⟨l - 1, by omega⟩
                              have HJ2 : Hid (scanDown (fun x => !ltN x dk[a]!) dk k l = scanDown (fun x => !ltN x dk[a]!) dk k j) := by
                               have h := down_yes (p := fun x => !ltN x dk[a]!) hbb
                               rw [← h]; exact HJ
                              have w9 := wr_in (l : Int) (by omega) (by omega)
                              clear hbb HJ
                              go_wp2_with fail
                              go_roundw
                              case rel => exact ⟨l, by go_num, by omega, by omega, HH, HM.out.drew, HJ2⟩
                              case measure => simp [intOf]
                            | false =>
                              have HJ2 : Hid (scanDown (fun x => !ltN x dk[a]!) dk k j = l) := by
                               have h := down_no (p := fun x => !ltN x dk[a]!) hbb
                               rw [← HJ.out]; exact h
                              clear hbb HJ
                              have HH' : Hid (Holds eu wr.drew blk off dk) := HH
                              have HM' := zh HM.out.drew
                              generalize wr.drew = W2 at HH' HM' ⊢
                              clear HH HM
                              have HT2 : Hid (FF a (if k > l then (l, dk) else partLoop ltN a (k + 1) (l - 1) (swp dk k l)) = R) := by
                               have h := HT.out
                               rw [partLoop_eq, HI2.out, HJ2.out] at h
                               exact h
                              clear HT HI2 HJ2
                              by_cases hkl : l < k
                              ·have HT3 : Hid ((l, false, swp dk l a) = R) := by
                                have h := HT2.out
                                rw [if_pos hkl] at h
                                exact h
                               have hg : (l : Int) < (k : Int) := by omega
                               clear HT2
                               obtain ⟨x, HX, hc1, hf1⟩ := at_cell HN HH' a (by omega)
                               obtain ⟨y, HY, hc2, hf2⟩ := at_cell HN HH' l (by omega)
                               obtain ⟨v3, hc3⟩ := set_some ⟨blk, off + l, none⟩ (.int .u64 (x : Int)) hc1
                               obtain ⟨HN2, HH2, HM2⟩ := swp_holds HN HH' HM' l a HX HY (by omega) (by omega)
                               have hr1 : (l : Int) < (n : Int) := by omega
                               have hr2 : (a : Int) < (n : Int) := by omega
                               go_wp2_with fail
                               go_region
                               go_wp2_with fail
                               go_ret2
                               rw [← HT3.out]
                               exact ⟨rfl, HH2.out, HM2.out.drew⟩
                              ·obtain ⟨l, rfl⟩ : ∃ m, l = m + 1 := ⟨l - 1, by omega⟩
                               have HT3 : Hid (FF a (partLoop ltN a (k + 1) l (swp dk k (l + 1))) = R) := by
                                have h := HT2.out
                                rw [if_neg hkl] at h
                                exact h
                               have hg : ¬ (l : Int) + 1 < (k : Int) := by omega
                               obtain ⟨x, HX, hc1, hf1⟩ := at_cell HN HH' (l + 1) (by omega)
                               obtain ⟨y, HY, hc2, hf2⟩ := at_cell HN HH' k (by omega)
                               obtain ⟨v3, hc3⟩ := set_some ⟨blk, off + k, none⟩ (.int .u64 (x : Int)) hc1
                               obtain ⟨HN2, HH2, HM2⟩ := swp_holds HN HH' HM' k (l + 1) HX HY (by omega) (by omega)
                               have hr0 : (0 : Int) ≤ (l : Int) + 1 := by omega
                               have hr1 : (l : Int) + 1 < (n : Int) := by omega
                               have hr2 : (k : Int) < (n : Int) := by omega
                               have w9 := wr_in (l : Int) (by omega) (by omega)
                               have w10 := wr_in ((k : Int) + 1) (by omega) (by omega)
                               clear HT2 hkl
                               go_wp2_with fail
                               go_region
                               go_wp2_with fail
                               go_roundw
                               case rel => exact ⟨k + 1, l, _, by go_num, by go_num, by omega, by omega, by omega, by omega, HN2, HH2, HM2.out.drew, HT3⟩
                               case measure => simp [intOf]; omega
end
section
open Go.RowKit RM
open Go.Sort hiding Below ahead
theorem ss_yes {d : Array Nat} {b k : Nat} (h : (decide (k + 1 < b) && !ltN d[k + 1]! d[k]!) = true) : scanSorted ltN d b (k + 1) = scanSorted ltN d b (k + 1 + 1) := by
 conv => lhs; rw [scanSorted]
 rw [Nat.add_sub_cancel, if_pos h]
theorem ss_no {d : Array Nat} {b k : Nat} (h : (decide (k + 1 < b) && !ltN d[k + 1]! d[k]!) = false) : scanSorted ltN d b (k + 1) = k + 1 := by
 rw [scanSorted, Nat.add_sub_cancel, if_neg (by rw [h]; simp)]
theorem up_yes2 {d : Array Nat} {b j : Nat} (hj : j + 1 < b) (h : ltN d[j + 1]! d[j]! = true) : shiftUp ltN b (j + 1) d = shiftUp ltN b (j + 1 + 1) (swp d (j + 1) j) := by
 conv => lhs; rw [shiftUp]
 rw [if_pos hj, Nat.add_sub_cancel, h]
 rfl
theorem up_no2 {d : Array Nat} {b j : Nat} (hj : j + 1 < b) (h : ltN d[j + 1]! d[j]! = false) : shiftUp ltN b (j + 1) d = d := by
 rw [shiftUp, if_pos hj, Nat.add_sub_cancel, h]
 rfl
theorem up_end2 {d : Array Nat} {b j : Nat} (hj : ¬ j + 1 < b) : shiftUp ltN b (j + 1) d = d := by
 rw [shiftUp, if_neg hj]
theorem dn_yes2 {d : Array Nat} {j : Nat} (h : ltN d[j + 1]! d[j]! = true) : shiftDown ltN (j + 1) d = shiftDown ltN j (swp d (j + 1) j) := by
 rw [shiftDown, h]; rfl
theorem dn_no2 {d : Array Nat} {j : Nat} (h : ltN d[j + 1]! d[j]! = false) : shiftDown ltN (j + 1) d = d := by
 rw [shiftDown, h]; rfl
theorem pins_step {a b s i k : Nat} {d : Array Nat} (h : scanSorted ltN d b i = k + 1) : partialIns ltN a b (s + 1) i d =
 if k + 1 = b then (d, true) else if b - a < 50 then (d, false) else
 partialIns ltN a b s (k + 1) (if b - (k + 1) ≥ 2 then shiftUp ltN b (k + 1 + 1) (if k + 1 - a ≥ 2 then shiftDown ltN k (swp d (k + 1) k) else swp d (k + 1) k) else if k + 1 - a ≥ 2 then shiftDown ltN k (swp d (k + 1) k) else swp d (k + 1) k) := by
 rw [partialIns]
 simp only [h, Nat.add_sub_cancel]
theorem partial_any (blk off n cap a b : Nat) (d : Array Nat) (w : World) (HN : Hid (d.size = n)) (HH : Hid (Holds eu w blk off d)) (hab : a < b) (hb : b ≤ n) (hn : n ≤ 64) :
 Calls Tryz.prog 202 #[.slice (some ⟨blk, off, none⟩) n cap, .int .i64 (a : Int), .int .i64 (b : Int)] w fun e w' =>
  e = .returned (.bool (partialInsertionSort ltN d a b).2) ∧ Holds eu w' blk off (partialInsertionSort ltN d a b).1 ∧ Mut blk w w' := by
 have HT0 : Hid (partialIns ltN a b 5 (a + 1) d = partialInsertionSort ltN d a b) := rfl
 generalize partialInsertionSort ltN d a b = R at *
 have w6 := wr_in ((a : Int) + 1) (by omega) (by omega)
 go_enter Tryz.func202, Tryz.ntmps202
 go_wp2_with fail
 go_loopw [7, 8, 9, 10] (fun iv tv _ _ wr => ∃ (t s m : Nat) (dk : Array Nat), iv = .int .i64 ((m : Int) + 1) ∧ tv = .int .i64 t ∧ t + s = 5 ∧ a ≤ m ∧ m + 1 ≤ b ∧ Hid (dk.size = n) ∧ Hid (Holds eu wr blk off dk) ∧ Hid (Mut blk w wr) ∧ Hid (partialIns ltN a b s (m + 1) dk = R)) (fun _ tv _ _ _ => 5 - (intOf tv).toNat)
 case atStart => exact ⟨0, 5, a, d, by go_num, by go_num, by omega, by omega, by omega, HN, HH, Mut.refl _ _, HT0⟩
 case round =>
  clear HN HH HT0
  obtain ⟨t, s, m, dk, rfl, rfl, hts, hm1, hm2, HN, HH, HM, HT⟩ := hrel
  cases s with
  | zero =>
    have HT2 : Hid ((dk, false) = R) := HT
    have hg : ¬ (t : Int) < 5 := by omega
    go_wp2_with fail
    go_ret
    rw [← HT2.out]
    exact ⟨rfl, HH.out, HM.out⟩
  | succ s =>
    have hg : (t : Int) < 5 := by omega
    go_wp2_with fail
    obtain ⟨wo, rfl⟩ : ∃ wo : World, wo = wr := ⟨_, rfl⟩
    go_loopw [7] (fun kv wr => ∃ k : Nat, kv = .int .i64 ((k : Int) + 1) ∧ m ≤ k ∧ k + 1 ≤ b ∧ Hid (Holds eu wr blk off dk) ∧ Hid (Mut blk w wr) ∧ Hid (scanSorted ltN dk b (k + 1) = scanSorted ltN dk b (m + 1))) (fun kv _ => b - (intOf kv).toNat)
    case atStart => exact ⟨m, rfl, by omega, by omega, HH, HM, rfl⟩
    case round =>
        clear HH HM
        obtain ⟨k, rfl, hk1, hk2, HH, HM, HI⟩ := hrel
        go_upto_region 5 with fail
        go_cut [32] from 17 to 34 (fun cv wx => cv = .bool (decide (k + 1 < b) && !ltN dk[k + 1]! dk[k]!) ∧ wx = wr.drew)
        case first =>
         by_cases hg : k + 1 < b
         ·obtain ⟨x, HX, hc1, hf1⟩ := at_cell HN HH (k + 1) (by omega)
          obtain ⟨y, HY, hc2, hf2⟩ := at_cell HN HH k (by omega)
          obtain ⟨S, HS, c1, c2, PS⟩ := ex_cells2 hc1 hc2 HH HM
          have hg2 : (k : Int) + 1 < (b : Int) := by omega
          have hr0 : (0 : Int) ≤ (k : Int) + 1 := by omega
          have hr1 : (k : Int) + 1 < (n : Int) := by omega
          have hr2 : (k : Int) < (n : Int) := by omega
          have w3 := wr_in (k : Int) (by omega) (by omega)
          have hl : ∃ t, ltN x y = t := ⟨_, rfl⟩
          obtain ⟨t, hl⟩ := hl
          have HL := zh hl; clear hl
          have HG : Hid (k + 1 < b) := hg
          clear hg
          refine wp_region_ord S [(0, true), (1, true), (2, true), (3, true), (4, true), (5, true), (6, true), (7, true), (8, true), (9, true), (10, true), (11, true), (12, true), (13, false), (14, true), (15, true)] (by kernel_rfl) (by kernel_rfl) rfl (by kernel_rfl) HS.out ?_
          iterate 13
           (refine wpOrd_step (zO rfl) ?_)
           (first
            | (refine wpOrd_skip (by rfl) ?_)
            | (refine wpOrd_take (v := ?_) (by rfl) ?_ ?_; rotate_left 1; (intro wx hSx; have hc_0 := c1 wx hSx; have hc_1 := c2 wx hSx; go_simp; try with_reducible rfl)))
           (try simp only [Act.put, zA4, zA5, zA6])
          (refine wpOrd_solo (zO rfl) ?_)
          intro K hK
          go_simp
          go_at_call 203
          refine (less_any _ _ _).mono ?_
          rintro e w' ⟨rfl, rfl⟩
          refine hK.out _ _ HS.out ?_
          clear hK K
          (try simp only [Act.put, zA4, zA5, zA6])
          rw [HL.out]
          iterate 2
           (refine wpOrd_step (zO rfl) ?_)
           (first
            | (refine wpOrd_skip (by rfl) ?_)
            | (refine wpOrd_take (v := ?_) (by rfl) ?_ ?_; rotate_left 1; (intro wx hSx; go_simp; try with_reducible rfl)))
           (try simp only [Act.put, zA4, zA5, zA6])
          refine wpOrd_done ?_
          clear PS HS c1 c2 hc1 hc2 hf1 hf2
          go_wp2_with fail
          go_meet
          case rel =>
           refine ⟨?_, rfl⟩
           rw [← HX.out, ← HY.out, HL.out, zE HG.out]
           simp
         ·have hg2 : ¬ (k : Int) + 1 < (b : Int) := by omega
          obtain ⟨S, HS, PS⟩ : ∃ S : World → Prop, Hid (S wr.drew) ∧ Hid (∀ w', S w' → w' = wr.drew) := ⟨fun w' => w' = wr.drew, rfl, fun _ h => h⟩
          refine wp_region_ord S [(0, true), (1, true), (2, true), (3, true), (4, true), (5, true), (6, true), (7, true), (8, true), (9, true), (10, true), (11, true), (12, true), (13, false), (14, true), (15, true)] (by kernel_rfl) (by kernel_rfl) rfl (by kernel_rfl) HS.out ?_
          iterate 13
           (refine wpOrd_step (zO rfl) ?_)
           (first
            | (refine wpOrd_skip (by rfl) ?_)
            | (refine wpOrd_take (v := ?_) (by rfl) ?_ ?_; rotate_left 1; (intro wx hSx; go_simp; try with_reducible rfl)))
           (try simp only [Act.put, zA4, zA5, zA6])
          (refine wpOrd_solo (zO rfl) ?_)
          intro K hK
          go_simp
          refine hK.out _ _ HS.out ?_
          clear hK K
          (try simp only [Act.put, zA4, zA5, zA6])
          iterate 2
           (refine wpOrd_step (zO rfl) ?_)
           (first
            | (refine wpOrd_skip (by rfl) ?_)
            | (refine wpOrd_take (v := ?_) (by rfl) ?_ ?_; rotate_left 1; (intro wx hSx; go_simp; try with_reducible rfl)))
           (try simp only [Act.put, zA4, zA5, zA6])
          refine wpOrd_done ?_
          clear PS HS
          go_wp2_with fail
          go_meet
          case rel => exact ⟨by rw [zF hg]; rfl, rfl⟩
        case rest =>
         obtain ⟨rfl, rfl⟩ := hcut
         cases hbb : (decide (k + 1 < b) && !ltN dk[k + 1]! dk[k]!) with
         | true =>
           have HI2 : Hid (scanSorted ltN dk b (k + 1 + 1) = scanSorted ltN dk b (m + 1)) := by
            rw [← ss_yes hbb]; exact HI
           have hkj : k + 1 < b := of_decide_eq_true (and_split hbb).1
           clear hbb
           have w9 := wr_in ((k : Int) + 1 + 1) (by omega) (by omega)
           go_wp2_with fail
           go_roundw
           case rel => exact ⟨k + 1, by go_num, by omega, by omega, HH, HM.out.drew, HI2⟩
           case measure => simp [intOf]; omega
         | false =>
           have HT2 := zh (pins_step (a := a) (s := s) (HI.out.symm.trans (ss_no hbb)));
           rw [HT.out] at HT2
           clear hbb HI HT
           have HH' : Hid (Holds eu wr.drew blk off dk) := HH
           have HM' := zh HM.out.drew
           generalize wr.drew = W1 at HH' HM' ⊢
           clear HH HM
           have HH := HH'; have HM := HM'; clear HH' HM'
           have w9 := wr_in ((k : Int) + 1 + 1) (by omega) (by omega)
           have w8 := wr_in (k : Int) (by omega) (by omega)
           have w7 := wr_in ((b : Int) - (a : Int)) (by omega) (by omega)
           have w5 := wr_in ((k : Int) + 1 - (a : Int)) (by omega) (by omega)
           have w4 := wr_in ((b : Int) - ((k : Int) + 1)) (by omega) (by omega)
           have w3 := wr_in ((t : Int) + 1) (by omega) (by omega)
           by_cases hkb : k + 1 = b
           ·have HT3 : Hid (R = (dk, true)) := by
             have h := HT2.out
             rw [if_pos hkb] at h
             exact h
            have hgb : (k : Int) + 1 = (b : Int) := by omega
            clear HT2
            go_wp2_with fail
            go_ret
            rw [HT3.out]
            exact ⟨rfl, HH.out, HM.out⟩
           ·have hgb : ¬ (k : Int) + 1 = (b : Int) := by omega
            by_cases h50 : b - a < 50
            ·have HT3 : Hid (R = (dk, false)) := by
                 have h := HT2.out
                 rw [if_neg hkb, if_pos h50] at h
                 exact h
             have hg5 : (b : Int) - (a : Int) < 50 := by omega
             clear HT2
             go_wp2_with fail
             go_ret
             rw [HT3.out]
             exact ⟨rfl, HH.out, HM.out⟩
            ·have HT3 := HT2.out
             rw [if_neg hkb, if_neg h50] at HT3
             have HT4 := zh HT3; clear HT3 HT2
             have hg5 : ¬ (b : Int) - (a : Int) < 50 := by omega
             obtain ⟨x, HX, hc1, hf1⟩ := at_cell HN HH k (by omega)
             obtain ⟨y, HY, hc2, hf2⟩ := at_cell HN HH (k + 1) (by omega)
             obtain ⟨v3, hc3⟩ := set_some ⟨blk, off + (k + 1), none⟩ (.int .u64 (x : Int)) hc1
             obtain ⟨HN2, HH2, HM2⟩ := swp_holds HN HH HM (k + 1) k HX HY (by omega) (by omega)
             have hr0 : (0 : Int) ≤ (k : Int) + 1 := by omega
             have hr1 : (k : Int) + 1 < (n : Int) := by omega
             have hr2 : (k : Int) < (n : Int) := by omega
             go_wp2_with fail
             go_region
             have HHd : Hid (Holds eu (World.drew ((W1.setCell ⟨blk, off + (k + 1), none⟩ (.int .u64 (x : Int))).setCell ⟨blk, off + k, none⟩ (.int .u64 (y : Int)))) blk off (swp dk (k + 1) k)) := HH2
             have HMd := zh HM2.out.drew
             clear hc1 hc2 hc3 hf1 hf2 HH2 HM2 HX HY HH HM HN
             generalize (World.drew ((W1.setCell ⟨blk, off + (k + 1), none⟩ (.int .u64 (x : Int))).setCell ⟨blk, off + k, none⟩ (.int .u64 (y : Int)))) = W2 at HHd HMd ⊢
             generalize swp dk (k + 1) k = dj at *
             have HN := HN2; have HH := HHd; have HM := HMd; clear HN2 HHd HMd
             by_cases h1 : 2 ≤ k + 1 - a
             ·have hgA : (2 : Int) ≤ (k : Int) + 1 - (a : Int) := by omega
              have HP0 : Hid (partialIns ltN a b s (k + 1) (if b - (k + 1) ≥ 2 then shiftUp ltN b (k + 1 + 1) (shiftDown ltN k dj) else shiftDown ltN k dj) = R) := by
                    have h := HT4.out.symm
                    rw [if_pos h1] at h
                    exact h
              clear HT4 h1
              go_wp2_with fail
              go_loopw [9] (fun jv wr => ∃ (j : Nat) (dj : Array Nat), jv = .int .i64 j ∧ j ≤ k ∧ Hid (dj.size = n) ∧ Hid (Holds eu wr blk off dj) ∧ Hid (Mut blk w wr) ∧ Hid (partialIns ltN a b s (k + 1) (if b - (k + 1) ≥ 2 then shiftUp ltN b (k + 1 + 1) (shiftDown ltN j dj) else shiftDown ltN j dj) = R)) (fun jv _ => (intOf jv).toNat)
              case atStart => exact ⟨k, dj, by go_num, by omega, HN, HH, HM, HP0⟩
              case round =>
                    clear HP0 HN HH HM
                    obtain ⟨j, dj, rfl, hj, HN, HH, HM, HP1⟩ := hrel
                    cases j with
                    | zero =>
                      have HP : Hid (partialIns ltN a b s (k + 1) (if b - (k + 1) ≥ 2 then shiftUp ltN b (k + 1 + 1) dj else dj) = R) := HP1
                      clear HP1
                      simp only [show ((0 : Nat) : Int) = 0 from rfl]
                      by_cases h2 : 2 ≤ b - (k + 1)
                      ·have hgB : (2 : Int) ≤ (b : Int) - ((k : Int) + 1) := by omega
                       have HP3 : Hid (partialIns ltN a b s (k + 1) (shiftUp ltN b (k + 1 + 1) dj) = R) := by
                        have h := HP.out
                        rw [if_pos h2] at h
                        exact h
                       clear HP h2
                       go_wp2_with fail
                       go_loopw [10] (fun jv wr => ∃ (j : Nat) (dj : Array Nat), jv = .int .i64 ((j : Int) + 1) ∧ j + 1 ≤ b ∧ Hid (dj.size = n) ∧ Hid (Holds eu wr blk off dj) ∧ Hid (Mut blk w wr) ∧ Hid (partialIns ltN a b s (k + 1) (shiftUp ltN b (j + 1) dj) = R)) (fun jv _ => b - (intOf jv).toNat)
                       case atStart => exact ⟨k + 1, dj, by go_num, by omega, HN, HH, HM, HP3⟩
                       case round =>
                        clear HP3 HN HH HM
                        obtain ⟨j, dj, rfl, hj, HN, HH, HM, HP4⟩ := hrel
                        by_cases hjb : j + 1 < b
                        ·have hgj : (j : Int) + 1 < (b : Int) := by omega
                         obtain ⟨x, HX, hc1, hf1⟩ := at_cell HN HH (j + 1) (by omega)
                         obtain ⟨y, HY, hc2, hf2⟩ := at_cell HN HH j (by omega)
                         obtain ⟨S, HS, c1, c2, PS⟩ := ex_cells2 hc1 hc2 HH HM
                         have hr0 : (0 : Int) ≤ (j : Int) + 1 := by omega
                         have hr1 : (j : Int) + 1 < (n : Int) := by omega
                         have hr2 : (j : Int) < (n : Int) := by omega
                         have w3 := wr_in (j : Int) (by omega) (by omega)
                         go_wp2_with fail
                         cases hl : ltN x y with
                         | true =>
                           have HP5 : Hid (partialIns ltN a b s (k + 1) (shiftUp ltN b (j + 1 + 1) (swp dj (j + 1) j)) = R) := by
                            have h := HP4.out
                            rw [up_yes2 hjb (by rw [← HX.out, ← HY.out]; exact hl)] at h
                            exact h
                           clear HP4
                           have HL := zh hl; clear hl
                           refine wp_region_ord S [(0, true), (1, true), (2, true), (3, true), (4, true), (5, true), (6, true), (7, true), (8, true), (9, false), (10, true)] (by kernel_rfl) (by kernel_rfl) rfl (by kernel_rfl) HS.out ?_
                           iterate 9
                            (refine wpOrd_step (zO rfl) ?_)
                            (first
                                   | (refine wpOrd_skip (by rfl) ?_)
                                   | (refine wpOrd_take (v := ?_) (by rfl) ?_ ?_; rotate_left 1; (intro wx hSx; have hc_0 := c1 wx hSx; have hc_1 := c2 wx hSx; go_simp; try with_reducible rfl)))
                            (try simp only [Act.put, zA4, zA5, zA6])
                           (refine wpOrd_solo (zO rfl) ?_)
                           intro K hK
                           go_simp
                           go_at_call 203
                           refine (less_any _ _ _).mono ?_
                           rintro e w' ⟨rfl, rfl⟩
                           refine hK.out _ _ HS.out ?_
                           clear hK K
                           (try simp only [Act.put, zA4, zA5, zA6])
                           rw [HL.out]
                           iterate 1
                            (refine wpOrd_step (zO rfl) ?_)
                            (first
                                   | (refine wpOrd_skip (by rfl) ?_)
                                   | (refine wpOrd_take (v := ?_) (by rfl) ?_ ?_; rotate_left 1; (intro wx hSx; go_simp; try with_reducible rfl)))
                            (try simp only [Act.put, zA4, zA5, zA6])
                           refine wpOrd_done ?_
                           obtain ⟨v3, hc3⟩ := set_some ⟨blk, off + (j + 1), none⟩ (.int .u64 (y : Int)) hc2
                           obtain ⟨HN2, HH2, HM2⟩ := swp_holds HN HH HM (j + 1) j HY HX (by omega) (by omega)
                           clear PS HS c1 c2
                           go_wp2_with fail
                           go_region
                           go_wp2_with fail
                           go_roundw
                           case rel => exact ⟨j + 1, _, by go_num, by omega, HN2, HH2, HM2.out.drew.drew, HP5⟩
                           case measure => simp [intOf]; omega
                         | false =>
                           have HP3 : Hid (partialIns ltN a b s (k + 1) dj = R) := by
                            have h := HP4.out
                            rw [up_no2 hjb (by rw [← HX.out, ← HY.out]; exact hl)] at h
                            exact h
                           clear HP4
                           have HL := zh hl; clear hl
                           refine wp_region_ord S [(0, true), (1, true), (2, true), (3, true), (4, true), (5, true), (6, true), (7, true), (8, true), (9, false), (10, true)] (by kernel_rfl) (by kernel_rfl) rfl (by kernel_rfl) HS.out ?_
                           iterate 9
                            (refine wpOrd_step (zO rfl) ?_)
                            (first
                                 | (refine wpOrd_skip (by rfl) ?_)
                                 | (refine wpOrd_take (v := ?_) (by rfl) ?_ ?_; rotate_left 1; (intro wx hSx; have hc_0 := c1 wx hSx; have hc_1 := c2 wx hSx; go_simp; try with_reducible rfl)))
                            (try simp only [Act.put, zA4, zA5, zA6])
                           (refine wpOrd_solo (zO rfl) ?_)
                           intro K hK
                           go_simp
                           go_at_call 203
                           refine (less_any _ _ _).mono ?_
                           rintro e w' ⟨rfl, rfl⟩
                           refine hK.out _ _ HS.out ?_
                           clear hK K
                           (try simp only [Act.put, zA4, zA5, zA6])
                           rw [HL.out]
                           iterate 1
                            (refine wpOrd_step (zO rfl) ?_)
                            (first
                                 | (refine wpOrd_skip (by rfl) ?_)
                                 | (refine wpOrd_take (v := ?_) (by rfl) ?_ ?_; rotate_left 1; (intro wx hSx; go_simp; try with_reducible rfl)))
                            (try simp only [Act.put, zA4, zA5, zA6])
                           refine wpOrd_done ?_
                           clear PS HS c1 c2 hc1 hc2 hf1 hf2
                           go_wp2_with fail
                           go_roundw
                           case rel => exact ⟨t + 1, s, k, dj, by go_num, by go_num, by omega, by omega, by omega, HN, HH, HM.out.drew, HP3⟩
                           case measure => simp [intOf]; omega
                        ·have hgj : ¬ (j : Int) + 1 < (b : Int) := by omega
                         have HP3 : Hid (partialIns ltN a b s (k + 1) dj = R) := by
                          have h := HP4.out
                          rw [up_end2 hjb] at h
                          exact h
                         clear HP4
                         go_wp2_with fail
                         go_roundw
                         case rel => exact ⟨t + 1, s, k, dj, by go_num, by go_num, by omega, by omega, by omega, HN, HH, HM.out, HP3⟩
                         case measure => simp [intOf]; omega
                      ·have hgB : ¬ (2 : Int) ≤ (b : Int) - ((k : Int) + 1) := by omega
                       have HP3 : Hid (partialIns ltN a b s (k + 1) dj = R) := by
                        have h := HP.out
                        rw [if_neg h2] at h
                        exact h
                       clear HP h2
                       go_wp2_with fail
                       go_roundw
                       case rel => exact ⟨t + 1, s, k, dj, by go_num, by go_num, by omega, by omega, by omega, HN, HH, HM.out, HP3⟩
                       case measure => simp [intOf]; omega
                    | succ j =>
                      obtain ⟨x, HX, hc1, hf1⟩ := at_cell HN HH (j + 1) (by omega)
                      obtain ⟨y, HY, hc2, hf2⟩ := at_cell HN HH j (by omega)
                      obtain ⟨S, HS, c1, c2, PS⟩ := ex_cells2 hc1 hc2 HH HM
                      have hr0 : (0 : Int) ≤ (j : Int) + 1 := by omega
                      have hr1 : (j : Int) + 1 < (n : Int) := by omega
                      have hr2 : (j : Int) < (n : Int) := by omega
                      have w3 := wr_in (j : Int) (by omega) (by omega)
                      go_wp2_with fail
                      cases hl : ltN x y with
                      | true =>
                        have HP2 : Hid (partialIns ltN a b s (k + 1) (if b - (k + 1) ≥ 2 then shiftUp ltN b (k + 1 + 1) (shiftDown ltN j (swp dj (j + 1) j)) else shiftDown ltN j (swp dj (j + 1) j)) = R) := by
                         have h := HP1.out
                         rw [dn_yes2 (by rw [← HX.out, ← HY.out]; exact hl)] at h
                         exact h
                        clear HP1
                        have HL := zh hl; clear hl
                        refine wp_region_ord S [(0, true), (1, true), (2, true), (3, true), (4, true), (5, true), (6, true), (7, true), (8, true), (9, false), (10, true)] (by kernel_rfl) (by kernel_rfl) rfl (by kernel_rfl) HS.out ?_
                        iterate 9
                         (refine wpOrd_step (zO rfl) ?_)
                         (first
                          | (refine wpOrd_skip (by rfl) ?_)
                          | (refine wpOrd_take (v := ?_) (by rfl) ?_ ?_; rotate_left 1; (intro wx hSx; have hc_0 := c1 wx hSx; have hc_1 := c2 wx hSx; go_simp; try with_reducible rfl)))
                         (try simp only [Act.put, zA4, zA5, zA6])
                        (refine wpOrd_solo (zO rfl) ?_)
                        intro K hK
                        go_simp
                        go_at_call 203
                        refine (less_any _ _ _).mono ?_
                        rintro e w' ⟨rfl, rfl⟩
                        refine hK.out _ _ HS.out ?_
                        clear hK K
                        (try simp only [Act.put, zA4, zA5, zA6])
                        rw [HL.out]
                        iterate 1
                         (refine wpOrd_step (zO rfl) ?_)
                         (first
                          | (refine wpOrd_skip (by rfl) ?_)
                          | (refine wpOrd_take (v := ?_) (by rfl) ?_ ?_; rotate_left 1; (intro wx hSx; go_simp; try with_reducible rfl)))
                         (try simp only [Act.put, zA4, zA5, zA6])
                        refine wpOrd_done ?_
                        obtain ⟨v3, hc3⟩ := set_some ⟨blk, off + (j + 1), none⟩ (.int .u64 (y : Int)) hc2
                        obtain ⟨HN2, HH2, HM2⟩ := swp_holds HN HH HM (j + 1) j HY HX (by omega) (by omega)
                        clear PS HS c1 c2
                        go_wp2_with fail
                        go_region
                        go_wp2_with fail
                        go_roundw
                        case rel => exact ⟨j, _, by go_num, by omega, HN2, HH2, HM2.out.drew.drew, HP2⟩
                        case measure => simp [intOf]
                      | false =>
                        have HP : Hid (partialIns ltN a b s (k + 1) (if b - (k + 1) ≥ 2 then shiftUp ltN b (k + 1 + 1) dj else dj) = R) := by
                         have h := HP1.out
                         rw [dn_no2 (by rw [← HX.out, ← HY.out]; exact hl)] at h
                         exact h
                        clear HP1
                        have HL := zh hl; clear hl
                        refine wp_region_ord S [(0, true), (1, true), (2, true), (3, true), (4, true), (5, true), (6, true), (7, true), (8, true), (9, false), (10, true)] (by kernel_rfl) (by kernel_rfl) rfl (by kernel_rfl) HS.out ?_
                        iterate 9
                         (refine wpOrd_step (zO rfl) ?_)
                         (first
                              | (refine wpOrd_skip (by rfl) ?_)
                              | (refine wpOrd_take (v := ?_) (by rfl) ?_ ?_; rotate_left 1; (intro wx hSx; have hc_0 := c1 wx hSx; have hc_1 := c2 wx hSx; go_simp; try with_reducible rfl)))
                         (try simp only [Act.put, zA4, zA5, zA6])
                        (refine wpOrd_solo (zO rfl) ?_)
                        intro K hK
                        go_simp
                        go_at_call 203
                        refine (less_any _ _ _).mono ?_
                        rintro e w' ⟨rfl, rfl⟩
                        refine hK.out _ _ HS.out ?_
                        clear hK K
                        (try simp only [Act.put, zA4, zA5, zA6])
                        rw [HL.out]
                        iterate 1
                         (refine wpOrd_step (zO rfl) ?_)
                         (first
                              | (refine wpOrd_skip (by rfl) ?_)
                              | (refine wpOrd_take (v := ?_) (by rfl) ?_ ?_; rotate_left 1; (intro wx hSx; go_simp; try with_reducible rfl)))
                         (try simp only [Act.put, zA4, zA5, zA6])
                        refine wpOrd_done ?_
                        clear PS HS c1 c2 hc1 hc2 hf1 hf2
                        have HHd : Hid (Holds eu wr.drew blk off dj) := HH
                        have HMd := zh HM.out.drew
                        generalize wr.drew = W3 at HHd HMd ⊢
                        clear HH HM HX HY HL
                        have HH := HHd; have HM := HMd; clear HHd HMd
                        by_cases h2 : 2 ≤ b - (k + 1)
                        ·have hgB : (2 : Int) ≤ (b : Int) - ((k : Int) + 1) := by omega
                         have HP3 : Hid (partialIns ltN a b s (k + 1) (shiftUp ltN b (k + 1 + 1) dj) = R) := by
                          have h := HP.out
                          rw [if_pos h2] at h
                          exact h
                         clear HP h2
                         go_wp2_with fail
                         go_loopw [10] (fun jv wr => ∃ (j : Nat) (dj : Array Nat), jv = .int .i64 ((j : Int) + 1) ∧ j + 1 ≤ b ∧ Hid (dj.size = n) ∧ Hid (Holds eu wr blk off dj) ∧ Hid (Mut blk w wr) ∧ Hid (partialIns ltN a b s (k + 1) (shiftUp ltN b (j + 1) dj) = R)) (fun jv _ => b - (intOf jv).toNat)
                         case atStart => exact ⟨k + 1, dj, by go_num, by omega, HN, HH, HM, HP3⟩
                         case round =>
                          clear HP3 HN HH HM
                          obtain ⟨j, dj, rfl, hj, HN, HH, HM, HP4⟩ := hrel
                          by_cases hjb : j + 1 < b
                          ·have hgj : (j : Int) + 1 < (b : Int) := by omega
                           obtain ⟨x, HX, hc1, hf1⟩ := at_cell HN HH (j + 1) (by omega)
                           obtain ⟨y, HY, hc2, hf2⟩ := at_cell HN HH j (by omega)
                           obtain ⟨S, HS, c1, c2, PS⟩ := ex_cells2 hc1 hc2 HH HM
                           have hr0 : (0 : Int) ≤ (j : Int) + 1 := by omega
                           have hr1 : (j : Int) + 1 < (n : Int) := by omega
                           have hr2 : (j : Int) < (n : Int) := by omega
                           have w3 := wr_in (j : Int) (by omega) (by omega)
                           go_wp2_with fail
                           cases hl : ltN x y with
                           | true =>
                             have HP5 : Hid (partialIns ltN a b s (k + 1) (shiftUp ltN b (j + 1 + 1) (swp dj (j + 1) j)) = R) := by
                              have h := HP4.out
                              rw [up_yes2 hjb (by rw [← HX.out, ← HY.out]; exact hl)] at h
                              exact h
                             clear HP4
                             have HL := zh hl; clear hl
                             refine wp_region_ord S [(0, true), (1, true), (2, true), (3, true), (4, true), (5, true), (6, true), (7, true), (8, true), (9, false), (10, true)] (by kernel_rfl) (by kernel_rfl) rfl (by kernel_rfl) HS.out ?_
                             iterate 9
                              (refine wpOrd_step (zO rfl) ?_)
                              (first
                                     | (refine wpOrd_skip (by rfl) ?_)
                                     | (refine wpOrd_take (v := ?_) (by rfl) ?_ ?_; rotate_left 1; (intro wx hSx; have hc_0 := c1 wx hSx; have hc_1 := c2 wx hSx; go_simp; try with_reducible rfl)))
                              (try simp only [Act.put, zA4, zA5, zA6])
                             (refine wpOrd_solo (zO rfl) ?_)
                             intro K hK
                             go_simp
                             go_at_call 203
                             refine (less_any _ _ _).mono ?_
                             rintro e w' ⟨rfl, rfl⟩
                             refine hK.out _ _ HS.out ?_
                             clear hK K
                             (try simp only [Act.put, zA4, zA5, zA6])
                             rw [HL.out]
                             iterate 1
                              (refine wpOrd_step (zO rfl) ?_)
                              (first
                                     | (refine wpOrd_skip (by rfl) ?_)
                                     | (refine wpOrd_take (v := ?_) (by rfl) ?_ ?_; rotate_left 1; (intro wx hSx; go_simp; try with_reducible rfl)))
                              (try simp only [Act.put, zA4, zA5, zA6])
                             refine wpOrd_done ?_
                             obtain ⟨v3, hc3⟩ := set_some ⟨blk, off + (j + 1), none⟩ (.int .u64 (y : Int)) hc2
                             obtain ⟨HN2, HH2, HM2⟩ := swp_holds HN HH HM (j + 1) j HY HX (by omega) (by omega)
                             clear PS HS c1 c2
                             go_wp2_with fail
                             go_region
                             go_wp2_with fail
                             go_roundw
                             case rel => exact ⟨j + 1, _, by go_num, by omega, HN2, HH2, HM2.out.drew.drew, HP5⟩
                             case measure => simp [intOf]; omega
                           | false =>
                             have HP3 : Hid (partialIns ltN a b s (k + 1) dj = R) := by
                              have h := HP4.out
                              rw [up_no2 hjb (by rw [← HX.out, ← HY.out]; exact hl)] at h
                              exact h
                             clear HP4
                             have HL := zh hl; clear hl
                             refine wp_region_ord S [(0, true), (1, true), (2, true), (3, true), (4, true), (5, true), (6, true), (7, true), (8, true), (9, false), (10, true)] (by kernel_rfl) (by kernel_rfl) rfl (by kernel_rfl) HS.out ?_
                             iterate 9
                              (refine wpOrd_step (zO rfl) ?_)
                              (first
                                   | (refine wpOrd_skip (by rfl) ?_)
                                   | (refine wpOrd_take (v := ?_) (by rfl) ?_ ?_; rotate_left 1; (intro wx hSx; have hc_0 := c1 wx hSx; have hc_1 := c2 wx hSx; go_simp; try with_reducible rfl)))
                              (try simp only [Act.put, zA4, zA5, zA6])
                             (refine wpOrd_solo (zO rfl) ?_)
                             intro K hK
                             go_simp
                             go_at_call 203
                             refine (less_any _ _ _).mono ?_
                             rintro e w' ⟨rfl, rfl⟩
                             refine hK.out _ _ HS.out ?_
                             clear hK K
                             (try simp only [Act.put, zA4, zA5, zA6])
                             rw [HL.out]
                             iterate 1
                              (refine wpOrd_step (zO rfl) ?_)
                              (first
                                   | (refine wpOrd_skip (by rfl) ?_)
                                   | (refine wpOrd_take (v := ?_) (by rfl) ?_ ?_; rotate_left 1; (intro wx hSx; go_simp; try with_reducible rfl)))
                              (try simp only [Act.put, zA4, zA5, zA6])
                             refine wpOrd_done ?_
                             clear PS HS c1 c2 hc1 hc2 hf1 hf2
                             go_wp2_with fail
                             go_roundw
                             case rel => exact ⟨t + 1, s, k, dj, by go_num, by go_num, by omega, by omega, by omega, HN, HH, HM.out.drew, HP3⟩
                             case measure => simp [intOf]; omega
                          ·have hgj : ¬ (j : Int) + 1 < (b : Int) := by omega
                           have HP3 : Hid (partialIns ltN a b s (k + 1) dj = R) := by
                            have h := HP4.out
                            rw [up_end2 hjb] at h
                            exact h
                           clear HP4
                           go_wp2_with fail
                           go_roundw
                           case rel => exact ⟨t + 1, s, k, dj, by go_num, by go_num, by omega, by omega, by omega, HN, HH, HM.out, HP3⟩
                           case measure => simp [intOf]; omega
                        ·have hgB : ¬ (2 : Int) ≤ (b : Int) - ((k : Int) + 1) := by omega
                         have HP3 : Hid (partialIns ltN a b s (k + 1) dj = R) := by
                          have h := HP.out
                          rw [if_neg h2] at h
                          exact h
                         clear HP h2
                         go_wp2_with fail
                         go_roundw
                         case rel => exact ⟨t + 1, s, k, dj, by go_num, by go_num, by omega, by omega, by omega, HN, HH, HM.out, HP3⟩
                         case measure => simp [intOf]; omega
             ·have hgA : ¬ (2 : Int) ≤ (k : Int) + 1 - (a : Int) := by omega
              have HP : Hid (partialIns ltN a b s (k + 1) (if b - (k + 1) ≥ 2 then shiftUp ltN b (k + 1 + 1) dj else dj) = R) := by
                    have h := HT4.out.symm
                    rw [if_neg h1] at h
                    exact h
              clear HT4 h1
              by_cases h2 : 2 ≤ b - (k + 1)
              ·have hgB : (2 : Int) ≤ (b : Int) - ((k : Int) + 1) := by omega
               have HP3 : Hid (partialIns ltN a b s (k + 1) (shiftUp ltN b (k + 1 + 1) dj) = R) := by
                have h := HP.out
                rw [if_pos h2] at h
                exact h
               clear HP h2
               go_wp2_with fail
               go_loopw [10] (fun jv wr => ∃ (j : Nat) (dj : Array Nat), jv = .int .i64 ((j : Int) + 1) ∧ j + 1 ≤ b ∧ Hid (dj.size = n) ∧ Hid (Holds eu wr blk off dj) ∧ Hid (Mut blk w wr) ∧ Hid (partialIns ltN a b s (k + 1) (shiftUp ltN b (j + 1) dj) = R)) (fun jv _ => b - (intOf jv).toNat)
               case atStart => exact ⟨k + 1, dj, by go_num, by omega, HN, HH, HM, HP3⟩
               case round =>
                clear HP3 HN HH HM
                obtain ⟨j, dj, rfl, hj, HN, HH, HM, HP4⟩ := hrel
                by_cases hjb : j + 1 < b
                ·have hgj : (j : Int) + 1 < (b : Int) := by omega
                 obtain ⟨x, HX, hc1, hf1⟩ := at_cell HN HH (j + 1) (by omega)
                 obtain ⟨y, HY, hc2, hf2⟩ := at_cell HN HH j (by omega)
                 obtain ⟨S, HS, c1, c2, PS⟩ := ex_cells2 hc1 hc2 HH HM
                 have hr0 : (0 : Int) ≤ (j : Int) + 1 := by omega
                 have hr1 : (j : Int) + 1 < (n : Int) := by omega
                 have hr2 : (j : Int) < (n : Int) := by omega
                 have w3 := wr_in (j : Int) (by omega) (by omega)
                 go_wp2_with fail
                 cases hl : ltN x y with
                 | true =>
                   have HP5 : Hid (partialIns ltN a b s (k + 1) (shiftUp ltN b (j + 1 + 1) (swp dj (j + 1) j)) = R) := by
                         have h := HP4.out
                         rw [up_yes2 hjb (by rw [← HX.out, ← HY.out]; exact hl)] at h
                         exact h
                   clear HP4
                   have HL := zh hl; clear hl
                   refine wp_region_ord S [(0, true), (1, true), (2, true), (3, true), (4, true), (5, true), (6, true), (7, true), (8, true), (9, false), (10, true)] (by kernel_rfl) (by kernel_rfl) rfl (by kernel_rfl) HS.out ?_
                   iterate 9
                         (refine wpOrd_step (zO rfl) ?_)
                         (first
                           | (refine wpOrd_skip (by rfl) ?_)
                           | (refine wpOrd_take (v := ?_) (by rfl) ?_ ?_; rotate_left 1; (intro wx hSx; have hc_0 := c1 wx hSx; have hc_1 := c2 wx hSx; go_simp; try with_reducible rfl)))
                         (try simp only [Act.put, zA4, zA5, zA6])
                   (refine wpOrd_solo (zO rfl) ?_)
                   intro K hK
                   go_simp
                   go_at_call 203
                   refine (less_any _ _ _).mono ?_
                   rintro e w' ⟨rfl, rfl⟩
                   refine hK.out _ _ HS.out ?_
                   clear hK K
                   (try simp only [Act.put, zA4, zA5, zA6])
                   rw [HL.out]
                   iterate 1
                         (refine wpOrd_step (zO rfl) ?_)
                         (first
                           | (refine wpOrd_skip (by rfl) ?_)
                           | (refine wpOrd_take (v := ?_) (by rfl) ?_ ?_; rotate_left 1; (intro wx hSx; go_simp; try with_reducible rfl)))
                         (try simp only [Act.put, zA4, zA5, zA6])
                   refine wpOrd_done ?_
                   obtain ⟨v3, hc3⟩ := set_some ⟨blk, off + (j + 1), none⟩ (.int .u64 (y : Int)) hc2
                   obtain ⟨HN2, HH2, HM2⟩ := swp_holds HN HH HM (j + 1) j HY HX (by omega) (by omega)
                   clear PS HS c1 c2
                   go_wp2_with fail
                   go_region
                   go_wp2_with fail
                   go_roundw
                   case rel => exact ⟨j + 1, _, by go_num, by omega, HN2, HH2, HM2.out.drew.drew, HP5⟩
                   case measure => simp [intOf]; omega
                 | false =>
                   have HP3 : Hid (partialIns ltN a b s (k + 1) dj = R) := by
                         have h := HP4.out
                         rw [up_no2 hjb (by rw [← HX.out, ← HY.out]; exact hl)] at h
                         exact h
                   clear HP4
                   have HL := zh hl; clear hl
                   refine wp_region_ord S [(0, true), (1, true), (2, true), (3, true), (4, true), (5, true), (6, true), (7, true), (8, true), (9, false), (10, true)] (by kernel_rfl) (by kernel_rfl) rfl (by kernel_rfl) HS.out ?_
                   iterate 9
                         (refine wpOrd_step (zO rfl) ?_)
                         (first
                          | (refine wpOrd_skip (by rfl) ?_)
                          | (refine wpOrd_take (v := ?_) (by rfl) ?_ ?_; rotate_left 1; (intro wx hSx; have hc_0 := c1 wx hSx; have hc_1 := c2 wx hSx; go_simp; try with_reducible rfl)))
                         (try simp only [Act.put, zA4, zA5, zA6])
                   (refine wpOrd_solo (zO rfl) ?_)
                   intro K hK
                   go_simp
                   go_at_call 203
                   refine (less_any _ _ _).mono ?_
                   rintro e w' ⟨rfl, rfl⟩
                   refine hK.out _ _ HS.out ?_
                   clear hK K
                   (try simp only [Act.put, zA4, zA5, zA6])
                   rw [HL.out]
                   iterate 1
                         (refine wpOrd_step (zO rfl) ?_)
                         (first
                          | (refine wpOrd_skip (by rfl) ?_)
                          | (refine wpOrd_take (v := ?_) (by rfl) ?_ ?_; rotate_left 1; (intro wx hSx; go_simp; try with_reducible rfl)))
                         (try simp only [Act.put, zA4, zA5, zA6])
                   refine wpOrd_done ?_
                   clear PS HS c1 c2 hc1 hc2 hf1 hf2
                   go_wp2_with fail
                   go_roundw
                   case rel => exact ⟨t + 1, s, k, dj, by go_num, by go_num, by omega, by omega, by omega, HN, HH, HM.out.drew, HP3⟩
                   case measure => simp [intOf]; omega
                ·have hgj : ¬ (j : Int) + 1 < (b : Int) := by omega
                 have HP3 : Hid (partialIns ltN a b s (k + 1) dj = R) := by
                  have h := HP4.out
                  rw [up_end2 hjb] at h
                  exact h
                 clear HP4
                 go_wp2_with fail
                 go_roundw
                 case rel => exact ⟨t + 1, s, k, dj, by go_num, by go_num, by omega, by omega, by omega, HN, HH, HM.out, HP3⟩
                 case measure => simp [intOf]; omega
              ·have hgB : ¬ (2 : Int) ≤ (b : Int) - ((k : Int) + 1) := by omega
               have HP3 : Hid (partialIns ltN a b s (k + 1) dj = R) := by
                have h := HP.out
                rw [if_neg h2] at h
                exact h
               clear HP h2
               go_wp2_with fail
               go_roundw
               case rel => exact ⟨t + 1, s, k, dj, by go_num, by go_num, by omega, by omega, by omega, HN, HH, HM.out, HP3⟩
               case measure => simp [intOf]; omega
end
section
open Go.RowKit RM
open Go.Sort hiding Below ahead
def SI (a b : Nat) (d : Array Nat) : Prop := ∀ i j, a ≤ i → i < j → j < b → d[i]! ≤ d[j]!
def Bel (a b : Nat) (d : Array Nat) : Prop := 0 < a → ∀ i, a ≤ i → i < b → d[a - 1]! ≤ d[i]!
theorem si_iff {a b : Nat} {d : Array Nat} : SortedIn ltN a b d ↔ SI a b d :=
 ⟨fun h i j h1 h2 h3 => by have := h i j h1 h2 h3; simp [ltN] at this; exact this, fun h i j h1 h2 h3 => by have := h i j h1 h2 h3; simp [ltN]; exact this⟩
theorem bel_iff {a b : Nat} {d : Array Nat} : Go.Sort.Below ltN a b d ↔ Bel a b d := by
 constructor
 ·intro h h0 i h1 h2
  rcases h with h | h
  ·omega
  ·have := h i h1 h2
   simp [ltN] at this
   exact this
 ·intro h
  by_cases h0 : a = 0
  ·exact .inl h0
  ·exact .inr fun i h1 h2 => by have := h (by omega) i h1 h2; simp [ltN]; exact this
theorem lt_f {x y : Nat} : ltN x y = false ↔ y ≤ x := by simp [ltN]
theorem lt_t {x y : Nat} : ltN x y = true ↔ x < y := by simp [ltN]
structure Co (a b : Nat) (d : Array Nat) (a' b' : Nat) (d' : Array Nat) : Prop where
 ra : a ≤ a'
 rb : a' ≤ b'
 rc : b' ≤ b
 size : d'.size = d.size
 bel : Bel a' b' d'
 fin : ∀ f, PermIn a' b' d' f → SI a' b' f → PermIn a b d f ∧ SI a b f
section
variable {a b a' b' : Nat} {d d1 d2 : Array Nat}
theorem Co.refl (h : Bel a b d) (hab : a ≤ b) : Co a b d a b d := ⟨zL _, hab, zL _, rfl, h, fun _ h1 h2 => ⟨h1, h2⟩⟩
theorem bel_perm (h : Bel a b d) (hp : PermIn a b d d1) (hb : b ≤ d.size) : Bel a b d1 := by
 intro h0 i h1 h2
 rw [hp.2.1 (a - 1) (.inl (by omega))]
 exact permIn_all d d1 a b (fun x => d[a - 1]! ≤ x) hb hp (fun i h1 h2 => h h0 i h1 h2) i h1 h2
theorem Co.perm (h : Co a b d a' b' d1) (hp : PermIn a' b' d1 d2) (hb : b ≤ d.size) : Co a b d a' b' d2 := by
 have hb' : b' ≤ d1.size := by rw [h.size]; exact zM h.rc hb
 exact ⟨h.ra, h.rb, h.rc, hp.1.trans h.size, bel_perm h.bel hp hb', fun f h1 h2 => h.fin f (permIn_trans _ _ _ _ _ hp h1) h2⟩
theorem Co.eq (h : Co a b d a' b' d1) (hb : b ≤ d.size) (p : Nat) (h1 : a' ≤ p) (h2 : p < b') (h0 : 0 < a') (hle : d1[p]! ≤ d1[a' - 1]!) :
 a' < (partitionEqual ltN d1 a' b' p).1 ∧ (partitionEqual ltN d1 a' b' p).1 ≤ b' ∧ Co a b d (partitionEqual ltN d1 a' b' p).1 b' (partitionEqual ltN d1 a' b' p).2 := by
 have hb' : b' ≤ d1.size := by rw [h.size]; exact zM h.rc hb
 have hall : ∀ i, a' ≤ i → i < b' → d1[p]! ≤ d1[i]! := fun i h3 h4 => zM hle (h.bel h0 i h3 h4)
 obtain ⟨q1, q2, q3, q4, q5⟩ := partitionEqual_holds ltN swo_ltN d1 a' b' p h1 h2 hb' (fun i h3 h4 => lt_f.2 (hall i h3 h4))
 generalize (partitionEqual ltN d1 a' b' p).1 = m at *
 generalize (partitionEqual ltN d1 a' b' p).2 = e at *
 have hge := permIn_all d1 e a' b' (fun x => d1[p]! ≤ x) hb' q3 hall
 have hes : e.size = d1.size := q3.1
 refine ⟨q1, q2, by have := h.ra; omega, q2, h.rc, hes.trans h.size, ?_, ?_⟩
 ·intro _ i h3 h4
  have h5 := lt_f.1 (q4 (m - 1) (by omega) (by omega))
  have h6 := lt_t.1 (q5 i h3 h4)
  omega
 ·intro f hf hs
  refine h.fin f (permIn_trans _ _ _ _ _ q3 (permIn_mono _ _ _ _ _ _ (Nat.le_of_lt q1) (zL _) (by omega) hf)) ?_
  have hgt := permIn_all e f m b' (fun x => d1[p]! < x) (by omega) hf (fun i h3 h4 => lt_t.1 (q5 i h3 h4))
  intro i j h3 h4 h5
  by_cases hjm : j < m
  ·rw [hf.2.1 i (.inl (by omega)), hf.2.1 j (.inl hjm)]
   have h6 := lt_f.1 (q4 i h3 (by omega))
   have h7 := hge j (by omega) (by omega)
   omega
  ·by_cases him : i < m
   ·rw [hf.2.1 i (.inl him)]
    have h6 := lt_f.1 (q4 i h3 him)
    have h7 := hgt j (by omega) h5
    omega
   ·exact hs i j (by omega) h4 h5
theorem Co.part (h : Co a b d a' b' d1) (hb : b ≤ d.size) (p : Nat) (h1 : a' ≤ p) (h2 : p < b') :
 a' ≤ (partition ltN d1 a' b' p).1 ∧ (partition ltN d1 a' b' p).1 < b' ∧ (partition ltN d1 a' b' p).2.2.size = d.size ∧
 Bel a' (partition ltN d1 a' b' p).1 (partition ltN d1 a' b' p).2.2 ∧
 (∀ d5, PermIn a' (partition ltN d1 a' b' p).1 (partition ltN d1 a' b' p).2.2 d5 → SI a' (partition ltN d1 a' b' p).1 d5 → Co a b d ((partition ltN d1 a' b' p).1 + 1) b' d5) ∧
 Bel ((partition ltN d1 a' b' p).1 + 1) b' (partition ltN d1 a' b' p).2.2 ∧
 (∀ d5, PermIn ((partition ltN d1 a' b' p).1 + 1) b' (partition ltN d1 a' b' p).2.2 d5 → SI ((partition ltN d1 a' b' p).1 + 1) b' d5 → Co a b d a' (partition ltN d1 a' b' p).1 d5) := by
 have hb' : b' ≤ d1.size := by rw [h.size]; exact zM h.rc hb
 obtain ⟨q1, q2, q3, q4, q5⟩ := partition_holds ltN swo_ltN d1 a' b' p h1 h2 hb'
 generalize (partition ltN d1 a' b' p).1 = m at *
 generalize (partition ltN d1 a' b' p).2.2 = e at *
 have hes : e.size = d1.size := q3.1
 have hbe : Bel a' b' e := bel_perm h.bel q3 hb'
 have q4' : ∀ i, a' ≤ i → i < m → e[i]! < e[m]! := fun i h3 h4 => lt_t.1 (q4 i h3 h4)
 have q5' : ∀ i, m + 1 ≤ i → i < b' → e[m]! ≤ e[i]! := fun i h3 h4 => lt_f.1 (q5 i h3 h4)
 have hra := h.ra
 have hrc := h.rc
 refine ⟨q1, q2, hes.trans h.size, fun h0 i h3 h4 => hbe h0 i h3 (by omega), ?_, fun _ i h3 h4 => ?_, ?_⟩
 ·intro d5 hp hs
  have hl := permIn_all e d5 a' m (fun x => x < e[m]!) (by omega) hp q4'
  have h5s : d5.size = e.size := hp.1
  refine ⟨by omega, by omega, hrc, h5s.trans (hes.trans h.size), fun _ i h3 h4 => ?_, ?_⟩
  ·rw [Nat.add_sub_cancel, hp.2.1 i (.inr (by omega)), hp.2.1 m (.inr (zL _))]
   exact q5' i h3 h4
  ·intro f hf hs2
   have hr := permIn_all d5 f (m + 1) b' (fun x => e[m]! ≤ x) (by omega) hf (fun i h3 h4 => by rw [hp.2.1 i (.inr (by omega))]; exact q5' i h3 h4)
   have hfm : f[m]! = e[m]! := by rw [hf.2.1 m (.inl (by omega)), hp.2.1 m (.inr (zL _))]
   refine h.fin f (permIn_trans _ _ _ _ _ (permIn_trans _ _ _ _ _ q3 (permIn_mono _ _ _ _ _ _ (zL _) (Nat.le_of_lt q2) (by omega) hp)) (permIn_mono _ _ _ _ _ _ (by omega) (zL _) (by omega) hf)) ?_
   intro i j h3 h4 h5
   by_cases him : m < i
   ·exact hs2 i j him h4 h5
   ·by_cases hie : i = m
    ·subst hie
     rw [hfm]
     exact hr j (by omega) h5
    ·have hil : f[i]! < e[m]! := by rw [hf.2.1 i (.inl (by omega))]; exact hl i h3 (by omega)
     by_cases hjm : j < m
     ·rw [hf.2.1 i (.inl (by omega)), hf.2.1 j (.inl (by omega))]
      exact hs i j h3 h4 hjm
     ·by_cases hje : j = m
      ·subst hje
       rw [hfm]; omega
      ·have := hr j (by omega) h5
       omega
 ·rw [Nat.add_sub_cancel]
  exact q5' i h3 h4
 ·intro d5 hp hs
  have hr := permIn_all e d5 (m + 1) b' (fun x => e[m]! ≤ x) (by omega) hp q5'
  have h5s : d5.size = e.size := hp.1
  refine ⟨hra, q1, by omega, h5s.trans (hes.trans h.size), fun h0 i h3 h4 => ?_, ?_⟩
  ·rw [hp.2.1 i (.inl (by omega)), hp.2.1 (a' - 1) (.inl (by omega))]
   exact hbe h0 i h3 (by omega)
  ·intro f hf hs2
   have hl := permIn_all d5 f a' m (fun x => x < e[m]!) (by omega) hf (fun i h3 h4 => by rw [hp.2.1 i (.inl (by omega))]; exact q4' i h3 h4)
   have hfm : f[m]! = e[m]! := by rw [hf.2.1 m (.inr (zL _)), hp.2.1 m (.inl (by omega))]
   refine h.fin f (permIn_trans _ _ _ _ _ (permIn_trans _ _ _ _ _ q3 (permIn_mono _ _ _ _ _ _ (by omega) (zL _) (by omega) hp)) (permIn_mono _ _ _ _ _ _ (zL _) (Nat.le_of_lt q2) (by omega) hf)) ?_
   intro i j h3 h4 h5
   by_cases him : m < i
   ·rw [hf.2.1 i (.inr (by omega)), hf.2.1 j (.inr (by omega))]
    exact hs i j him h4 h5
   ·have hjr : m < j → e[m]! ≤ f[j]! := fun hmj => by rw [hf.2.1 j (.inr (by omega))]; exact hr j hmj h5
    by_cases hie : i = m
    ·subst hie
     rw [hfm]
     exact hjr h4
    ·have hil := hl i h3 (by omega)
     by_cases hjm : j < m
     ·exact hs2 i j h3 h4 hjm
     ·by_cases hje : j = m
      ·subst hje
       rw [hfm]; omega
      ·have := hjr (by omega)
       omega
end
end
section
open Go.RowKit RM
open Go.Sort hiding Below ahead
def PdqAt (m : Nat) : Prop := ∀ (blk off cap n a b l : Nat) (d : Array Nat) (w : World), n ≤ 64 → a ≤ b → b ≤ n → b - a ≤ m → l ≤ 64 → Hid (d.size = n) → Hid (Holds eu w blk off d) → Hid (Bel a b d) →
 Calls Tryz.prog 195 #[.slice (some ⟨blk, off, none⟩) n cap, .int .i64 (a : Int), .int .i64 (b : Int), .int .i64 (l : Int)] w fun e w' => e = .returned (.tuple #[]) ∧ ∃ d', PermIn a b d d' ∧ SI a b d' ∧ Holds eu w' blk off d' ∧ Mut blk w w'
section
variable {blk off n a b p : Nat} {d : Array Nat} {w : World}
theorem insertion_n (cap : Nat) (HN : Hid (d.size = n)) (HH : Hid (Holds eu w blk off d)) (hab : a ≤ b) (hb : b ≤ n) (hn : n ≤ 64) :
 Calls Tryz.prog 197 #[.slice (some ⟨blk, off, none⟩) n cap, .int .i64 (a : Int), .int .i64 (b : Int)] w fun e w' => e = .returned (.tuple #[]) ∧ ∃ d', PermIn a b d d' ∧ SI a b d' ∧ Holds eu w' blk off d' ∧ Mut blk w w' := by
 obtain rfl := HN.out
 refine (insertion_any blk off cap a b d w HH.out hab hb hn).mono ?_
 rintro e w' ⟨rfl, h1, h2⟩
 obtain ⟨h3, h4⟩ := insertionSort_holds (lt := ltN) swo_ltN d a b hab hb
 exact ⟨rfl, _, h3, si_iff.1 h4, h1, h2⟩
theorem heap_n (cap : Nat) (HN : Hid (d.size = n)) (HH : Hid (Holds eu w blk off d)) (hab : a < b) (hb : b ≤ n) (hn : n ≤ 64) :
 Calls Tryz.prog 198 #[.slice (some ⟨blk, off, none⟩) n cap, .int .i64 (a : Int), .int .i64 (b : Int)] w fun e w' => e = .returned (.tuple #[]) ∧ ∃ d', PermIn a b d d' ∧ SI a b d' ∧ Holds eu w' blk off d' ∧ Mut blk w w' := by
 obtain rfl := HN.out
 refine (heap_any blk off cap a b d w HH.out hab hb hn).mono ?_
 rintro e w' ⟨rfl, h1, h2⟩
 obtain ⟨h3, h4⟩ := heapSort_holds (lt := ltN) swo_ltN d a b (Nat.le_of_lt hab) hb
 exact ⟨rfl, _, h3, si_iff.1 h4, h1, h2⟩
theorem reverse_n (cap : Nat) (HN : Hid (d.size = n)) (HH : Hid (Holds eu w blk off d)) (hab : a < b) (hb : b ≤ n) (hn : n ≤ 64) :
 Calls Tryz.prog 201 #[.slice (some ⟨blk, off, none⟩) n cap, .int .i64 (a : Int), .int .i64 (b : Int)] w fun e w' => e = .returned (.tuple #[]) ∧ ∃ d', PermIn a b d d' ∧ Holds eu w' blk off d' ∧ Mut blk w w' := by
 obtain rfl := HN.out
 refine (reverse_any blk off cap a b d w HH.out hab hb hn).mono ?_
 rintro e w' ⟨rfl, h1, h2⟩
 exact ⟨rfl, _, reverseRange_holds d a b (Nat.le_of_lt hab) hb, h1, h2⟩
theorem partial_n (cap : Nat) (HN : Hid (d.size = n)) (HH : Hid (Holds eu w blk off d)) (HB : Hid (Bel a b d)) (hab : a < b) (hb : b ≤ n) (hn : n ≤ 64) :
 Calls Tryz.prog 202 #[.slice (some ⟨blk, off, none⟩) n cap, .int .i64 (a : Int), .int .i64 (b : Int)] w fun e w' => ∃ (t : Bool) (d' : Array Nat), e = .returned (.bool t) ∧ PermIn a b d d' ∧ (t = true → SI a b d') ∧ Holds eu w' blk off d' ∧ Mut blk w w' := by
 refine (partial_any blk off n cap a b d w HN HH hab hb hn).mono ?_
 rintro e w' ⟨rfl, h1, h2⟩
 obtain ⟨h3, h4⟩ := partialInsertionSort_holds (lt := ltN) swo_ltN d a b hab (by rw [HN.out]; exact hb) (bel_iff.2 HB.out)
 exact ⟨_, _, rfl, h3, fun h => si_iff.1 (h4 h), h1, h2⟩
theorem parteq_n (cap : Nat) (HN : Hid (d.size = n)) (HH : Hid (Holds eu w blk off d)) (hp : a ≤ p) (hpb : p < b) (hb : b ≤ n) (hn : n ≤ 64) :
 Calls Tryz.prog 204 #[.slice (some ⟨blk, off, none⟩) n cap, .int .i64 (a : Int), .int .i64 (b : Int), .int .i64 (p : Int)] w fun e w' =>
  e = .returned (.int .i64 ((partitionEqual ltN d a b p).1 : Int)) ∧ Holds eu w' blk off (partitionEqual ltN d a b p).2 ∧ Mut blk w w' := by
 obtain ⟨c, rfl⟩ : ∃ c, b = c + 1 := ⟨b - 1, by omega⟩
 exact parteq_any blk off n cap a c p d w HN HH (by omega) (by omega) hn (by omega)
theorem part_n (cap : Nat) (HN : Hid (d.size = n)) (HH : Hid (Holds eu w blk off d)) (hp : a ≤ p) (hpb : p < b) (hb : b ≤ n) (hn : n ≤ 64) :
 Calls Tryz.prog 205 #[.slice (some ⟨blk, off, none⟩) n cap, .int .i64 (a : Int), .int .i64 (b : Int), .int .i64 (p : Int)] w fun e w' =>
  e = .returned (.tuple #[.int .i64 ((partition ltN d a b p).1 : Int), .bool (partition ltN d a b p).2.1]) ∧ Holds eu w' blk off (partition ltN d a b p).2.2 ∧ Mut blk w w' := by
 obtain ⟨c, rfl⟩ : ∃ c, b = c + 1 := ⟨b - 1, by omega⟩
 exact part_any blk off n cap a c p d w HN HH (by omega) (by omega) hn (by omega)
end
theorem pdq_step (m : Nat) (ih : ∀ k, k < m → PdqAt k) : PdqAt m := by
 intro blk off cap n a b l d w hn hab hb hm hl HN HH HB
 have IH := zh ih; clear ih
 have HC0 : Hid (Co a b d a b d) := Co.refl HB.out hab
 have HND := HN
 have hbd : Hid (b ≤ d.size) := by show b ≤ d.size; rw [HN.out]; exact hb
 clear HB
 go_enter Tryz.func195, Tryz.ntmps195
 go_wp2_with fail
 go_loopw [1, 2, 3, 8, 9, 10, 11, 12, 13, 14, 15, 16, 17, 18] (fun av bv lv ubv upv _ _ _ _ _ _ _ _ _ wr => ∃ (a' b' l' : Nat) (wb wp : Bool) (dk : Array Nat), av = .int .i64 a' ∧ bv = .int .i64 b' ∧ lv = .int .i64 l' ∧ ubv = .bool wb ∧ upv = .bool wp ∧ l' ≤ 64 ∧ Hid (Co a b d a' b' dk) ∧ Hid (Holds eu wr blk off dk) ∧ Hid (Mut blk w wr)) (fun av bv _ _ _ _ _ _ _ _ _ _ _ _ _ => (intOf bv).toNat - (intOf av).toNat)
 case atStart => exact ⟨a, b, l, true, true, d, rfl, rfl, rfl, rfl, rfl, hl, HC0, HH, Mut.refl _ _⟩
 case round =>
  clear HC0 HH HN hl
  obtain ⟨a', b', l', wb, wp, dk, rfl, rfl, rfl, rfl, rfl, hl', HC, HH, HM⟩ := hrel
  have ha1 : a ≤ a' := HC.out.ra
  have ha2 : a' ≤ b' := HC.out.rb
  have hb1 : b' ≤ b := HC.out.rc
  have HN : Hid (dk.size = n) := HC.out.size.trans HND.out
  obtain ⟨len, hlen⟩ : ∃ len, len = b' - a' := ⟨_, rfl⟩
  have e1 : (b' : Int) - (a' : Int) = (len : Int) := by omega
  have hlm : len ≤ m := by omega
  have hln : len ≤ n := by omega
  have HLN : Hid (a' + len = b') := by show a' + len = b'; omega
  clear hlen
  by_cases h12 : len ≤ 12
  ·have hg : (len : Int) ≤ 12 := by omega
   go_wp2_with fail
   refine (insertion_n cap HN HH ha2 (by omega) hn).mono ?_
   rintro e w1 ⟨rfl, d', h3, h4, h5, h6⟩
   have HX := zh (HC.out.fin d' h3 h4)
   have HY := zh (And.intro h5 (HM.out.trans h6))
   clear h3 h4 h5 h6
   go_wp2_with fail
   exact bodyPost_ret (results_none rfl _ _ _) rfl ⟨rfl, d', HX.out.1, HX.out.2, HY.out.1, HY.out.2⟩
  ·have hg : ¬ (len : Int) ≤ 12 := by omega
   have hab' : a' + 12 < b' := by have := HLN.out; omega
   by_cases hl0 : l' = 0
   ·have hgl : (l' : Int) = 0 := by omega
    go_wp2_with fail
    refine (heap_n cap HN HH (by omega) (by omega) hn).mono ?_
    rintro e w1 ⟨rfl, d', h3, h4, h5, h6⟩
    have HX := zh (HC.out.fin d' h3 h4)
    have HY := zh (And.intro h5 (HM.out.trans h6))
    clear h3 h4 h5 h6
    go_wp2_with fail
    exact bodyPost_ret (results_none rfl _ _ _) rfl ⟨rfl, d', HX.out.1, HX.out.2, HY.out.1, HY.out.2⟩
   ·have hgl : ¬ (l' : Int) = 0 := by omega
    go_upto_if 35 with fail
    go_cut [3] from 19 to 133 (fun lv wx => ∃ (l2 : Nat) (d1 : Array Nat), lv = .int .i64 l2 ∧ l2 ≤ 64 ∧ Hid (Co a b d a' b' d1) ∧ Hid (Holds eu wx blk off d1) ∧ Hid (Mut blk w wx))
    case first =>
     cases wb with
     | true =>
       go_wp2_with fail
       go_meet
       case rel => exact ⟨l', dk, rfl, hl', HC, HH, HM⟩
     | false =>
       go_wp2_with fail
       refine (break_any blk off n cap a' b' dk wr HN HH hab' (by omega) hn).mono ?_
       rintro e w1 ⟨rfl, d1, h3, h4, h5⟩
       have HC1 := zh (HC.out.perm h3 hbd.out)
       have HH1 := zh h4
       have HM1 := zh (HM.out.trans h5)
       clear h3 h4 h5
       have w1 := wr_in ((l' : Int) - 1) (by omega) (by omega)
       go_wp2_with fail
       go_meet
       case rel => exact ⟨l' - 1, d1, by go_num, by omega, HC1, HH1, HM1⟩
    case rest =>
     obtain ⟨l2, d1, rfl, hl2, HC1, HH1, HM1⟩ := hcut
     clear HC HH HM HN hgl hl0 hl'
     rename World => W1
     have HN1 : Hid (d1.size = n) := HC1.out.size.trans HND.out
     go_wp2_with fail
     refine (pivot_any blk off n cap a' b' d1 _ HN1 HH1 hab' (by omega) hn).mono ?_
     rintro e W2 ⟨x, h, rfl, hx1, hx2, hh, hbel⟩
     have HH2 := zh (holds_mut HH1.out (Mut.of_below hbel (blk + 1)) (by omega))
     have HM2 := zh (HM1.out.trans (Mut.of_below hbel blk))
     clear HH1 HM1 hbel
     go_upto_if 50 with fail
     go_cut [11, 12] from 19 to 133 (fun pv hv wx => ∃ (p h2 : Nat) (d2 : Array Nat), pv = .int .i64 p ∧ hv = .int .i64 h2 ∧ a' ≤ p ∧ p < b' ∧ Hid (Co a b d a' b' d2) ∧ Hid (Holds eu wx blk off d2) ∧ Hid (Mut blk w wx))
     case first =>
      by_cases hh2 : h = 2
      ·have hgh : (h : Int) = 2 := by omega
       have hgb : ((h : Int) == 2) = true := by simp [hgh]
       obtain ⟨p2, hp2⟩ : ∃ p2, p2 = b' - 1 - (x - a') := ⟨_, rfl⟩
       have e7 : (b' : Int) - 1 - ((x : Int) - (a' : Int)) = (p2 : Int) := by omega
       have hp3 : a' ≤ p2 := by omega
       have hp4 : p2 < b' := by omega
       clear hp2 hh2
       go_wp2_with fail
       refine (reverse_n cap HN1 HH2 (by omega) (by omega) hn).mono ?_
       rintro e w1 ⟨rfl, d2, h3, h4, h5⟩
       have HC2 := zh (HC1.out.perm h3 hbd.out)
       have HH3 := zh h4
       have HM3 := zh (HM2.out.trans h5)
       clear h3 h4 h5
       have w1 := wr_in ((b' : Int) - 1) (by omega) (by omega)
       have w2 := wr_in ((x : Int) - (a' : Int)) (by omega) (by omega)
       have w3 := wr_in ((b' : Int) - 1 - ((x : Int) - (a' : Int))) (by omega) (by omega)
       go_wp2_with fail
       go_meet
       case rel => exact ⟨p2, 1, d2, by go_num, rfl, hp3, hp4, HC2, HH3, HM3⟩
      ·have hgh : ¬ (h : Int) = 2 := by omega
       have hgb : ((h : Int) == 2) = false := by simp [hgh]
       go_wp2_with fail
       go_meet
       case rel => exact ⟨x, h, d1, rfl, rfl, hx1, hx2, HC1, HH2, HM2⟩
     case rest =>
      obtain ⟨p, h2, d2, rfl, rfl, hp1, hp2, HC2, HH3, HM3⟩ := hcut
      clear HC1 HH2 HM2 HN1 hx1 hx2 hh
      rename World => W3
      have HN2 : Hid (d2.size = n) := HC2.out.size.trans HND.out
      go_upto_region 15 with fail
      go_cut [68] from 19 to 133 (fun bv wx => ∃ t : Bool, bv = .bool t ∧ wx = W3)
      case first =>
           have hq : (h2 : Int) = 1 ∨ ¬ (h2 : Int) = 1 := by omega
           rcases hq with hq | hq
           ·cases wb <;> cases wp <;> (go_wp2_with fail; go_meet; case rel => exact ⟨_, rfl, rfl⟩)
           ·cases wb <;> cases wp <;> (go_wp2_with fail; go_meet; case rel => exact ⟨_, rfl, rfl⟩)
      case rest =>
           obtain ⟨t, rfl, rfl⟩ := hcut
           go_upto_if 68 with fail
           go_cut [9] from 19 to 133 (fun uv wx => uv = .bool wp ∧ ∃ d3 : Array Nat, Hid (Co a b d a' b' d3) ∧ Hid (Holds eu wx blk off d3) ∧ Hid (Mut blk w wx))
           case first =>
             cases t with
             | true =>
               go_wp2_with fail
               refine (partial_n cap HN2 HH3 (zh HC2.out.bel) (by omega) (by omega) hn).mono ?_
               rintro e w1 ⟨t2, d3, rfl, h3, h4, h5, h6⟩
               have HF := zh (fun h : t2 = true => HC2.out.fin d3 h3 (h4 h))
               have HC3 := zh (HC2.out.perm h3 hbd.out)
               have HH4 := zh h5
               have HM4 := zh (HM3.out.trans h6)
               clear h3 h4 h5 h6
               cases t2 with
               | true =>
                 have HX := zh (HF.out rfl); clear HF
                 go_wp2_with fail
                 exact bodyPost_ret (results_none rfl _ _ _) rfl ⟨rfl, d3, HX.out.1, HX.out.2, HH4.out, HM4.out⟩
               | false =>
                 clear HF
                 go_wp2_with fail
                 go_meet
                 case rel => exact ⟨rfl, d3, HC3, HH4, HM4⟩
             | false =>
               go_wp2_with fail
               go_meet
               case rel => exact ⟨rfl, d2, HC2, HH3, HM3⟩
           case rest =>
             obtain ⟨rfl, d3, HC3, HH3, HM3⟩ := hcut
             clear HC2 HN2
             rename World => W3
             have HN3 : Hid (d3.size = n) := HC3.out.size.trans HND.out
             go_upto_region 17 with fail
             go_cut [87] from 19 to 133 (fun bv wx => ∃ t : Bool, bv = .bool t ∧ (t = true → 0 < a' ∧ d3[p]! ≤ d3[a' - 1]!) ∧ wx = W3.drew)
             case first =>
              by_cases h0 : 0 < a'
              ·obtain ⟨k, hk⟩ : ∃ k, k = a' - 1 := ⟨_, rfl⟩
               obtain ⟨x, HX, hc1, hf1⟩ := at_cell HN3 HH3 k (by omega)
               obtain ⟨y, HY, hc2, hf2⟩ := at_cell HN3 HH3 p (by omega)
               obtain ⟨S, HS, c1, c2, PS⟩ := ex_cells2 hc1 hc2 HH3 HM3
               have hg0 : (0 : Int) < (a' : Int) := by omega
               have e6 : (a' : Int) - 1 = (k : Int) := by omega
               have w3 := wr_in (k : Int) (by omega) (by omega)
               have hr1 : (k : Int) < (n : Int) := by omega
               have hr2 : (p : Int) < (n : Int) := by omega
               have hl : ∃ t, ltN x y = t := ⟨_, rfl⟩
               obtain ⟨t, hl⟩ := hl
               have HL := zh hl; clear hl
               have HK := zh hk; clear hk
               have H0 : Hid (0 < a') := h0
               refine wp_region_ord S [(0, true), (1, true), (2, true), (3, true), (4, true), (5, true), (6, true), (7, true), (8, true), (9, true), (10, true), (11, true), (12, false), (13, true), (14, true)] (by kernel_rfl) (by kernel_rfl) rfl (by kernel_rfl) HS.out ?_
               iterate 12
                (refine wpOrd_step (zO rfl) ?_)
                (first
                 | (refine wpOrd_skip (by rfl) ?_)
                 | (refine wpOrd_take (v := ?_) (by rfl) ?_ ?_; rotate_left 1; (intro wx hSx; have hc_0 := c1 wx hSx; have hc_1 := c2 wx hSx; go_simp; try with_reducible rfl)))
                (try simp only [Act.put, zA4, zA5, zA6])
               (refine wpOrd_solo (zO rfl) ?_)
               intro K hK
               go_simp
               go_at_call 203
               refine (less_any _ _ _).mono ?_
               rintro e w' ⟨rfl, rfl⟩
               refine hK.out _ _ HS.out ?_
               clear hK K
               (try simp only [Act.put, zA4, zA5, zA6])
               rw [HL.out]
               iterate 2
                (refine wpOrd_step (zO rfl) ?_)
                (first
                 | (refine wpOrd_skip (by rfl) ?_)
                 | (refine wpOrd_take (v := ?_) (by rfl) ?_ ?_; rotate_left 1; (intro wx hSx; go_simp; try with_reducible rfl)))
                (try simp only [Act.put, zA4, zA5, zA6])
               refine wpOrd_done ?_
               clear PS HS c1 c2 hc1 hc2 hf1 hf2
               go_wp2_with fail
               go_meet
               case rel =>
                refine ⟨!t, by simp, fun h => ⟨H0.out, ?_⟩, rfl⟩
                have ht : t = false := by simpa using h
                have h7 := HL.out
                rw [ht, HX.out, HY.out, HK.out] at h7
                exact lt_f.1 h7
              ·have hg0 : ¬ (0 : Int) < (a' : Int) := by omega
               obtain ⟨S, HS, PS⟩ : ∃ S : World → Prop, Hid (S W3.drew) ∧ Hid (∀ w', S w' → w' = W3.drew) := ⟨fun w' => w' = W3.drew, rfl, fun _ h => h⟩
               refine wp_region_ord S [(0, true), (1, true), (2, true), (3, true), (4, true), (5, true), (6, true), (7, true), (8, true), (9, true), (10, true), (11, true), (12, false), (13, true), (14, true)] (by kernel_rfl) (by kernel_rfl) rfl (by kernel_rfl) HS.out ?_
               iterate 12
                (refine wpOrd_step (zO rfl) ?_)
                (first
                 | (refine wpOrd_skip (by rfl) ?_)
                 | (refine wpOrd_take (v := ?_) (by rfl) ?_ ?_; rotate_left 1; (intro wx hSx; go_simp; try with_reducible rfl)))
                (try simp only [Act.put, zA4, zA5, zA6])
               (refine wpOrd_solo (zO rfl) ?_)
               intro K hK
               go_simp
               refine hK.out _ _ HS.out ?_
               clear hK K
               (try simp only [Act.put, zA4, zA5, zA6])
               iterate 2
                (refine wpOrd_step (zO rfl) ?_)
                (first
                 | (refine wpOrd_skip (by rfl) ?_)
                 | (refine wpOrd_take (v := ?_) (by rfl) ?_ ?_; rotate_left 1; (intro wx hSx; go_simp; try with_reducible rfl)))
                (try simp only [Act.put, zA4, zA5, zA6])
               refine wpOrd_done ?_
               clear PS HS
               go_wp2_with fail
               go_meet
               case rel => exact ⟨false, rfl, (fun h => absurd h (by decide)), rfl⟩
             case rest =>
              obtain ⟨t, rfl, ht, rfl⟩ := hcut
              have HH4 : Hid (Holds eu W3.drew blk off d3) := HH3
              have HM4 := zh HM3.out.drew
              generalize W3.drew = W4 at HH4 HM4 ⊢
              clear HH3 HM3
              cases t with
              | true =>
                have HE := zh (HC3.out.eq hbd.out p hp1 hp2 (ht rfl).1 (ht rfl).2)
                have hq := parteq_n cap HN3 HH4 hp1 hp2 (zM hb1 hb) hn
                have HQ := zh hq; clear hq ht
                generalize (partitionEqual ltN d3 a' b' p).1 = mid at *
                generalize (partitionEqual ltN d3 a' b' p).2 = d4 at *
                have hm1 : a' < mid := HE.out.1
                have hm2 : mid ≤ b' := HE.out.2.1
                have HC4 := zh HE.out.2.2; clear HE
                go_wp2_with fail
                refine HQ.out.mono ?_
                rintro e w1 ⟨rfl, h3, h4⟩
                have HH5 := zh h3
                have HM5 := zh (HM4.out.trans h4)
                clear h3 h4 HQ
                go_wp2_with fail
                go_roundw
                case rel => exact ⟨mid, b', l2, wb, wp, d4, rfl, rfl, rfl, rfl, rfl, hl2, HC4, HH5, HM5⟩
                case measure => simp [intOf]; omega
              | false =>
                have HE := zh (HC3.out.part hbd.out p hp1 hp2)
                have hq := part_n cap HN3 HH4 hp1 hp2 (zM hb1 hb) hn
                have HQ := zh hq; clear hq ht
                generalize (partition ltN d3 a' b' p).1 = mid at *
                generalize (partition ltN d3 a' b' p).2.2 = d4 at *
                generalize (partition ltN d3 a' b' p).2.1 = t9 at *
                obtain ⟨hm1, hm2, hs4, hB1, hC1, hB2, hC2⟩ := HE.out
                have HN4 : Hid (d4.size = n) := hs4.trans HND.out
                have HB1 := zh hB1
                have HB2 := zh hB2
                have HC1 := zh hC1
                have HC2 := zh hC2
                clear HE hs4 hB1 hB2 hC1 hC2
                obtain ⟨ll, hll⟩ : ∃ ll, ll = mid - a' := ⟨_, rfl⟩
                obtain ⟨rl, hrl⟩ : ∃ rl, rl = b' - mid := ⟨_, rfl⟩
                have e7 : (mid : Int) - (a' : Int) = (ll : Int) := by omega
                have e8 : (b' : Int) - (mid : Int) = (rl : Int) := by omega
                have hll2 : ll ≤ n := by omega
                have hrl2 : rl ≤ n := by omega
                have w1 := wr_in ((mid : Int) + 1) (by omega) (by omega)
                go_wp2_with fail
                refine HQ.out.mono ?_
                rintro e w1 ⟨rfl, h3, h4⟩
                have HH5 := zh h3
                have HM5 := zh (HM4.out.trans h4)
                clear h3 h4 HQ HH4 HM4
                by_cases hlr : ll < rl
                ·have hgl : (ll : Int) < (rl : Int) := by omega
                 have hic := IH.out (mid - a') (by omega) blk off cap n a' mid l2 d4 w1 hn hm1 (by omega) (zL _) hl2 HN4 HH5 HB1
                 have HIC := zh hic; clear hic
                 clear hll hrl
                 go_wp2_with fail
                 refine HIC.out.mono ?_
                 rintro e w2 ⟨rfl, d5, h3, h4, h5, h6⟩
                 have HC5 := zh (HC1.out d5 h3 h4)
                 have HH6 := zh h5
                 have HM6 := zh (HM5.out.trans h6)
                 clear h3 h4 h5 h6 HIC
                 go_wp2_with fail
                 go_roundw
                 case rel => exact ⟨mid + 1, b', l2, _, t9, d5, by go_num, rfl, rfl, rfl, rfl, hl2, HC5, HH6, HM6⟩
                 case measure => simp [intOf]; omega
                ·have hgl : ¬ (ll : Int) < (rl : Int) := by omega
                 have hic := IH.out (b' - (mid + 1)) (by omega) blk off cap n (mid + 1) b' l2 d4 w1 hn (by omega) (by omega) (zL _) hl2 HN4 HH5 HB2
                 rw [show ((mid + 1 : Nat) : Int) = (mid : Int) + 1 from rfl] at hic
                 have HIC := zh hic; clear hic
                 clear hll hrl
                 go_wp2_with fail
                 refine HIC.out.mono ?_
                 rintro e w2 ⟨rfl, d5, h3, h4, h5, h6⟩
                 have HC5 := zh (HC2.out d5 h3 h4)
                 have HH6 := zh h5
                 have HM6 := zh (HM5.out.trans h6)
                 clear h3 h4 h5 h6 HIC
                 go_wp2_with fail
                 go_roundw
                 case rel => exact ⟨a', mid, l2, _, t9, d5, rfl, rfl, rfl, rfl, rfl, hl2, HC5, HH6, HM6⟩
                 case measure => simp [intOf]; omega
theorem pdq_all (m : Nat) : PdqAt m := Nat.strongRecOn m pdq_step
theorem pdq_64 : PdqTo 64 := by
 intro blk off cap l d w hk hl hH
 refine (pdq_all d.size blk off cap d.size 0 d.size l d w hk (Nat.zero_le _) (zL _) (Nat.sub_le _ _) hl rfl hH (fun h => absurd h (by omega))).mono ?_
 rintro e w' ⟨rfl, d', h1, h2, h3, h4⟩
 exact ⟨rfl, d', h1, si_iff.2 h2, h3, h4⟩
theorem sort_64 : SortTo 64 := sort_of_pdq 64 (zL _) pdq_64
end
end Go.Proofs.YtnfndapgcpdcpaaGreatDoor
