/-
  The document's Right, All, Same, Like and whether a list is big. Conditions: strings below 2^32 bytes.
-/
import Derived.Test.YtfhmdambdkmmgaaLexKit
namespace Go.Proofs.Ytfhmdambdkmmgaa
open Go.RowKit LX

set_option maxHeartbeats 400000 in
theorem refRight8_word (s : ByteArray) (p : Int) (w : World) :
    Calls Try.prog 13 #[.agg #[.int .u8 ((97 : Nat) : Int), .string s, .int .i64 p]] w fun e w' => e = .returned (.bool (NM.right s)) ∧ Below w.heap.size w w' := by
  generalize hR : NM.right s = r at *
  have HR := Lib.hid hR; clear hR
  go_enter Try.func13, Try.ntmps13
  go_wp2_with fail
  refine (refRight_any _ _).mono ?_
  rintro e w' ⟨rfl, hd⟩
  have HB := Lib.hid hd.below; clear hd
  go_wp2
  go_ret
  exact ⟨ret_eq (bool_eq HR.out), ((Below.refl _ _).alloc (Nat.le_refl _) _).trans (HB.out.mono (by simp))⟩
set_option maxHeartbeats 400000 in
theorem refRight8_sign (k : Nat) (s : ByteArray) (p : Int) (w : World) (h97 : ¬ k = 97) :
    Calls Try.prog 13 #[.agg #[.int .u8 (k : Int), .string s, .int .i64 p]] w fun e w' => e = .returned (.bool (signB k && (decide (s.size = 1) && decide (bt s 0 = k)))) ∧ Below w.heap.size w w' := by
  have hne : ((k : Int) == 97) = false := by rw [beq_eq_false_iff_ne]; omega
  cases hs : signB k
  · have HSG := Lib.hid hs; clear hs
    go_enter Try.func13, Try.ntmps13
    go_wp2_with fail
    have hrow : RowAt (w.alloc (.cells #[.int .u8 (k : Int), .string s, .int .i64 p] 33)) w.heap.size 33 #[.int .u8 (k : Int), .string s, .int .i64 p] := RowAt.new w _ _
    obtain ⟨S, HS, HROW, HBEL, keep⟩ := ex_row w.heap.size w.heap.size _ _ w _ hrow ((Below.refl _ _).alloc (Nat.le_refl _) _)
    have keepS := keep.out (by simp)
    clear keep hrow
    have C0 : ∀ w', S w' → w'.cell? ⟨w.heap.size, 0, none⟩ = some (.int .u8 (k : Int)) := fun w' h => ((HROW.out w' h).cell 0).trans rfl
    have C1 : ∀ w', S w' → w'.cell? ⟨w.heap.size, 1, none⟩ = some (.string s) := fun w' h => ((HROW.out w' h).cell 1).trans rfl
    refine wp_region_ord S [(0, true), (1, true), (2, false), (3, true), (4, true), (5, true), (6, true), (7, true), (8, true), (9, true), (10, true), (11, true), (12, true), (13, true), (14, true), (15, true), (16, true), (17, true)] (by kernel_rfl) (by kernel_rfl) rfl (by kernel_rfl) HS.out ?_
    iterate 2
      (refine wpOrd_step (o := ?_) ?_ ?_; rotate_left 1; (simp only [List.getElem?_toArray, List.getElem?_cons_succ, List.getElem?_cons_zero]; with_reducible rfl))
      (first
          | (refine wpOrd_skip (by rfl) ?_)
          | (refine wpOrd_take (v := ?_) (by rfl) ?_ ?_; rotate_left 1; (intro wx hSx; have hc_0 := C0 wx hSx; have hc_1 := C1 wx hSx; go_simp; try with_reducible rfl)))
      (try simp only [Act.put, List.setIfInBounds_toArray, List.set_cons_zero, List.set_cons_succ])
    (refine wpOrd_solo (o := ?_) ?_ ?_; rotate_left 1; (simp only [List.getElem?_toArray, List.getElem?_cons_succ, List.getElem?_cons_zero]; with_reducible rfl))
    intro K hK
    go_simp
    go_at_call 26
    refine (refSign_any k _).mono ?_
    rintro e w1 ⟨rfl, hb⟩
    have hS := keepS _ _ HS.out hb
    clear HS
    have HS := Lib.hid hS; clear hS hb
    rw [HSG.out]
    refine hK.out _ _ HS.out ?_
    clear hK K
    (try simp only [Act.put, List.setIfInBounds_toArray, List.set_cons_zero, List.set_cons_succ])
    iterate 15
      (refine wpOrd_step (o := ?_) ?_ ?_; rotate_left 1; (simp only [List.getElem?_toArray, List.getElem?_cons_succ, List.getElem?_cons_zero]; with_reducible rfl))
      (first
          | (refine wpOrd_skip (by rfl) ?_)
          | (refine wpOrd_take (v := ?_) (by rfl) ?_ ?_; rotate_left 1; (intro wx hSx; have hc_0 := C0 wx hSx; have hc_1 := C1 wx hSx; go_simp; try with_reducible rfl)))
      (try simp only [Act.put, List.setIfInBounds_toArray, List.set_cons_zero, List.set_cons_succ])
    refine wpOrd_done ?_
    go_wp2_with fail
    go_ret
    exact ⟨rfl, HBEL.out _ HS.out⟩
  · have HSG := Lib.hid hs; clear hs
    by_cases h1 : s.size = 1
    · have h0 : 0 < s.size := by omega
      have hb := bt_at (s := s) (i := 0) h0
      rw [hb, decide_eq_true h1]
      have h1' : ((s.size : Int) == 1) = true := by rw [beq_iff_eq]; omega
      clear h1 hb
      go_enter Try.func13, Try.ntmps13
      go_wp2_with fail
      have hrow : RowAt (w.alloc (.cells #[.int .u8 (k : Int), .string s, .int .i64 p] 33)) w.heap.size 33 #[.int .u8 (k : Int), .string s, .int .i64 p] := RowAt.new w _ _
      obtain ⟨S, HS, HROW, HBEL, keep⟩ := ex_row w.heap.size w.heap.size _ _ w _ hrow ((Below.refl _ _).alloc (Nat.le_refl _) _)
      have keepS := keep.out (by simp)
      clear keep hrow
      have C0 : ∀ w', S w' → w'.cell? ⟨w.heap.size, 0, none⟩ = some (.int .u8 (k : Int)) := fun w' h => ((HROW.out w' h).cell 0).trans rfl
      have C1 : ∀ w', S w' → w'.cell? ⟨w.heap.size, 1, none⟩ = some (.string s) := fun w' h => ((HROW.out w' h).cell 1).trans rfl
      refine wp_region_ord S [(0, true), (1, true), (2, false), (3, true), (4, true), (5, true), (6, true), (7, true), (8, true), (9, true), (10, true), (11, true), (12, true), (13, true), (14, true), (15, true), (16, true), (17, true)] (by kernel_rfl) (by kernel_rfl) rfl (by kernel_rfl) HS.out ?_
      iterate 2
        (refine wpOrd_step (o := ?_) ?_ ?_; rotate_left 1; (simp only [List.getElem?_toArray, List.getElem?_cons_succ, List.getElem?_cons_zero]; with_reducible rfl))
        (first
            | (refine wpOrd_skip (by rfl) ?_)
            | (refine wpOrd_take (v := ?_) (by rfl) ?_ ?_; rotate_left 1; (intro wx hSx; have hc_0 := C0 wx hSx; have hc_1 := C1 wx hSx; go_simp; try with_reducible rfl)))
        (try simp only [Act.put, List.setIfInBounds_toArray, List.set_cons_zero, List.set_cons_succ])
      (refine wpOrd_solo (o := ?_) ?_ ?_; rotate_left 1; (simp only [List.getElem?_toArray, List.getElem?_cons_succ, List.getElem?_cons_zero]; with_reducible rfl))
      intro K hK
      go_simp
      go_at_call 26
      refine (refSign_any k _).mono ?_
      rintro e w1 ⟨rfl, hb⟩
      have hS := keepS _ _ HS.out hb
      clear HS
      have HS := Lib.hid hS; clear hS hb
      rw [HSG.out]
      refine hK.out _ _ HS.out ?_
      clear hK K
      (try simp only [Act.put, List.setIfInBounds_toArray, List.set_cons_zero, List.set_cons_succ])
      iterate 15
        (refine wpOrd_step (o := ?_) ?_ ?_; rotate_left 1; (simp only [List.getElem?_toArray, List.getElem?_cons_succ, List.getElem?_cons_zero]; with_reducible rfl))
        (first
            | (refine wpOrd_skip (by rfl) ?_)
            | (refine wpOrd_take (v := ?_) (by rfl) ?_ ?_; rotate_left 1; (intro wx hSx; have hc_0 := C0 wx hSx; have hc_1 := C1 wx hSx; go_simp; try with_reducible rfl)))
        (try simp only [Act.put, List.setIfInBounds_toArray, List.set_cons_zero, List.set_cons_succ])
      refine wpOrd_done ?_
      go_wp2_with fail
      go_ret
      exact ⟨ret_eq (bool_eq (by rw [Bool.eq_iff_iff]; simp <;> omega)), HBEL.out _ HS.out⟩
    · rw [decide_eq_false h1]
      have h1' : ((s.size : Int) == 1) = false := by rw [beq_eq_false_iff_ne]; omega
      clear h1
      go_enter Try.func13, Try.ntmps13
      go_wp2_with fail
      have hrow : RowAt (w.alloc (.cells #[.int .u8 (k : Int), .string s, .int .i64 p] 33)) w.heap.size 33 #[.int .u8 (k : Int), .string s, .int .i64 p] := RowAt.new w _ _
      obtain ⟨S, HS, HROW, HBEL, keep⟩ := ex_row w.heap.size w.heap.size _ _ w _ hrow ((Below.refl _ _).alloc (Nat.le_refl _) _)
      have keepS := keep.out (by simp)
      clear keep hrow
      have C0 : ∀ w', S w' → w'.cell? ⟨w.heap.size, 0, none⟩ = some (.int .u8 (k : Int)) := fun w' h => ((HROW.out w' h).cell 0).trans rfl
      have C1 : ∀ w', S w' → w'.cell? ⟨w.heap.size, 1, none⟩ = some (.string s) := fun w' h => ((HROW.out w' h).cell 1).trans rfl
      refine wp_region_ord S [(0, true), (1, true), (2, false), (3, true), (4, true), (5, true), (6, true), (7, true), (8, true), (9, true), (10, true), (11, true), (12, true), (13, true), (14, true), (15, true), (16, true), (17, true)] (by kernel_rfl) (by kernel_rfl) rfl (by kernel_rfl) HS.out ?_
      iterate 2
        (refine wpOrd_step (o := ?_) ?_ ?_; rotate_left 1; (simp only [List.getElem?_toArray, List.getElem?_cons_succ, List.getElem?_cons_zero]; with_reducible rfl))
        (first
            | (refine wpOrd_skip (by rfl) ?_)
            | (refine wpOrd_take (v := ?_) (by rfl) ?_ ?_; rotate_left 1; (intro wx hSx; have hc_0 := C0 wx hSx; have hc_1 := C1 wx hSx; go_simp; try with_reducible rfl)))
        (try simp only [Act.put, List.setIfInBounds_toArray, List.set_cons_zero, List.set_cons_succ])
      (refine wpOrd_solo (o := ?_) ?_ ?_; rotate_left 1; (simp only [List.getElem?_toArray, List.getElem?_cons_succ, List.getElem?_cons_zero]; with_reducible rfl))
      intro K hK
      go_simp
      go_at_call 26
      refine (refSign_any k _).mono ?_
      rintro e w1 ⟨rfl, hb⟩
      have hS := keepS _ _ HS.out hb
      clear HS
      have HS := Lib.hid hS; clear hS hb
      rw [HSG.out]
      refine hK.out _ _ HS.out ?_
      clear hK K
      (try simp only [Act.put, List.setIfInBounds_toArray, List.set_cons_zero, List.set_cons_succ])
      iterate 15
        (refine wpOrd_step (o := ?_) ?_ ?_; rotate_left 1; (simp only [List.getElem?_toArray, List.getElem?_cons_succ, List.getElem?_cons_zero]; with_reducible rfl))
        (first
            | (refine wpOrd_skip (by rfl) ?_)
            | (refine wpOrd_take (v := ?_) (by rfl) ?_ ?_; rotate_left 1; (intro wx hSx; have hc_0 := C0 wx hSx; have hc_1 := C1 wx hSx; go_simp; try with_reducible rfl)))
        (try simp only [Act.put, List.setIfInBounds_toArray, List.set_cons_zero, List.set_cons_succ])
      refine wpOrd_done ?_
      go_wp2_with fail
      go_ret
      exact ⟨rfl, HBEL.out _ HS.out⟩
theorem refRight8_any (t : Tk) (w : World) :
    Calls Try.prog 13 #[.agg (tv t)] w fun e w' => e = .returned (.bool (rightT t)) ∧ Below w.heap.size w w' := by
  obtain ⟨k, s, p⟩ := t
  by_cases h97 : k = 97
  · subst h97
    exact refRight8_word s p w
  · rw [rightT_sign (t := ⟨k, s, p⟩) h97]
    exact refRight8_sign k s p w h97
end Go.Proofs.Ytfhmdambdkmmgaa
