/-
  The small functions of package lex and of the document's answer: blanks, runs, signs. Conditions: strings below 2^32 bytes.
-/
import Derived.Test.YtfhmdambdkmmgaaLexMath
import Derived.Test.YtfhmdambdkmmgaaShelf
namespace Go.Proofs.Ytfhmdambdkmmgaa
open Go.RowKit LX

theorem running_any (c : Nat) (w : World) :
    Calls Try.prog 20 #[.int .u8 c] w fun e w' => e = .returned (.bool (NM.innr c)) ∧ w = w' := by
  go_enter Try.func20, Try.ntmps20
  go_wp2
  all_goals
    go_ret
    exact ⟨ret_eq (bool_eq (by unfold NM.innr NM.lett; rw [Bool.eq_iff_iff]; simp <;> omega)), rfl⟩
theorem refGoes_any (c : Nat) (w : World) :
    Calls Try.prog 36 #[.int .u8 c] w fun e w' => e = .returned (.bool (NM.innr c)) ∧ w = w' := by
  go_enter Try.func36, Try.ntmps36
  go_wp2
  all_goals
    go_ret
    exact ⟨ret_eq (bool_eq (by unfold NM.innr NM.lett; rw [Bool.eq_iff_iff]; simp <;> omega)), rfl⟩
theorem blank_any (c : Nat) (w : World) :
    Calls Try.prog 21 #[.int .u8 c] w fun e w' => e = .returned (.bool (blankB c)) ∧ w = w' := by
  go_enter Try.func21, Try.ntmps21
  go_wp2
  all_goals
    go_ret
    exact ⟨ret_eq (bool_eq (by unfold blankB; rw [Bool.eq_iff_iff]; simp <;> omega)), rfl⟩
set_option maxRecDepth 100000 in
theorem signB_index (c : Nat) (hc : c < 256) : decide (Lib.indexByte [35, 43, 38, 40, 41, 123, 125, 91, 93, 44, 58, 61, 124, 60] ((c : Int).toNat.toUInt8) ≥ 0) = signB c := by
  have : ∀ c : Fin 256, decide (Lib.indexByte [35, 43, 38, 40, 41, 123, 125, 91, 93, 44, 58, 61, 124, 60] ((c.val : Int).toNat.toUInt8) ≥ 0) = signB c.val := by decide
  exact this ⟨c, hc⟩
theorem sign_any (c : Nat) (hc : c < 256) (w : World) :
    Calls Try.prog 28 #[.int .u8 c] w fun e w' => e = .returned (.bool (signB c)) ∧ w = w' := by
  have HS := Lib.hid (signB_index c hc); clear hc
  go_enter Try.func28, Try.ntmps28
  go_wp2_with fail
  refine (Try.strings_IndexByte _ _ _).mono ?_
  rintro e w' ⟨rfl, rfl⟩
  go_wp2
  go_ret
  refine ⟨ret_eq (bool_eq ?_), rfl⟩
  rw [← HS.out]
  rw [Bool.eq_iff_iff]
  simp
def signCells : Array Value := #[.int .u8 35, .int .u8 43, .int .u8 38, .int .u8 40, .int .u8 41, .int .u8 123, .int .u8 125, .int .u8 91, .int .u8 93, .int .u8 44, .int .u8 58, .int .u8 61, .int .u8 124, .int .u8 60]
theorem signCells_at (j : Nat) (hj : j < 14) : signCells[j]? = some (.int .u8 ((signs.getD j 0 : Nat) : Int)) := by
  match j, hj with
  | 0, _ => rfl
  | 1, _ => rfl
  | 2, _ => rfl
  | 3, _ => rfl
  | 4, _ => rfl
  | 5, _ => rfl
  | 6, _ => rfl
  | 7, _ => rfl
  | 8, _ => rfl
  | 9, _ => rfl
  | 10, _ => rfl
  | 11, _ => rfl
  | 12, _ => rfl
  | 13, _ => rfl
  | n + 14, h => exact absurd h (by omega)
theorem sign_hit {c j : Nat} (hj : j < 14) (h : signs.getD j 0 = c) : signB c = true := by
  unfold signB
  rw [List.contains_iff_mem]
  have hl : j < signs.length := hj
  rw [List.getD_eq_getElem?_getD, List.getElem?_eq_getElem hl] at h
  rw [← h]; exact List.getElem_mem hl
theorem sign_miss {c : Nat} (h : ∀ j, j < 14 → signs.getD j 0 ≠ c) : signB c = false := by
  unfold signB
  rw [Bool.eq_false_iff]
  intro hm
  rw [List.contains_iff_mem] at hm
  obtain ⟨j, hj, e⟩ := List.mem_iff_getElem.1 hm
  refine h j hj ?_
  rw [List.getD_eq_getElem?_getD, List.getElem?_eq_getElem hj, Option.getD_some]; exact e
theorem refSign_any (c : Nat) (w : World) :
    Calls Try.prog 26 #[.int .u8 c] w fun e w' => e = .returned (.bool (signB c)) ∧ Below w.heap.size w w' := by
  have HCELL : Hid (∀ j, j < 14 → (w.alloc (.cells signCells 5)).cell? ⟨w.heap.size, j, none⟩ = some (.int .u8 ((signs.getD j 0 : Nat) : Int))) :=
    fun j hj => (cell_of_row _ w.heap.size j signCells 5 (0, 0) (heap_alloc_new w _)).trans (signCells_at j hj)
  have HB : Hid (Below w.heap.size w (w.alloc (.cells signCells 5))) := (Below.refl _ _).alloc (Nat.le_refl _) _
  have HR : Hid (signB c = signB c) := rfl
  have HIT := Lib.hid (fun j => @sign_hit c j)
  have MISS := Lib.hid (@sign_miss c)
  generalize signB c = r at *
  generalize hG : signs = G at *
  clear hG
  go_enter Try.func26, Try.ntmps26
  go_wp2_with fail
  rw [show w.alloc (Obj.cells #[.int .u8 35, .int .u8 43, .int .u8 38, .int .u8 40, .int .u8 41, .int .u8 123, .int .u8 125, .int .u8 91, .int .u8 93, .int .u8 44, .int .u8 58, .int .u8 61, .int .u8 124, .int .u8 60] 5) = w.alloc (.cells signCells 5) from rfl]
  generalize w.alloc (.cells signCells 5) = wa at *
  go_loop [4] (fun iv => ∃ j : Nat, j ≤ 14 ∧ iv = .int .i64 j ∧ Hid (∀ i, i < j → G.getD i 0 ≠ c)) (fun iv => 14 - (intOf iv).toNat)
  case atStart => exact ⟨0, by omega, rfl, fun i hi => by omega⟩
  case round =>
    obtain ⟨j, hj, rfl, HN⟩ := hrel
    by_cases hlt : j < 14
    · have hcj := HCELL.out j hlt
      by_cases he : G.getD j 0 = c
      · have HR1 := Lib.hid (HIT.out j hlt he)
        rw [he] at hcj
        clear he
        go_wp2
        go_ret
        exact ⟨ret_eq (bool_eq HR1.out.symm), HB.out⟩
      · have HN1 := Lib.hid he; clear he
        generalize hx : G.getD j 0 = x at *
        have HX := Lib.hid hx; clear hx
        have hne : ((x : Int) == (c : Int)) = false := by
          rw [beq_eq_false_iff_ne]
          intro h
          exact HN1.out (by omega)
        go_wp2
        go_round
        case rel =>
          refine ⟨j + 1, by omega, by go_num, ?_⟩
          show ∀ i, i < j + 1 → G.getD i 0 ≠ c
          intro i hi
          by_cases e : i = j
          · rw [e, HX.out]; exact HN1.out
          · exact HN.out i (by omega)
        case measure => simp [intOf]; omega
    · obtain rfl : j = 14 := by omega
      have HR1 := Lib.hid (MISS.out HN.out)
      go_wp2
      go_ret
      exact ⟨ret_eq (bool_eq HR1.out.symm), HB.out⟩
/-- The end of a run, by the closure. -/
theorem runEnd_any (s : ByteArray) (g : Nat) (w : World) (hs : w.cell? ⟨g, 0, none⟩ = some (.string s)) (i : Nat) (hi : i ≤ s.size) (hl : s.size ≤ 4294967296) :
    Calls Try.prog 19 #[.int .i64 i, .pointer (some ⟨g, 0, none⟩)] w fun e w' => e = .returned (.int .i64 (runE s i)) ∧ w = w' := by
  go_enter Try.func19, Try.ntmps19
  go_wp2
  go_loop [0] (fun iv => ∃ j : Nat, j ≤ s.size ∧ iv = .int .i64 j ∧ Hid (runE s j = runE s i)) (fun iv => s.size - (intOf iv).toNat)
  case atStart => exact ⟨i, hi, rfl, rfl⟩
  case round =>
    obtain ⟨j, hj, rfl, HR⟩ := hrel
    by_cases hlt : j < s.size
    · have hb : bt s j = s[j].toNat := by unfold bt lst; rw [NM.byte_at hlt]
      cases hc : NM.innr s[j].toNat
      · have HE : Hid (runE s j = j) := runE_stop hlt (by rw [hb]; exact hc)
        have HC := Lib.hid hc; clear hc hb
        go_wp2_with (go_at_call 20; refine (running_any _ _).mono ?_; rintro e w' ⟨rfl, rfl⟩; rw [HC.out])
        go_ret
        exact ⟨ret_eq (int_eq (by rw [← HR.out, HE.out])), rfl⟩
      · have HE : Hid (runE s j = runE s (j + 1)) := runE_step hlt (by rw [hb]; exact hc)
        have HC := Lib.hid hc; clear hc hb
        go_wp2_with (go_at_call 20; refine (running_any _ _).mono ?_; rintro e w' ⟨rfl, rfl⟩; rw [HC.out])
        go_round
        case rel =>
          refine ⟨j + 1, by omega, by go_num, ?_⟩
          show _ = _
          rw [← HE.out]; exact HR.out
        case measure => simp [intOf]; omega
    · have HE : Hid (runE s j = j) := runE_end hlt
      go_wp2
      go_ret
      exact ⟨ret_eq (int_eq (by rw [← HR.out, HE.out])), rfl⟩
theorem refRun_any (s : ByteArray) (w : World) (i : Nat) (hi : i ≤ s.size) (hl : s.size ≤ 4294967296) :
    Calls Try.prog 24 #[.string s, .int .i64 i] w fun e w' => e = .returned (.int .i64 ((runE s i : Int) - i)) ∧ w = w' := by
  have HG := Lib.hid (runE_ge s i)
  go_enter Try.func24, Try.ntmps24
  go_wp2
  go_loop [5] (fun iv => ∃ j : Nat, i + j ≤ s.size ∧ iv = .int .i64 j ∧ Hid (runE s (i + j) = runE s i)) (fun iv => s.size - (intOf iv).toNat)
  case atStart => exact ⟨0, by omega, rfl, rfl⟩
  case round =>
    obtain ⟨j, hj, rfl, HR⟩ := hrel
    have htn : ((i : Int) + (j : Int)).toNat = i + j := by omega
    by_cases hlt : i + j < s.size
    · have hb : bt s (i + j) = s[i + j].toNat := by unfold bt lst; rw [NM.byte_at hlt]
      cases hc : NM.innr s[i + j].toNat
      · have HE : Hid (runE s (i + j) = i + j) := runE_stop hlt (by rw [hb]; exact hc)
        have HC := Lib.hid hc; clear hc hb
        go_wp2_with (go_at_call 36; refine (refGoes_any _ _).mono ?_; rintro e w' ⟨rfl, rfl⟩; rw [HC.out])
        go_ret
        exact ⟨ret_eq (int_eq (by rw [← HR.out, HE.out]; omega)), rfl⟩
      · have HE : Hid (runE s (i + j) = runE s (i + (j + 1))) := runE_step hlt (by rw [hb]; exact hc)
        have HC := Lib.hid hc; clear hc hb
        go_wp2_with (go_at_call 36; refine (refGoes_any _ _).mono ?_; rintro e w' ⟨rfl, rfl⟩; rw [HC.out])
        go_round
        case rel =>
          refine ⟨j + 1, by omega, by go_num, ?_⟩
          show _ = _
          rw [← HE.out]; exact HR.out
        case measure => simp [intOf]; omega
    · have HE : Hid (runE s (i + j) = i + j) := runE_end hlt
      go_wp2
      go_ret
      exact ⟨ret_eq (int_eq (by rw [← HR.out, HE.out]; omega)), rfl⟩
end Go.Proofs.Ytfhmdambdkmmgaa
