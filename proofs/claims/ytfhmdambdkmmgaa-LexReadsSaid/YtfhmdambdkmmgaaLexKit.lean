/-
  Tokens as values and in memory; whether a token is right. Conditions: strings below 2^32 bytes.
-/
import Derived.Test.YtfhmdambdkmmgaaLexA
import Derived.Test.YtfhmdambdkmmgaaBaseB
import Derived.Deep.MidRow
namespace Go.Proofs.Ytfhmdambdkmmgaa
open Go.RowKit LX

/-- The cells of a token. -/
def tcells (t : Tk) : List Value := [.int .u8 (t.k : Int), .string t.s, .int .i64 t.p]
def tv (t : Tk) : Array Value := #[.int .u8 (t.k : Int), .string t.s, .int .i64 t.p]
theorem tv_list (t : Tk) : (tcells t).toArray = tv t := rfl
theorem tcells_length (t : Tk) : (tcells t).length = 3 := rfl
/-- The cells of many tokens. -/
def tkcells (l : List Tk) : List Value := l.flatMap tcells
theorem tkcells_append (a b : List Tk) : tkcells (a ++ b) = tkcells a ++ tkcells b := by simp [tkcells]
theorem tkcells_one (t : Tk) : tkcells [t] = tcells t := by simp [tkcells]
theorem tkcells_length : ∀ l : List Tk, (tkcells l).length = l.length * 3
  | [] => rfl
  | t :: l => by
    have := tkcells_length l
    unfold tkcells at this ⊢
    rw [List.flatMap_cons, List.length_append, this, tcells_length, List.length_cons]; omega
theorem tkcells_at : ∀ (l : List Tk) (i j : Nat), i < l.length → j < 3 → (tkcells l)[i * 3 + j]? = (tcells (l.getD i t0))[j]?
  | [], i, j, hi, _ => by simp at hi
  | t :: l, 0, j, _, hj => by
    unfold tkcells
    rw [List.flatMap_cons, List.getElem?_append_left (by rw [tcells_length]; omega)]
    simp
  | t :: l, i + 1, j, hi, hj => by
    have := tkcells_at l i j (by simpa using hi) hj
    unfold tkcells at this ⊢
    rw [List.flatMap_cons, List.getElem?_append_right (by rw [tcells_length]; omega), tcells_length, show (i + 1) * 3 + j - 3 = i * 3 + j by omega, this]
    simp
/-- A slice that reads as this list of tokens. -/
def Toks (w : World) (A : Option Addr) (l : List Tk) : Prop := Sl w w.heap.size A (tkcells l)
section
variable {w w' : World} {A : Option Addr} {l : List Tk}
theorem Toks.below (h : Toks w A l) (hb : Below w.heap.size w w') : Toks w' A l := (Sl.below h hb).mono hb.size
theorem Toks.dr (h : Toks w A l) (hb : Dr w w') : Toks w' A l := h.below hb.below
theorem Toks.alloc (h : Toks w A l) (o : Obj) : Toks (w.alloc o) A l := h.below ((Below.refl _ _).alloc (Nat.le_refl _) _)
theorem Toks.nil (w : World) (A : Option Addr) : Toks w A [] := Sl.nil _ _ _
theorem Toks.at (h : Toks w A l) {k : Nat} (hk : k < l.length) : ∃ b o, A = some ⟨b, o, none⟩ ∧ b < w.heap.size ∧ ∀ i, i < l.length →
    w.cell? ⟨b, o + i * 3, none⟩ = some (.int .u8 ((l.getD i t0).k : Int)) ∧ w.cell? ⟨b, o + i * 3 + 1, none⟩ = some (.string (l.getD i t0).s) ∧ w.cell? ⟨b, o + i * 3 + 2, none⟩ = some (.int .i64 (l.getD i t0).p) := by
  obtain ⟨b, o, hA, hb, hc⟩ := Sl.at_ h (fun e => by
    have := congrArg List.length e
    rw [tkcells_length] at this
    simp only [List.length_nil] at this
    omega)
  refine ⟨b, o, hA, hb, fun i hi => ⟨?_, ?_, ?_⟩⟩
  · exact hc (i * 3) _ (by have := tkcells_at l i 0 hi (by omega); rw [Nat.add_zero] at this; rw [this]; rfl)
  · rw [Nat.add_assoc]; exact hc (i * 3 + 1) _ (by rw [tkcells_at l i 1 hi (by omega)]; rfl)
  · rw [Nat.add_assoc]; exact hc (i * 3 + 2) _ (by rw [tkcells_at l i 2 hi (by omega)]; rfl)
end
theorem byte_lt (s : ByteArray) (i : Nat) : bt s i < 256 := by unfold bt; exact UInt8.toNat_lt _
theorem bt_at {s : ByteArray} {i : Nat} (h : i < s.size) : bt s i = s[i].toNat := by unfold bt lst; rw [NM.byte_at h]

set_option maxHeartbeats 400000 in
theorem lexRight_word (s : ByteArray) (p : Int) (w : World) :
    Calls Try.prog 12 #[.agg #[.int .u8 ((97 : Nat) : Int), .string s, .int .i64 p]] w fun e w' => e = .returned (.bool (NM.right s)) ∧ Below w.heap.size w w' := by
  generalize hR : NM.right s = r at *
  have HR := Lib.hid hR; clear hR
  go_enter Try.func12, Try.ntmps12
  go_wp2_with fail
  refine (right_any _ _).mono ?_
  rintro e w' ⟨rfl, hb⟩
  have HB := Lib.hid hb; clear hb
  go_wp2
  go_ret
  exact ⟨ret_eq (bool_eq HR.out), ((Below.refl _ _).alloc (Nat.le_refl _) _).trans (HB.out.mono (by simp))⟩
set_option maxHeartbeats 400000 in
theorem lexRight_sign (k : Nat) (s : ByteArray) (p : Int) (w : World) (hk : k < 256) (h97 : ¬ k = 97) :
    Calls Try.prog 12 #[.agg #[.int .u8 (k : Int), .string s, .int .i64 p]] w fun e w' => e = .returned (.bool (signB k && (decide (s.size = 1) && decide (bt s 0 = k)))) ∧ Below w.heap.size w w' := by
  have hne : ((k : Int) == 97) = false := by rw [beq_eq_false_iff_ne]; omega
  cases hs : signB k
  · have HS := Lib.hid hs; clear hs
    go_enter Try.func12, Try.ntmps12
    go_wp2_with fail
    go_quiet ((go_at_call 28; exact quiet_same ((sign_any k hk _).mono fun e w' h => by rw [HS.out] at h; exact h)))
    go_wp2
    go_ret
    exact ⟨rfl, bdrewN ((Below.refl _ _).alloc (Nat.le_refl _) _) _⟩
  · have HS := Lib.hid hs; clear hs
    by_cases h1 : s.size = 1
    · have h0 : 0 < s.size := by omega
      have hb := bt_at (s := s) (i := 0) h0
      rw [hb, decide_eq_true h1]
      have h1' : ((s.size : Int) == 1) = true := by rw [beq_iff_eq]; omega
      clear h1 hb
      go_enter Try.func12, Try.ntmps12
      go_wp2_with fail
      go_quiet ((go_at_call 28; exact quiet_same ((sign_any k hk _).mono fun e w' h => by rw [HS.out] at h; exact h)))
      go_wp2
      go_ret
      exact ⟨ret_eq (bool_eq (by rw [Bool.eq_iff_iff]; simp <;> omega)), bdrewN ((Below.refl _ _).alloc (Nat.le_refl _) _) _⟩
    · rw [decide_eq_false h1]
      have h1' : ((s.size : Int) == 1) = false := by rw [beq_eq_false_iff_ne]; omega
      clear h1
      go_enter Try.func12, Try.ntmps12
      go_wp2_with fail
      go_quiet ((go_at_call 28; exact quiet_same ((sign_any k hk _).mono fun e w' h => by rw [HS.out] at h; exact h)))
      go_wp2
      go_ret
      exact ⟨rfl, bdrewN ((Below.refl _ _).alloc (Nat.le_refl _) _) _⟩
theorem lexRight_any (t : Tk) (w : World) (hk : t.k < 256) :
    Calls Try.prog 12 #[.agg (tv t)] w fun e w' => e = .returned (.bool (rightT t)) ∧ Below w.heap.size w w' := by
  obtain ⟨k, s, p⟩ := t
  by_cases h97 : k = 97
  · subst h97
    exact lexRight_word s p w
  · rw [rightT_sign (t := ⟨k, s, p⟩) h97]
    exact lexRight_sign k s p w hk h97
end Go.Proofs.Ytfhmdambdkmmgaa
