/-
  Plain words of layer 2: the first number of a range, bytes, names, the order of strings. Conditions: none.
-/
import Derived.WalkKit
import Derived.Sort.Walk0
import Derived.Test.YtapnefhmonpgdaaBaseA
import Derived.Deep.LoopGhost
import Derived.Deep.QuietTactic
import Derived.BigQuiet
import Derived.Maps.OwnOps
import Derived.Maps.Views
import Derived.StillTailTactics
import Derived.Lib.SlicesCompact
set_option linter.unusedSimpArgs false
set_option linter.unusedVariables false
namespace Go.Proofs.Ytapnefhmonpgdaa
namespace NM

/-- The first number below n for which p is true, or -1. -/
def fst (p : Nat → Bool) (n : Nat) : Int := match (List.range n).find? p with | some j => j | none => -1
set_option maxRecDepth 8000 in
theorem fst_hit {p : Nat → Bool} {n k : Nat} (hk : k < n) (h : p k = true) (h0 : ∀ j, j < k → p j = false) : fst p n = k := by
  have : (List.range n).find? p = some k := by
    rw [List.find?_range_eq_some]
    refine ⟨h, List.mem_range.2 hk, fun j hj => by rw [h0 j hj]; rfl⟩
  unfold fst; rw [this]
set_option maxRecDepth 8000 in
theorem fst_miss {p : Nat → Bool} {n : Nat} (h0 : ∀ j, j < n → p j = false) : fst p n = -1 := by
  have : (List.range n).find? p = none := by
    rw [List.find?_eq_none]
    intro j hj
    rw [h0 j (List.mem_range.1 hj)]; simp
  unfold fst; rw [this]
set_option maxRecDepth 8000 in
theorem fst_cases (p : Nat → Bool) (n : Nat) : (∃ k, k < n ∧ fst p n = k ∧ p k = true ∧ ∀ j, j < k → p j = false) ∨ (fst p n = -1 ∧ ∀ j, j < n → p j = false) := by
  cases h : (List.range n).find? p with
  | some k =>
    rw [List.find?_range_eq_some] at h
    have hk := List.mem_range.1 h.2.1
    have h0 : ∀ j, j < k → p j = false := fun j hj => by have := h.2.2 j hj; simpa using this
    exact .inl ⟨k, hk, fst_hit hk h.1 h0, h.1, h0⟩
  | none =>
    rw [List.find?_eq_none] at h
    have h0 : ∀ j, j < n → p j = false := fun j hj => by have := h j (List.mem_range.2 hj); simpa using this
    exact .inr ⟨fst_miss h0, h0⟩
set_option maxRecDepth 8000 in
theorem fst_congr {p q : Nat → Bool} {n : Nat} (h : ∀ j, j < n → p j = q j) : fst p n = fst q n := by
  rcases fst_cases p n with ⟨k, hk, e, hp, h0⟩ | ⟨e, h0⟩
  · rw [e, fst_hit hk (by rw [← h k hk]; exact hp) (fun j hj => by rw [← h j (by omega)]; exact h0 j hj)]
  · rw [e, fst_miss (fun j hj => by rw [← h j hj]; exact h0 j hj)]
set_option maxRecDepth 8000 in
theorem fst_bd (p : Nat → Bool) (n : Nat) : -1 ≤ fst p n ∧ fst p n < n := by
  rcases fst_cases p n with ⟨k, hk, e, _⟩ | ⟨e, _⟩ <;> omega
set_option maxRecDepth 8000 in
theorem fst_neg {p : Nat → Bool} {n : Nat} : decide (fst p n < 0) = decide (∀ j, j < n → p j = false) := by
  rcases fst_cases p n with ⟨k, hk, e, hp, _⟩ | ⟨e, h0⟩
  · have h1 : ¬ (fst p n < 0) := by omega
    have h2 : ¬ (∀ j, j < n → p j = false) := fun h => by rw [h k hk] at hp; cases hp
    rw [decide_eq_false h1, decide_eq_false h2]
  · have h1 : fst p n < 0 := by omega
    rw [decide_eq_true h1, decide_eq_true h0]

def lett (c : Nat) : Bool := decide (97 ≤ c) && decide (c ≤ 122)
def innr (c : Nat) : Bool := lett c || (decide (48 ≤ c) && decide (c ≤ 57)) || decide (c = 95)

set_option maxRecDepth 8000 in
theorem str_eq (x y : ByteArray) : (x.toList == y.toList) = decide (x = y) := by
  rw [Lib.toList_data, Lib.toList_data, Bool.eq_iff_iff]
  simp only [beq_iff_eq, decide_eq_true_eq]
  constructor
  · intro h
    cases x; cases y
    simp only [ByteArray.mk.injEq]
    exact Array.toList_inj.1 h
  · rintro rfl; rfl
/-- The order of strings. -/
def less (a b : ByteArray) : Bool := Op.bytesLess a.toList b.toList
set_option maxRecDepth 8000 in
theorem bytesLess_app : ∀ (p x y : List UInt8), Op.bytesLess (p ++ x) (p ++ y) = Op.bytesLess x y
  | [], _, _ => rfl
  | c :: p, x, y => by
    simp only [List.cons_append, Op.bytesLess, bytesLess_app p x y, beq_self_eq_true, Bool.true_and]
    have : ¬ (c < c) := by simp
    simp
set_option maxRecDepth 8000 in
theorem less_at {a b : ByteArray} {i : Nat} (ha : i < a.size) (hb : i < b.size) (h : a.data.toList.take i = b.data.toList.take i) (hne : a[i].toNat ≠ b[i].toNat) : less a b = decide (a[i].toNat < b[i].toNat) := by
  unfold less
  rw [Lib.toList_data, Lib.toList_data]
  have ea : a.data.toList = a.data.toList.take i ++ a[i] :: a.data.toList.drop (i + 1) := by
    have h1 : i < a.data.toList.length := by simpa using ha
    conv => lhs; rw [← List.take_append_drop i a.data.toList, List.drop_eq_getElem_cons h1]
    rfl
  have eb : b.data.toList = b.data.toList.take i ++ b[i] :: b.data.toList.drop (i + 1) := by
    have h1 : i < b.data.toList.length := by simpa using hb
    conv => lhs; rw [← List.take_append_drop i b.data.toList, List.drop_eq_getElem_cons h1]
    rfl
  rw [ea, eb, h, bytesLess_app]
  have hne2 : (a[i] == b[i]) = false := by
    rw [beq_eq_false_iff_ne]; intro h; rw [h] at hne; exact hne rfl
  simp only [Op.bytesLess, hne2, Bool.false_and, Bool.or_false]
  rfl
set_option maxRecDepth 8000 in
theorem less_end {a b : ByteArray} {i : Nat} (ha : i ≤ a.size) (hb : i ≤ b.size) (h : a.data.toList.take i = b.data.toList.take i) (he : i = a.size ∨ i = b.size) : less a b = decide (a.size < b.size) := by
  unfold less
  rw [Lib.toList_data, Lib.toList_data]
  rw [← List.take_append_drop i a.data.toList, ← List.take_append_drop i b.data.toList, h, bytesLess_app]
  have la : (a.data.toList.drop i).length = a.size - i := by simp
  have lb : (b.data.toList.drop i).length = b.size - i := by simp
  rcases Nat.lt_or_ge i b.size with h1 | h1
  · have ea : i = a.size := by omega
    have e1 : a.data.toList.drop i = [] := List.eq_nil_of_length_eq_zero (by omega)
    rw [e1]
    cases hd : b.data.toList.drop i with
    | nil => rw [hd] at lb; simp at lb; omega
    | cons c l => simp only [Op.bytesLess]; rw [eq_comm, decide_eq_true_eq]; omega
  · have e1 : b.data.toList.drop i = [] := List.eq_nil_of_length_eq_zero (by omega)
    rw [e1]
    have : decide (a.size < b.size) = false := by rw [decide_eq_false_iff_not]; omega
    rw [this]
    cases a.data.toList.drop i <;> rfl
set_option maxRecDepth 8000 in
theorem take_more {a b : ByteArray} {i : Nat} (ha : i < a.size) (hb : i < b.size) (h : a.data.toList.take i = b.data.toList.take i) (he : a[i].toNat = b[i].toNat) : a.data.toList.take (i + 1) = b.data.toList.take (i + 1) := by
  have h1 : i < a.data.toList.length := by simpa using ha
  have h2 : i < b.data.toList.length := by simpa using hb
  rw [List.take_succ_eq_append_getElem h1, List.take_succ_eq_append_getElem h2, h]
  have : a[i] = b[i] := UInt8.toNat_inj.1 he
  exact congrArg (fun c => _ ++ [c]) this

def tailOk (s : ByteArray) : Bool := decide (∀ j, j < s.size → 1 ≤ j → innr (s.data.toList.getD j 0).toNat = true)
/-- Is it a name? -/
def right (s : ByteArray) : Bool := decide (1 ≤ s.size) && decide (s.size ≤ 16) && lett (s.data.toList.getD 0 0).toNat && tailOk s
set_option maxRecDepth 8000 in
theorem byte_at {s : ByteArray} {i : Nat} (h : i < s.size) : (s.data.toList.getD i 0) = s[i] := by
  have h1 : i < s.data.toList.length := by simpa using h
  rw [List.getD_eq_getElem?_getD, List.getElem?_eq_getElem h1]; rfl
end NM
end Go.Proofs.Ytapnefhmonpgdaa

/-
  What the small functions of package name return, and the search under a condition. Conditions: strings below 2^32 bytes.
-/
namespace Go.Proofs.Ytapnefhmonpgdaa
open Go.RowKit

/-- The world but for what was drawn. -/
def Dr (w w' : World) : Prop := ∃ n, w' = w.drewN n
set_option maxRecDepth 8000 in
theorem Dr.refl (w : World) : Dr w w := ⟨0, rfl⟩
set_option maxRecDepth 8000 in
theorem Dr.trans {a b c : World} (h : Dr a b) (h2 : Dr b c) : Dr a c := by
  obtain ⟨n, rfl⟩ := h
  obtain ⟨m, rfl⟩ := h2
  exact ⟨n + m, by rw [World.drewN_drewN]⟩
set_option maxRecDepth 8000 in
theorem Dr.more {a b : World} (h : Dr a b) (n : Nat) : Dr a (b.drewN n) := h.trans ⟨n, rfl⟩
set_option maxRecDepth 8000 in
theorem Dr.below {w w' : World} (h : Dr w w') : Below w.heap.size w w' := by
  obtain ⟨n, rfl⟩ := h
  exact bdrewN (Below.refl _ _) n
set_option maxRecDepth 8000 in
theorem Dr.quiet {P : Program} {f : FuncId} {args : Array Value} {w : World} {n : Nat} {v : Value}
    (h : Calls P f args (w.drewN n) fun e w' => e = .returned v ∧ Dr (w.drewN n) w') : Calls P f args (w.drewN n) fun e w'' => e = .returned v ∧ ∃ m, w'' = w.drewN m := Calls.quiet_of h
set_option maxRecDepth 8000 in
theorem quiet_same {P : Program} {f : FuncId} {args : Array Value} {w : World} {n : Nat} {v : Value}
    (h : Calls P f args (w.drewN n) fun e w' => e = .returned v ∧ w.drewN n = w') : Calls P f args (w.drewN n) fun e w'' => e = .returned v ∧ ∃ m, w'' = w.drewN m :=
  Calls.quiet_of_same (h.mono fun _ _ ⟨he, hw⟩ => ⟨he, hw.symm⟩)

set_option maxRecDepth 8000 in
theorem letter_any (c : Nat) (w : World) :
    Calls Try.prog 101 #[.int .u8 c] w fun e w' => e = .returned (.bool (NM.lett c)) ∧ w = w' := by
  go_enter Try.func101, Try.ntmps101
  go_wp2
  all_goals
    go_ret
    exact ⟨ret_eq (bool_eq (by unfold NM.lett; rw [Bool.eq_iff_iff]; simp <;> omega)), rfl⟩
set_option maxRecDepth 8000 in
theorem refLetter_any (c : Nat) (w : World) :
    Calls Try.prog 79 #[.int .u8 c] w fun e w' => e = .returned (.bool (NM.lett c)) ∧ w = w' := by
  go_enter Try.func79, Try.ntmps79
  go_wp2
  all_goals
    go_ret
    exact ⟨ret_eq (bool_eq (by unfold NM.lett; rw [Bool.eq_iff_iff]; simp <;> omega)), rfl⟩
set_option maxRecDepth 8000 in
theorem inner_any (c : Nat) (w : World) :
    Calls Try.prog 104 #[.int .u8 c] w fun e w' => e = .returned (.bool (NM.innr c)) ∧ w = w' := by
  cases hl : NM.lett c
  all_goals
    have HL := Lib.hid hl
    clear hl
    go_enter Try.func104, Try.ntmps104
    go_wp2_with (go_at_call 101; refine (letter_any _ _).mono ?_; rintro e w' ⟨rfl, rfl⟩; rw [HL.out])
    all_goals
      go_ret
      exact ⟨ret_eq (bool_eq (by unfold NM.innr; rw [HL.out]; rw [Bool.eq_iff_iff]; simp <;> omega)), rfl⟩
end Go.Proofs.Ytapnefhmonpgdaa

/-
  The order of strings and names, as the program and the document's answer have them; the search under a condition. Conditions: strings below 2^32 bytes.
-/
namespace Go.Proofs.Ytapnefhmonpgdaa
open Go.RowKit

set_option maxRecDepth 8000 in
/-- The search, under whatever condition with whatever is captured: what is known behind j calls is handed on. -/
theorem first_any (n : Nat) (p : Nat → Bool) (f : FuncId) (cap : Array Value) (w : World) (hn : n ≤ 4294967296)
    (hf : ∀ args w, (callFunc f args).run Try.prog w = .ok (.enter f args) w) (Inv : Nat → World → Prop) (h0 : Inv 0 w)
    (H : ∀ j W, j < n → Inv j W → (∀ i, i < j → p i = false) → Calls Try.prog f (#[.int .i64 (j : Nat)] ++ cap) W fun e W' => e = .returned (.bool (p j)) ∧ Inv (j + 1) W') :
    Calls Try.prog 102 #[.int .i64 n, .func (.func f) #[] cap] w fun e w' => e = .returned (.int .i64 (NM.fst p n)) ∧ ∃ j, Inv j w' := by
  have HH := Lib.hid H; clear H
  have H0 := Lib.hid h0; clear h0
  go_enter Try.func102, Try.ntmps102
  go_wp2
  go_loopw [7] (fun iv wr => ∃ i : Nat, i ≤ n ∧ iv = .int .i64 i ∧ Hid (∀ j, j < i → p j = false) ∧ Hid (Inv i wr)) (fun iv _ => n - (intOf iv).toNat)
  case atStart => exact ⟨0, by omega, rfl, fun j hj => by omega, H0.out⟩
  case round =>
    obtain ⟨i, hi, rfl, HF, HI⟩ := hrel
    by_cases hlt : i < n
    · have HC := Lib.hid (HH.out i wr hlt HI.out HF.out)
      cases hp : p i
      all_goals
        rw [hp] at HC
        have HP := Lib.hid hp; clear hp
        go_wp2_with fail
        refine HC.out.mono ?_
        rintro e W ⟨rfl, hI2⟩
        have HI2 := Lib.hid hI2; clear hI2
        go_wp2
      · go_roundw
        case rel =>
          refine ⟨i + 1, by omega, by go_num, ?_, HI2.out⟩
          show ∀ j, j < i + 1 → p j = false
          intro j hj
          by_cases hjk : j = i
          · rw [hjk]; exact HP.out
          · exact HF.out j (by omega)
        case measure => simp [intOf]; omega
      · go_ret
        exact ⟨ret_eq (int_eq (NM.fst_hit hlt HP.out HF.out).symm), i + 1, HI2.out⟩
    · obtain rfl : i = n := by omega
      go_wp2
      go_ret
      exact ⟨ret_eq (int_eq (NM.fst_miss HF.out).symm), i, HI.out⟩
set_option maxRecDepth 8000 in
/-- The same under a condition that only reads. -/
theorem first_dr (n : Nat) (p : Nat → Bool) (f : FuncId) (cap : Array Value) (w : World) (hn : n ≤ 4294967296)
    (hf : ∀ args w, (callFunc f args).run Try.prog w = .ok (.enter f args) w)
    (H : ∀ j m, j < n → (∀ i, i < j → p i = false) → Calls Try.prog f (#[.int .i64 (j : Nat)] ++ cap) (w.drewN m) fun e W' => e = .returned (.bool (p j)) ∧ Dr (w.drewN m) W') :
    Calls Try.prog 102 #[.int .i64 n, .func (.func f) #[] cap] w fun e w' => e = .returned (.int .i64 (NM.fst p n)) ∧ Dr w w' := by
  refine (first_any n p f cap w hn hf (fun _ W => Dr w W) (Dr.refl w) ?_).mono ?_
  · rintro j W hj ⟨m, rfl⟩ h0
    refine (H j m hj h0).mono ?_
    rintro e W' ⟨rfl, hd⟩
    exact ⟨rfl, Dr.trans ⟨m, rfl⟩ hd⟩
  · rintro e w' ⟨rfl, j, hd⟩
    exact ⟨rfl, hd⟩

set_option maxRecDepth 8000 in
/-- The condition of Right. -/
theorem right1_any (s : ByteArray) (g : Nat) (w : World) (hs : w.cell? ⟨g, 0, none⟩ = some (.string s)) (j : Nat) (hj : j < s.size) (_hl : s.size ≤ 4294967296) :
    Calls Try.prog 103 #[.int .i64 j, .pointer (some ⟨g, 0, none⟩)] w fun e w' => e = .returned (.bool (!NM.innr (s.data.toList.getD j 0).toNat)) ∧ w = w' := by
  rw [NM.byte_at hj]
  go_enter Try.func103, Try.ntmps103
  go_wp2_with (go_at_call 104; refine (inner_any _ _).mono ?_; rintro e w' ⟨rfl, rfl⟩)
  go_ret
  exact ⟨rfl, rfl⟩
set_option maxRecDepth 8000 in
theorem drewN_cell (w : World) (n : Nat) (p : Addr) : (w.drewN n).cell? p = w.cell? p := rfl
set_option maxRecDepth 8000 in
theorem right_none (s : ByteArray) (w : World) (h : s.size < 1 ∨ 16 < s.size) :
    Calls Try.prog 74 #[.string s] w fun e w' => e = .returned (.bool (NM.right s)) ∧ Below w.heap.size w w' := by
  have e : NM.right s = false := by
    unfold NM.right
    rcases h with h | h
    · rw [show decide (1 ≤ s.size) = false by rw [decide_eq_false_iff_not]; omega]; simp
    · rw [show decide (s.size ≤ 16) = false by rw [decide_eq_false_iff_not]; omega]; simp
  rw [e]
  clear e
  rcases h with h | h
  all_goals
    try have h' : ¬ s.size < 1 := by omega
    go_enter Try.func74, Try.ntmps74
    go_wp2
    go_ret
    exact ⟨rfl, (Below.refl _ _).alloc (Nat.le_refl _) _⟩
set_option maxRecDepth 8000 in
theorem right_some (s : ByteArray) (w : World) (h1 : 1 ≤ s.size) (h16 : s.size ≤ 16) :
    Calls Try.prog 74 #[.string s] w fun e w' => e = .returned (.bool (NM.right s)) ∧ Below w.heap.size w w' := by
  have hb0 := @NM.byte_at s 0 (by omega)
  have h0 : 0 < s.size := by omega
  have e : NM.right s = (NM.lett (s.data.toList.getD 0 0).toNat && decide (NM.fst (fun j => !NM.innr (s.data.toList.getD j 0).toNat) s.size < 0)) := by
    unfold NM.right NM.tailOk
    rw [decide_eq_true h1, decide_eq_true h16, NM.fst_neg, Bool.true_and, Bool.true_and]
    cases hl : NM.lett (s.data.toList.getD 0 0).toNat
    · rfl
    · rw [Bool.true_and, Bool.true_and, decide_eq_decide]
      constructor
      · intro H j hj
        by_cases hj0 : j = 0
        · rw [hj0]; simp only [NM.innr, hl, Bool.true_or, Bool.not_true]
        · rw [H j hj (by omega)]; rfl
      · intro H j hj _
        have := H j hj
        simpa using this
  rw [e]
  rw [hb0]
  have HB0 := Lib.hid hb0; clear e hb0
  have hc := (Box.new w 9 (.string s)).cell
  cases hl : NM.lett s[0].toNat
  · have HL := Lib.hid hl; clear hl
    go_enter Try.func74, Try.ntmps74
    go_wp2_with (go_at_call 101; refine (letter_any _ _).mono ?_; rintro e w' ⟨rfl, rfl⟩; rw [HL.out])
    go_ret
    exact ⟨rfl, (Below.refl _ _).alloc (Nat.le_refl _) _⟩
  · have HL := Lib.hid hl; clear hl
    have hfb := NM.fst_bd (fun j => !NM.innr (s.data.toList.getD j 0).toNat) s.size
    have hmf : ∀ (fn : Fn) (first cap : Array Value) (w : World), (Instr.makeFunc fn first cap).run Try.prog w = .ok (.func fn first cap) w := fun _ _ _ _ => rfl
    go_enter Try.func74, Try.ntmps74
    go_wp2_with (go_at_call 101; refine (letter_any _ _).mono ?_; rintro e w' ⟨rfl, rfl⟩; rw [HL.out])
    refine (first_dr s.size (fun j => !NM.innr (s.data.toList.getD j 0).toNat) 103 #[.pointer (some ⟨w.heap.size, 0, none⟩)] _ (by omega) (fun _ _ => by kernel_rfl) ?_).mono ?_
    · intro j m hj _
      refine (right1_any s w.heap.size ((w.alloc (.cells #[.string s] 9)).drewN m) hc j hj (by omega)).mono ?_
      rintro e w' ⟨rfl, rfl⟩
      exact ⟨rfl, Dr.refl _⟩
    · rintro e w' ⟨rfl, hd⟩
      have HD := Lib.hid hd; clear hd
      go_wp2
      go_ret
      refine ⟨ret_eq (bool_eq (by simp)), ((Below.refl _ _).alloc (Nat.le_refl _) _).trans (HD.out.below.mono (by simp))⟩
set_option maxRecDepth 8000 in
theorem right_any (s : ByteArray) (w : World) :
    Calls Try.prog 74 #[.string s] w fun e w' => e = .returned (.bool (NM.right s)) ∧ Below w.heap.size w w' := by
  by_cases h : 1 ≤ s.size ∧ s.size ≤ 16
  · exact right_some s w h.1 h.2
  · exact right_none s w (by omega)
set_option maxRecDepth 8000 in
theorem refRight_none (s : ByteArray) (w : World) (h : s.size < 1 ∨ 16 < s.size) :
    Calls Try.prog 49 #[.string s] w fun e w' => e = .returned (.bool (NM.right s)) ∧ Dr w w' := by
  have e : NM.right s = false := by
    unfold NM.right
    rcases h with h | h
    · rw [show decide (1 ≤ s.size) = false by rw [decide_eq_false_iff_not]; omega]; simp
    · rw [show decide (s.size ≤ 16) = false by rw [decide_eq_false_iff_not]; omega]; simp
  rw [e]
  clear e
  rcases h with h | h
  all_goals
    try have h' : ¬ s.size < 1 := by omega
    go_enter Try.func49, Try.ntmps49
    go_wp2
    go_ret
    exact ⟨rfl, Dr.refl _⟩
set_option maxRecDepth 8000 in
set_option maxHeartbeats 400000 in
theorem refRight_some (s : ByteArray) (w : World) (h1 : 1 ≤ s.size) (h16 : s.size ≤ 16) :
    Calls Try.prog 49 #[.string s] w fun e w' => e = .returned (.bool (NM.right s)) ∧ Dr w w' := by
  have hb0 := @NM.byte_at s 0 (by omega)
  have h0 : 0 < s.size := by omega
  have e : NM.right s = (NM.lett (s.data.toList.getD 0 0).toNat && NM.tailOk s) := by
    unfold NM.right
    rw [decide_eq_true h1, decide_eq_true h16, Bool.true_and, Bool.true_and]
  rw [e, hb0]
  have HB0 := Lib.hid hb0; clear e hb0
  cases hl : NM.lett s[0].toNat
  · have HL := Lib.hid hl; clear hl
    go_enter Try.func49, Try.ntmps49
    go_wp2_with (go_at_call 79; refine (refLetter_any _ _).mono ?_; rintro e w' ⟨rfl, rfl⟩; rw [HL.out])
    go_ret
    exact ⟨rfl, Dr.refl _⟩
  · have HL := Lib.hid hl; clear hl
    rw [Bool.true_and]
    go_enter Try.func49, Try.ntmps49
    go_wp2_with (go_at_call 79; refine (refLetter_any _ _).mono ?_; rintro e w' ⟨rfl, rfl⟩; rw [HL.out])
    go_loopw [3] (fun iv wr => ∃ i : Nat, 1 ≤ i ∧ i ≤ s.size ∧ iv = .int .i64 i ∧ Hid (∀ j, j < i → 1 ≤ j → NM.innr (s.data.toList.getD j 0).toNat = true) ∧ Dr w wr) (fun iv _ => s.size - (intOf iv).toNat)
    case atStart => exact ⟨1, by omega, by omega, rfl, fun j hj => by omega, Dr.refl w⟩
    case round =>
      obtain ⟨i, hi1, hi2, rfl, HI, hd⟩ := hrel
      by_cases hlt : i < s.size
      · have HB := Lib.hid (@NM.byte_at s i hlt)
        have HNEXT : Hid (NM.innr s[i].toNat = true → ∀ j, j < i + 1 → 1 ≤ j → NM.innr (s.data.toList.getD j 0).toNat = true) := by
          show NM.innr s[i].toNat = true → ∀ j, j < i + 1 → 1 ≤ j → NM.innr (s.data.toList.getD j 0).toNat = true
          intro h j hj h1
          by_cases hji : j = i
          · rw [hji, HB.out]; exact h
          · exact HI.out j (by omega) h1
        have HSTOP : Hid (NM.innr s[i].toNat = false → NM.tailOk s = false) := by
          show NM.innr s[i].toNat = false → NM.tailOk s = false
          intro h
          unfold NM.tailOk
          rw [decide_eq_false_iff_not]
          intro H
          have := H i hlt hi1
          rw [HB.out, h] at this
          cases this
        cases hl : NM.lett s[i].toNat
        · have hin : NM.innr s[i].toNat = (decide (48 ≤ s[i].toNat) && decide (s[i].toNat ≤ 57) || decide (s[i].toNat = 95)) := by unfold NM.innr; rw [hl, Bool.false_or]
          have HLI := Lib.hid hl; clear hl
          by_cases h5 : 48 ≤ s[i].toNat ∧ s[i].toNat ≤ 57
          · obtain ⟨h5a, h5b⟩ := h5
            have hyes : NM.innr s[i].toNat = true := by rw [hin, decide_eq_true h5a, decide_eq_true h5b]; rfl
            have HN := Lib.hid (HNEXT.out hyes); clear hyes hin
            go_wp2_with (go_at_call 79; refine (refLetter_any _ _).mono ?_; rintro e w' ⟨rfl, rfl⟩; rw [HLI.out])
            go_roundw
            case rel => exact ⟨i + 1, by omega, by omega, by go_num, HN.out, hd⟩
            case measure => simp [intOf]; omega
          · by_cases h6 : s[i].toNat = 95
            · have hyes : NM.innr s[i].toNat = true := by rw [hin, decide_eq_true h6, Bool.or_true]
              have HN := Lib.hid (HNEXT.out hyes); clear hyes hin
              have h7 : ((s[i].toNat : Int) != 95) = false := by simp; omega
              have h8 : 57 < s[i].toNat := by omega
              clear h5 h6
              go_wp2_with (go_at_call 79; refine (refLetter_any _ _).mono ?_; rintro e w' ⟨rfl, rfl⟩; rw [HLI.out])
              go_roundw
              case rel => exact ⟨i + 1, by omega, by omega, by go_num, HN.out, hd⟩
              case measure => simp [intOf]; omega
            · have hno : NM.innr s[i].toNat = false := by
                rw [hin, decide_eq_false h6, Bool.or_false]
                by_cases h9 : 48 ≤ s[i].toNat
                · rw [decide_eq_false (show ¬ s[i].toNat ≤ 57 by omega), Bool.and_false]
                · rw [decide_eq_false h9, Bool.false_and]
              have HN := Lib.hid (HSTOP.out hno); clear hno hin
              have h7 : ((s[i].toNat : Int) != 95) = true := by simp; omega
              have h8 : s[i].toNat < 48 ∨ 57 < s[i].toNat := by omega
              clear h5 h6
              rcases h8 with h8 | h8
              all_goals
                go_wp2_with (go_at_call 79; refine (refLetter_any _ _).mono ?_; rintro e w' ⟨rfl, rfl⟩; rw [HLI.out])
                go_ret
                exact ⟨ret_eq (bool_eq HN.out.symm), hd⟩
        · have hyes : NM.innr s[i].toNat = true := by unfold NM.innr; rw [hl]; rfl
          have HLI := Lib.hid hl; clear hl
          have HN := Lib.hid (HNEXT.out hyes); clear hyes
          go_wp2_with (go_at_call 79; refine (refLetter_any _ _).mono ?_; rintro e w' ⟨rfl, rfl⟩; rw [HLI.out])
          go_roundw
          case rel => exact ⟨i + 1, by omega, by omega, by go_num, HN.out, hd⟩
          case measure => simp [intOf]; omega
      · go_wp2
        go_ret
        refine ⟨ret_eq (bool_eq (decide_eq_true fun j hj h1 => HI.out j (by omega) h1).symm), hd⟩
set_option maxRecDepth 8000 in
theorem refRight_any (s : ByteArray) (w : World) :
    Calls Try.prog 49 #[.string s] w fun e w' => e = .returned (.bool (NM.right s)) ∧ Dr w w' := by
  by_cases h : 1 ≤ s.size ∧ s.size ≤ 16
  · exact refRight_some s w h.1 h.2
  · exact refRight_none s w (by omega)
end Go.Proofs.Ytapnefhmonpgdaa

/-
  What the functions of package name return on lists, and the document's answers. Conditions: lists below 2^32 strings.
-/
namespace Go.Proofs.Ytapnefhmonpgdaa
open Go.RowKit

/-- The cells of a list of strings. -/
def scells (xs : List ByteArray) : List Value := xs.map Value.string
/-- A slice that reads as this list. -/
def Strs (w : World) (A : Option Addr) (xs : List ByteArray) : Prop := Sl w w.heap.size A (scells xs)
set_option maxRecDepth 8000 in
theorem Strs.below {w w' : World} {A : Option Addr} {xs : List ByteArray} (h : Strs w A xs) (hb : Below w.heap.size w w') : Strs w' A xs := (Sl.below h hb).mono hb.size
set_option maxRecDepth 8000 in
theorem Strs.dr {w w' : World} {A : Option Addr} {xs : List ByteArray} (h : Strs w A xs) (hb : Dr w w') : Strs w' A xs := h.below hb.below
set_option maxRecDepth 8000 in
theorem Strs.at {w : World} {A : Option Addr} {xs : List ByteArray} (h : Strs w A xs) {k : Nat} (hk : k < xs.length) :
    ∃ b o, A = some ⟨b, o, none⟩ ∧ ∀ j, j < xs.length → w.cell? ⟨b, o + j, none⟩ = some (.string (xs.getD j ⟨#[]⟩)) := by
  obtain ⟨b, o, hA, _, hc⟩ := h (by unfold scells; intro e; rw [List.map_eq_nil_iff] at e; subst e; simp at hk)
  refine ⟨b, o, hA, fun j hj => hc j _ ?_⟩
  unfold scells
  rw [List.getElem?_map, List.getD_eq_getElem?_getD, List.getElem?_eq_getElem hj]
  rfl
/-- The first place of a string in a list. -/
def idx (xs : List ByteArray) (s : ByteArray) : Int := NM.fst (fun j => decide (xs.getD j ⟨#[]⟩ = s)) xs.length

/-- Are two lists one? -/
def diff (xs ys : List ByteArray) (j : Nat) : Bool := !decide (xs.getD j ⟨#[]⟩ = ys.getD j ⟨#[]⟩)
def same (xs ys : List ByteArray) : Bool := decide (xs = ys)
set_option maxRecDepth 8000 in
theorem same_len {xs ys : List ByteArray} (h : xs.length ≠ ys.length) : same xs ys = false := by
  unfold same
  rw [decide_eq_false_iff_not]; intro e; rw [e] at h; exact h rfl
set_option maxRecDepth 8000 in
theorem same_fst {xs ys : List ByteArray} (h : xs.length = ys.length) : decide (NM.fst (diff xs ys) xs.length < 0) = same xs ys := by
  rw [NM.fst_neg]
  unfold same
  rw [decide_eq_decide]
  constructor
  · intro H
    refine List.ext_getElem h fun i h1 h2 => ?_
    have := H i h1
    unfold diff at this
    simp only [List.getD_eq_getElem?_getD, List.getElem?_eq_getElem h1, List.getElem?_eq_getElem h2, Option.getD_some, Bool.not_eq_false', decide_eq_true_eq] at this
    exact this
  · rintro rfl j hj
    unfold diff
    simp
end Go.Proofs.Ytapnefhmonpgdaa

/-
  What Twice returns, which counts in a map, and the document's answer. Conditions: lists below 2^32 strings, strings below 2^32 bytes.
-/
namespace Go.Proofs.Ytapnefhmonpgdaa
open Go.RowKit Go.Maps

set_option maxRecDepth 8000 in
theorem lawStr : Keyed Try.prog 9 := string_keyed Try.underlying9
set_option maxRecDepth 8000 in
theorem zeroInt (w : World) : (zeroValue 3).run Try.prog w = .ok (.int .i64 0) w := by kernel_rfl
/-- Block B is a map that holds at each string the number f of it. -/
def Cnt (W : World) (B n : Nat) (f : ByteArray → Nat) : Prop :=
  ∃ D : DataW Unit, W.ownsMap Try.prog 9 (plainElem Try.prog 3) B n D ∧ IsMap D ∧ ∀ s : ByteArray, s.size ≤ maxLen → D.atKey (.string s.data.toList) (.lit (.int .i64 0)) = .lit (.int .i64 (f s))
section
variable {W W' : World} {B n : Nat} {f : ByteArray → Nat}
set_option maxRecDepth 8000 in
theorem Cnt.kept {row : Option Nat} (h : Cnt W B n f) (hg : W.grownBy W' row) (hne : some B ≠ row) : Cnt W' B n f := by
  obtain ⟨D, h1, h2, h3⟩ := h
  exact ⟨D, h1.kept hg hne, h2, h3⟩
set_option maxRecDepth 8000 in
theorem Cnt.drewN (h : Cnt W B n f) (m : Nat) : Cnt (W.drewN m) B n f := h
set_option maxRecDepth 8000 in
theorem Cnt.drew (h : Cnt W B n f) : Cnt W.drew B n f := h
set_option maxRecDepth 8000 in
theorem Cnt.lt (h : Cnt W B n f) : B < W.heap.size := by
  obtain ⟨D, h1, _⟩ := h
  exact h1.lt
set_option maxRecDepth 8000 in
theorem Cnt.new (w : World) : Cnt (w.alloc (.map #[] 0)) w.heap.size 0 (fun _ => 0) :=
  ⟨.map [], World.ownsMap_made _ _ _ _, isMap_empty, fun _ _ => rfl⟩
end
/-- How often a string stands among the first j. -/
def sct (xs : List ByteArray) (j : Nat) (s : ByteArray) : Nat := (xs.take j).countP fun x => decide (x = s)
set_option maxRecDepth 8000 in
theorem sct_zero (xs : List ByteArray) : sct xs 0 = fun _ => 0 := by funext s; rfl
set_option maxRecDepth 8000 in
theorem sct_succ (xs : List ByteArray) (j : Nat) (hj : j < xs.length) (s : ByteArray) : sct xs (j + 1) s = if s = xs.getD j ⟨#[]⟩ then sct xs j (xs.getD j ⟨#[]⟩) + 1 else sct xs j s := by
  have e : xs.getD j ⟨#[]⟩ = xs[j] := by rw [List.getD_eq_getElem?_getD, List.getElem?_eq_getElem hj]; rfl
  rw [e]
  unfold sct
  rw [List.take_succ_eq_append_getElem hj, List.countP_append, List.countP_singleton]
  by_cases h : s = xs[j]
  · subst h; simp
  · rw [if_neg h, if_neg (by rw [decide_eq_true_eq]; exact fun e => h e.symm)]; rfl
set_option maxRecDepth 8000 in
theorem sct_le (xs : List ByteArray) (j : Nat) (s : ByteArray) : sct xs j s ≤ j := by
  unfold sct
  exact Nat.le_trans List.countP_le_length (by rw [List.length_take]; omega)
/-- Does it stand among those before? -/
def twice (xs : List ByteArray) (j : Nat) : Bool := decide (idx xs (xs.getD j ⟨#[]⟩) < j)
set_option maxRecDepth 8000 in
theorem twice_sct (xs : List ByteArray) (j : Nat) (hj : j < xs.length) : twice xs j = decide (1 < sct xs j (xs.getD j ⟨#[]⟩) + 1) := by
  unfold twice
  rw [decide_eq_decide]
  have hc : 1 < sct xs j (xs.getD j ⟨#[]⟩) + 1 ↔ xs.getD j ⟨#[]⟩ ∈ xs.take j := by
    unfold sct
    have h := List.countP_pos_iff (p := fun x => decide (x = xs.getD j ⟨#[]⟩)) (l := xs.take j)
    constructor
    · intro h1
      obtain ⟨a, ha, hp⟩ := h.1 (by omega)
      rw [decide_eq_true_eq] at hp
      rw [← hp]; exact ha
    · intro h1
      have := h.2 ⟨_, h1, decide_eq_true rfl⟩
      omega
  rw [hc]
  unfold idx
  rcases NM.fst_cases (fun i => decide (xs.getD i ⟨#[]⟩ = xs.getD j ⟨#[]⟩)) xs.length with ⟨k, hk, e, hp, h0⟩ | ⟨e, h0⟩
  · rw [e]
    constructor
    · intro h
      rw [List.mem_iff_getElem]
      have hp2 : xs.getD k ⟨#[]⟩ = xs.getD j ⟨#[]⟩ := by simpa using hp
      refine ⟨k, by rw [List.length_take]; omega, ?_⟩
      rw [List.getElem_take, ← hp2, List.getD_eq_getElem?_getD, List.getElem?_eq_getElem hk]; rfl
    · intro h
      rw [List.mem_iff_getElem] at h
      obtain ⟨i, hi, he⟩ := h
      rw [List.length_take] at hi
      rw [List.getElem_take] at he
      rcases Nat.lt_or_ge i k with h1 | h1
      · have := h0 i h1
        rw [List.getD_eq_getElem?_getD, List.getElem?_eq_getElem (show i < xs.length by omega)] at this
        simp [he] at this
      · omega
  · exact absurd (h0 j hj) (by simp)
/-- The first that stands twice. -/
def twc (xs : List ByteArray) : Int := NM.fst (twice xs) xs.length

/-- Is something longer than what the statements look at? -/
def longB (xs : List ByteArray) : Bool := decide (60 < xs.length) || xs.any fun x => decide (200 < x.size)
set_option maxRecDepth 8000 in
theorem longB_no {xs : List ByteArray} (h : longB xs = false) : xs.length ≤ 60 ∧ ∀ x ∈ xs, x.size ≤ 200 := by
  unfold longB at h
  simp only [Bool.or_eq_false_iff, decide_eq_false_iff_not, List.any_eq_false, decide_eq_true_eq] at h
  exact ⟨by omega, fun x hx => by have := h.2 x hx; omega⟩
end Go.Proofs.Ytapnefhmonpgdaa

/-
  Plain words on sorting: the strings of a list in strictly ascending order. Conditions: none.
-/
namespace Go.Proofs.Ytapnefhmonpgdaa
namespace NM

set_option maxRecDepth 8000 in
theorem l_irrefl (a : List UInt8) : ¬ a < a := List.lt_irrefl a
set_option maxRecDepth 8000 in
theorem l_trans {a b c : List UInt8} (h : a < b) (h2 : b < c) : a < c := List.lt_trans h h2
set_option maxRecDepth 8000 in
theorem l_asymm {a b : List UInt8} (h : a < b) : ¬ b < a := fun h2 => l_irrefl a (l_trans h h2)
set_option maxRecDepth 8000 in
theorem l_tri (a b : List UInt8) : a < b ∨ a = b ∨ b < a := by
  rcases Decidable.em (a < b) with h | h
  · exact .inl h
  · rcases Decidable.em (b < a) with h2 | h2
    · exact .inr (.inr h2)
    · exact .inr (.inl (List.le_antisymm (List.not_lt.1 h2) (List.not_lt.1 h)))
set_option maxRecDepth 8000 in
theorem l_lt_of_le_ne {a b : List UInt8} (h : a ≤ b) (hne : a ≠ b) : a < b := by
  rcases l_tri a b with h1 | h1 | h1
  · exact h1
  · exact absurd h1 hne
  · exact absurd h1 (List.not_lt.2 h)
set_option maxRecDepth 8000 in
theorem l_le_lt {a b c : List UInt8} (h : a ≤ b) (h2 : b < c) : a < c := by
  rcases l_tri a b with h1 | h1 | h1
  · exact l_trans h1 h2
  · rw [h1]; exact h2
  · exact absurd h1 (List.not_lt.2 h)

/-- The bytes' lists in strictly ascending order. -/
def srtL (ls : List (List UInt8)) : List (List UInt8) := Lib.compact (ls.mergeSort fun x y => decide (x ≤ y))
set_option maxRecDepth 8000 in
theorem sorted_of (ls : List (List UInt8)) : (ls.mergeSort fun x y => decide (x ≤ y)).Pairwise (· ≤ ·) := by
  have h := List.pairwise_mergeSort (le := fun x y : List UInt8 => decide (x ≤ y)) (fun a b c h1 h2 => by
    simp only [decide_eq_true_eq] at *
    exact List.le_trans h1 h2) (fun a b => by
    simp only [Bool.or_eq_true, decide_eq_true_eq]
    exact List.le_total a b) ls
  exact h.imp (by intro a b h; simpa using h)
set_option maxRecDepth 8000 in
theorem compact_rises {l : List (List UInt8)} (h : l.Pairwise (· ≤ ·)) : (Lib.compact l).Pairwise (· < ·) := by
  unfold Lib.compact Lib.compactUpTo
  rw [List.pairwise_map, List.pairwise_filter]
  have hr : (List.range l.length).Pairwise (fun a b => a < b ∧ b < l.length) := by
    refine (List.pairwise_iff_getElem.2 fun i j hi hj hij => ?_)
    rw [List.getElem_range, List.getElem_range]
    rw [List.length_range] at hj
    exact ⟨hij, hj⟩
  refine hr.imp ?_
  rintro i j ⟨hij, hj⟩ _ hk
  unfold Lib.keeps at hk
  simp only [decide_eq_true_eq] at hk
  have hp := List.pairwise_iff_getElem.1 h
  have e1 : l.toArray[i]! = l[i] := by simp [show i < l.length by omega]
  have e2 : l.toArray[j]! = l[j] := by simp [hj]
  have e3 : l.toArray[j - 1]! = l[j - 1]'(by omega) := by simp [show j - 1 < l.length by omega]
  rcases hk with hk | hk
  · omega
  · rw [e2, e3] at hk
    show l.toArray[i]! < l.toArray[j]!
    rw [e1, e2]
    have h2 : l[j - 1]'(by omega) < l[j] := l_lt_of_le_ne (hp (j - 1) j (by omega) hj (by omega)) (fun e => hk e.symm)
    by_cases hij2 : i = j - 1
    · subst hij2; exact h2
    · exact l_le_lt (hp i (j - 1) (by omega) (by omega) (by omega)) h2
set_option maxRecDepth 8000 in
theorem compact_mem {l : List (List UInt8)} (x : List UInt8) : x ∈ Lib.compact l ↔ x ∈ l := by
  unfold Lib.compact Lib.compactUpTo
  simp only [List.mem_map, List.mem_filter, List.mem_range]
  constructor
  · rintro ⟨j, ⟨hj, _⟩, rfl⟩
    have e2 : l.toArray[j]! = l[j] := by simp [hj]
    rw [e2]; exact List.getElem_mem hj
  · intro hx
    obtain ⟨j, hj, rfl⟩ := List.mem_iff_getElem.1 hx
    clear hx
    induction j with
    | zero => exact ⟨0, ⟨hj, by simp [Lib.keeps]⟩, by simp [hj]⟩
    | succ j ih =>
      by_cases he : l[j + 1] = l[j]
      · rw [he]; exact ih (by omega)
      · refine ⟨j + 1, ⟨hj, ?_⟩, by simp [hj]⟩
        unfold Lib.keeps
        simp only [decide_eq_true_eq]
        right
        have e2 : l.toArray[j + 1]! = l[j + 1] := by simp [hj]
        have e3 : l.toArray[j + 1 - 1]! = l[j] := by simp [show j < l.length by omega]
        rw [e2, e3]; exact he
set_option maxRecDepth 8000 in
theorem srtL_rises (ls : List (List UInt8)) : (srtL ls).Pairwise (· < ·) := compact_rises (sorted_of ls)
set_option maxRecDepth 8000 in
theorem srtL_mem (ls : List (List UInt8)) (x : List UInt8) : x ∈ srtL ls ↔ x ∈ ls := by
  unfold srtL
  rw [compact_mem]
  exact (List.mergeSort_perm ls _).mem_iff
set_option maxRecDepth 8000 in
/-- A rising list is fixed by what it holds. -/
theorem rises_ext : ∀ {a b : List (List UInt8)}, a.Pairwise (· < ·) → b.Pairwise (· < ·) → (∀ x, x ∈ a ↔ x ∈ b) → a = b
  | [], [], _, _, _ => rfl
  | [], y :: b, _, _, h => by have := (h y).2 (by simp); cases this
  | x :: a, [], _, _, h => by have := (h x).1 (by simp); cases this
  | x :: a, y :: b, ha, hb, h => by
    rw [List.pairwise_cons] at ha hb
    have hxy : x = y := by
      have h1 := (h x).1 (by simp)
      have h2 := (h y).2 (by simp)
      rw [List.mem_cons] at h1 h2
      rcases h1 with h1 | h1
      · exact h1
      · rcases h2 with h2 | h2
        · exact h2.symm
        · exact absurd (hb.1 x h1) (l_asymm (ha.1 y h2))
    subst hxy
    congr 1
    refine rises_ext ha.2 hb.2 fun z => ?_
    constructor
    · intro hz
      have := (h z).1 (by simp [hz])
      rw [List.mem_cons] at this
      rcases this with e | this
      · subst e; exact absurd (ha.1 z hz) (l_irrefl z)
      · exact this
    · intro hz
      have := (h z).2 (by simp [hz])
      rw [List.mem_cons] at this
      rcases this with e | this
      · subst e; exact absurd (hb.1 z hz) (l_irrefl z)
      · exact this

def bl (s : ByteArray) : List UInt8 := s.data.toList
def lb (l : List UInt8) : ByteArray := ⟨l.toArray⟩
set_option maxRecDepth 8000 in
theorem lb_bl (s : ByteArray) : lb (bl s) = s := rfl
set_option maxRecDepth 8000 in
theorem bl_lb (l : List UInt8) : bl (lb l) = l := rfl
set_option maxRecDepth 8000 in
theorem bl_inj {a b : ByteArray} (h : bl a = bl b) : a = b := by rw [← lb_bl a, ← lb_bl b, h]
set_option maxRecDepth 8000 in
theorem less_lt (a b : ByteArray) : less a b = decide (bl a < bl b) := by
  unfold less
  rw [Go.Proofs.bytesLess_eq, Lib.toList_data, Lib.toList_data]
  rfl
/-- The strings of a list in strictly ascending order. -/
def srt (xs : List ByteArray) : List ByteArray := (srtL (xs.map bl)).map lb
set_option maxRecDepth 8000 in
theorem srt_mem (xs : List ByteArray) (x : ByteArray) : x ∈ srt xs ↔ x ∈ xs := by
  unfold srt
  rw [List.mem_map]
  constructor
  · rintro ⟨l, hl, rfl⟩
    rw [srtL_mem, List.mem_map] at hl
    obtain ⟨y, hy, rfl⟩ := hl
    exact hy
  · intro h
    exact ⟨bl x, (srtL_mem _ _).2 (List.mem_map.2 ⟨x, h, rfl⟩), rfl⟩
set_option maxRecDepth 8000 in
theorem srt_rises (xs : List ByteArray) : (srt xs).Pairwise (fun a b => less a b = true) := by
  unfold srt
  rw [List.pairwise_map]
  refine (srtL_rises _).imp ?_
  intro a b h
  rw [less_lt]
  exact decide_eq_true h
set_option maxRecDepth 8000 in
theorem rises_eq {a b : List ByteArray} (ha : a.Pairwise (fun a b => less a b = true)) (hb : b.Pairwise (fun a b => less a b = true)) (h : ∀ x, x ∈ a ↔ x ∈ b) : a = b := by
  have hm : a.map bl = b.map bl := by
    refine rises_ext (List.pairwise_map.2 (ha.imp ?_)) (List.pairwise_map.2 (hb.imp ?_)) fun x => ?_
    · intro a b h; rw [less_lt] at h; exact of_decide_eq_true h
    · intro a b h; rw [less_lt] at h; exact of_decide_eq_true h
    · rw [List.mem_map, List.mem_map]
      exact ⟨fun ⟨y, hy, e⟩ => ⟨y, (h y).1 hy, e⟩, fun ⟨y, hy, e⟩ => ⟨y, (h y).2 hy, e⟩⟩
  exact List.map_inj_right (fun _ _ => bl_inj) |>.1 hm
set_option maxRecDepth 8000 in
theorem srt_fix (xs : List ByteArray) : srt (srt xs) = srt xs := rises_eq (srt_rises _) (srt_rises _) fun x => srt_mem _ x
set_option maxRecDepth 8000 in
theorem srt_len (xs : List ByteArray) : (srt xs).length ≤ xs.length := by
  unfold srt srtL Lib.compact Lib.compactUpTo
  rw [List.length_map, List.length_map]
  refine Nat.le_trans (List.length_filter_le _ _) ?_
  rw [List.length_range, List.length_mergeSort, List.length_map]
  exact Nat.le_refl _
set_option maxRecDepth 8000 in
theorem less_irrefl (a : ByteArray) : less a a = false := by rw [less_lt]; exact decide_eq_false (l_irrefl _)
set_option maxRecDepth 8000 in
theorem less_trans {a b c : ByteArray} (h : less a b = true) (h2 : less b c = true) : less a c = true := by
  rw [less_lt] at *
  exact decide_eq_true (l_trans (of_decide_eq_true h) (of_decide_eq_true h2))
set_option maxRecDepth 8000 in
theorem less_asymm {a b : ByteArray} (h : less a b = true) : less b a = false := by
  rw [less_lt] at *
  exact decide_eq_false (l_asymm (of_decide_eq_true h))
set_option maxRecDepth 8000 in
theorem less_tri (a b : ByteArray) : (less a b = true ∧ less b a = false ∧ a ≠ b) ∨ (less a b = false ∧ less b a = false ∧ a = b) ∨ (less a b = false ∧ less b a = true ∧ a ≠ b) := by
  rcases l_tri (bl a) (bl b) with h | h | h
  · refine .inl ⟨by rw [less_lt]; exact decide_eq_true h, by rw [less_lt]; exact decide_eq_false (l_asymm h), fun e => ?_⟩
    rw [e] at h; exact l_irrefl _ h
  · have e := bl_inj h
    subst e
    exact .inr (.inl ⟨less_irrefl _, less_irrefl _, rfl⟩)
  · refine .inr (.inr ⟨by rw [less_lt]; exact decide_eq_false (l_asymm h), by rw [less_lt]; exact decide_eq_true h, fun e => ?_⟩)
    rw [e] at h; exact l_irrefl _ h
set_option maxRecDepth 8000 in
theorem srt_nodup (xs : List ByteArray) : (srt xs).Nodup := (srt_rises xs).imp fun {a b} h e => by rw [e, less_irrefl] at h; cases h
end NM
end Go.Proofs.Ytapnefhmonpgdaa
