/-
  Plain words of layer 2: the first number of a range, bytes, names, the order of strings. Conditions: none.
-/
import Derived.WalkKit
import Derived.Sort.Walk0
namespace Go.Proofs.Ytjmhnbokojkceaa
namespace NM

/-- The first number below n for which p is true, or -1. -/
def fst (p : Nat → Bool) (n : Nat) : Int := match (List.range n).find? p with | some j => j | none => -1
theorem fst_hit {p : Nat → Bool} {n k : Nat} (hk : k < n) (h : p k = true) (h0 : ∀ j, j < k → p j = false) : fst p n = k := by
  have : (List.range n).find? p = some k := by
    rw [List.find?_range_eq_some]
    refine ⟨h, List.mem_range.2 hk, fun j hj => by rw [h0 j hj]; rfl⟩
  unfold fst; rw [this]
theorem fst_miss {p : Nat → Bool} {n : Nat} (h0 : ∀ j, j < n → p j = false) : fst p n = -1 := by
  have : (List.range n).find? p = none := by
    rw [List.find?_eq_none]
    intro j hj
    rw [h0 j (List.mem_range.1 hj)]; simp
  unfold fst; rw [this]
theorem fst_cases (p : Nat → Bool) (n : Nat) : (∃ k, k < n ∧ fst p n = k ∧ p k = true ∧ ∀ j, j < k → p j = false) ∨ (fst p n = -1 ∧ ∀ j, j < n → p j = false) := by
  cases h : (List.range n).find? p with
  | some k =>
    rw [List.find?_range_eq_some] at h
    have hk := List.mem_range.1 h.2.1
    have h0 : ∀ j, j < k → p j = false := fun j hj => by have := h.2.2 j hj; simpa using this
    exact .inl ⟨k, hk, fst_hit hk h.1 h0, h.1, h0⟩
  | none =>
    rw [List.find?_eq_none] at h
    have h0 : ∀ j, j < n → p j = false := fun j hj => by have := h j (List.mem_range.2 hj); simpa using this
    exact .inr ⟨fst_miss h0, h0⟩
theorem fst_congr {p q : Nat → Bool} {n : Nat} (h : ∀ j, j < n → p j = q j) : fst p n = fst q n := by
  rcases fst_cases p n with ⟨k, hk, e, hp, h0⟩ | ⟨e, h0⟩
  · rw [e, fst_hit hk (by rw [← h k hk]; exact hp) (fun j hj => by rw [← h j (by omega)]; exact h0 j hj)]
  · rw [e, fst_miss (fun j hj => by rw [← h j hj]; exact h0 j hj)]
theorem fst_bd (p : Nat → Bool) (n : Nat) : -1 ≤ fst p n ∧ fst p n < n := by
  rcases fst_cases p n with ⟨k, hk, e, _⟩ | ⟨e, _⟩ <;> omega
theorem fst_neg {p : Nat → Bool} {n : Nat} : decide (fst p n < 0) = decide (∀ j, j < n → p j = false) := by
  rcases fst_cases p n with ⟨k, hk, e, hp, _⟩ | ⟨e, h0⟩
  · have h1 : ¬ (fst p n < 0) := by omega
    have h2 : ¬ (∀ j, j < n → p j = false) := fun h => by rw [h k hk] at hp; cases hp
    rw [decide_eq_false h1, decide_eq_false h2]
  · have h1 : fst p n < 0 := by omega
    rw [decide_eq_true h1, decide_eq_true h0]

def lett (c : Nat) : Bool := decide (97 ≤ c) && decide (c ≤ 122)
def innr (c : Nat) : Bool := lett c || (decide (48 ≤ c) && decide (c ≤ 57)) || decide (c = 95)

theorem str_eq (x y : ByteArray) : (x.toList == y.toList) = decide (x = y) := by
  rw [Lib.toList_data, Lib.toList_data, Bool.eq_iff_iff]
  simp only [beq_iff_eq, decide_eq_true_eq]
  constructor
  · intro h
    cases x; cases y
    simp only [ByteArray.mk.injEq]
    exact Array.toList_inj.1 h
  · rintro rfl; rfl
/-- The order of strings. -/
def less (a b : ByteArray) : Bool := Op.bytesLess a.toList b.toList
theorem bytesLess_app : ∀ (p x y : List UInt8), Op.bytesLess (p ++ x) (p ++ y) = Op.bytesLess x y
  | [], _, _ => rfl
  | c :: p, x, y => by
    simp only [List.cons_append, Op.bytesLess, bytesLess_app p x y, beq_self_eq_true, Bool.true_and]
    have : ¬ (c < c) := by simp
    simp
theorem less_at {a b : ByteArray} {i : Nat} (ha : i < a.size) (hb : i < b.size) (h : a.data.toList.take i = b.data.toList.take i) (hne : a[i].toNat ≠ b[i].toNat) : less a b = decide (a[i].toNat < b[i].toNat) := by
  unfold less
  rw [Lib.toList_data, Lib.toList_data]
  have ea : a.data.toList = a.data.toList.take i ++ a[i] :: a.data.toList.drop (i + 1) := by
    have h1 : i < a.data.toList.length := by simpa using ha
    conv => lhs; rw [← List.take_append_drop i a.data.toList, List.drop_eq_getElem_cons h1]
    rfl
  have eb : b.data.toList = b.data.toList.take i ++ b[i] :: b.data.toList.drop (i + 1) := by
    have h1 : i < b.data.toList.length := by simpa using hb
    conv => lhs; rw [← List.take_append_drop i b.data.toList, List.drop_eq_getElem_cons h1]
    rfl
  rw [ea, eb, h, bytesLess_app]
  have hne2 : (a[i] == b[i]) = false := by
    rw [beq_eq_false_iff_ne]; intro h; rw [h] at hne; exact hne rfl
  simp only [Op.bytesLess, hne2, Bool.false_and, Bool.or_false]
  rfl
theorem less_end {a b : ByteArray} {i : Nat} (ha : i ≤ a.size) (hb : i ≤ b.size) (h : a.data.toList.take i = b.data.toList.take i) (he : i = a.size ∨ i = b.size) : less a b = decide (a.size < b.size) := by
  unfold less
  rw [Lib.toList_data, Lib.toList_data]
  rw [← List.take_append_drop i a.data.toList, ← List.take_append_drop i b.data.toList, h, bytesLess_app]
  have la : (a.data.toList.drop i).length = a.size - i := by simp
  have lb : (b.data.toList.drop i).length = b.size - i := by simp
  rcases Nat.lt_or_ge i b.size with h1 | h1
  · have ea : i = a.size := by omega
    have e1 : a.data.toList.drop i = [] := List.eq_nil_of_length_eq_zero (by omega)
    rw [e1]
    cases hd : b.data.toList.drop i with
    | nil => rw [hd] at lb; simp at lb; omega
    | cons c l => simp only [Op.bytesLess]; rw [eq_comm, decide_eq_true_eq]; omega
  · have e1 : b.data.toList.drop i = [] := List.eq_nil_of_length_eq_zero (by omega)
    rw [e1]
    have : decide (a.size < b.size) = false := by rw [decide_eq_false_iff_not]; omega
    rw [this]
    cases a.data.toList.drop i <;> rfl
theorem take_more {a b : ByteArray} {i : Nat} (ha : i < a.size) (hb : i < b.size) (h : a.data.toList.take i = b.data.toList.take i) (he : a[i].toNat = b[i].toNat) : a.data.toList.take (i + 1) = b.data.toList.take (i + 1) := by
  have h1 : i < a.data.toList.length := by simpa using ha
  have h2 : i < b.data.toList.length := by simpa using hb
  rw [List.take_succ_eq_append_getElem h1, List.take_succ_eq_append_getElem h2, h]
  have : a[i] = b[i] := UInt8.toNat_inj.1 he
  exact congrArg (fun c => _ ++ [c]) this

def tailOk (s : ByteArray) : Bool := decide (∀ j, j < s.size → 1 ≤ j → innr (s.data.toList.getD j 0).toNat = true)
/-- Is it a name? -/
def right (s : ByteArray) : Bool := decide (1 ≤ s.size) && decide (s.size ≤ 16) && lett (s.data.toList.getD 0 0).toNat && tailOk s
theorem byte_at {s : ByteArray} {i : Nat} (h : i < s.size) : (s.data.toList.getD i 0) = s[i] := by
  have h1 : i < s.data.toList.length := by simpa using h
  rw [List.getD_eq_getElem?_getD, List.getElem?_eq_getElem h1]; rfl
end NM
end Go.Proofs.Ytjmhnbokojkceaa
