/-
  Plain words on sorting: the strings of a list in strictly ascending order. Conditions: none.
-/
import Derived.Test.YtjmhnbokojkceaaNameMath
import Derived.Lib.SlicesCompact
namespace Go.Proofs.Ytjmhnbokojkceaa
namespace NM

theorem l_irrefl (a : List UInt8) : ¬ a < a := List.lt_irrefl a
theorem l_trans {a b c : List UInt8} (h : a < b) (h2 : b < c) : a < c := List.lt_trans h h2
theorem l_asymm {a b : List UInt8} (h : a < b) : ¬ b < a := fun h2 => l_irrefl a (l_trans h h2)
theorem l_tri (a b : List UInt8) : a < b ∨ a = b ∨ b < a := by
  rcases Decidable.em (a < b) with h | h
  · exact .inl h
  · rcases Decidable.em (b < a) with h2 | h2
    · exact .inr (.inr h2)
    · exact .inr (.inl (List.le_antisymm (List.not_lt.1 h2) (List.not_lt.1 h)))
theorem l_lt_of_le_ne {a b : List UInt8} (h : a ≤ b) (hne : a ≠ b) : a < b := by
  rcases l_tri a b with h1 | h1 | h1
  · exact h1
  · exact absurd h1 hne
  · exact absurd h1 (List.not_lt.2 h)
theorem l_le_lt {a b c : List UInt8} (h : a ≤ b) (h2 : b < c) : a < c := by
  rcases l_tri a b with h1 | h1 | h1
  · exact l_trans h1 h2
  · rw [h1]; exact h2
  · exact absurd h1 (List.not_lt.2 h)

/-- The bytes' lists in strictly ascending order. -/
def srtL (ls : List (List UInt8)) : List (List UInt8) := Lib.compact (ls.mergeSort fun x y => decide (x ≤ y))
theorem sorted_of (ls : List (List UInt8)) : (ls.mergeSort fun x y => decide (x ≤ y)).Pairwise (· ≤ ·) := by
  have h := List.pairwise_mergeSort (le := fun x y : List UInt8 => decide (x ≤ y)) (fun a b c h1 h2 => by
    simp only [decide_eq_true_eq] at *
    exact List.le_trans h1 h2) (fun a b => by
    simp only [Bool.or_eq_true, decide_eq_true_eq]
    exact List.le_total a b) ls
  exact h.imp (by intro a b h; simpa using h)
theorem compact_rises {l : List (List UInt8)} (h : l.Pairwise (· ≤ ·)) : (Lib.compact l).Pairwise (· < ·) := by
  unfold Lib.compact Lib.compactUpTo
  rw [List.pairwise_map, List.pairwise_filter]
  have hr : (List.range l.length).Pairwise (fun a b => a < b ∧ b < l.length) := by
    refine (List.pairwise_iff_getElem.2 fun i j hi hj hij => ?_)
    rw [List.getElem_range, List.getElem_range]
    rw [List.length_range] at hj
    exact ⟨hij, hj⟩
  refine hr.imp ?_
  rintro i j ⟨hij, hj⟩ _ hk
  unfold Lib.keeps at hk
  simp only [decide_eq_true_eq] at hk
  have hp := List.pairwise_iff_getElem.1 h
  have e1 : l.toArray[i]! = l[i] := by simp [show i < l.length by omega]
  have e2 : l.toArray[j]! = l[j] := by simp [hj]
  have e3 : l.toArray[j - 1]! = l[j - 1]'(by omega) := by simp [show j - 1 < l.length by omega]
  rcases hk with hk | hk
  · omega
  · rw [e2, e3] at hk
    show l.toArray[i]! < l.toArray[j]!
    rw [e1, e2]
    have h2 : l[j - 1]'(by omega) < l[j] := l_lt_of_le_ne (hp (j - 1) j (by omega) hj (by omega)) (fun e => hk e.symm)
    by_cases hij2 : i = j - 1
    · subst hij2; exact h2
    · exact l_le_lt (hp i (j - 1) (by omega) (by omega) (by omega)) h2
theorem compact_mem {l : List (List UInt8)} (x : List UInt8) : x ∈ Lib.compact l ↔ x ∈ l := by
  unfold Lib.compact Lib.compactUpTo
  simp only [List.mem_map, List.mem_filter, List.mem_range]
  constructor
  · rintro ⟨j, ⟨hj, _⟩, rfl⟩
    have e2 : l.toArray[j]! = l[j] := by simp [hj]
    rw [e2]; exact List.getElem_mem hj
  · intro hx
    obtain ⟨j, hj, rfl⟩ := List.mem_iff_getElem.1 hx
    clear hx
    induction j with
    | zero => exact ⟨0, ⟨hj, by simp [Lib.keeps]⟩, by simp [hj]⟩
    | succ j ih =>
      by_cases he : l[j + 1] = l[j]
      · rw [he]; exact ih (by omega)
      · refine ⟨j + 1, ⟨hj, ?_⟩, by simp [hj]⟩
        unfold Lib.keeps
        simp only [decide_eq_true_eq]
        right
        have e2 : l.toArray[j + 1]! = l[j + 1] := by simp [hj]
        have e3 : l.toArray[j + 1 - 1]! = l[j] := by simp [show j < l.length by omega]
        rw [e2, e3]; exact he
theorem srtL_rises (ls : List (List UInt8)) : (srtL ls).Pairwise (· < ·) := compact_rises (sorted_of ls)
theorem srtL_mem (ls : List (List UInt8)) (x : List UInt8) : x ∈ srtL ls ↔ x ∈ ls := by
  unfold srtL
  rw [compact_mem]
  exact (List.mergeSort_perm ls _).mem_iff
/-- A rising list is fixed by what it holds. -/
theorem rises_ext : ∀ {a b : List (List UInt8)}, a.Pairwise (· < ·) → b.Pairwise (· < ·) → (∀ x, x ∈ a ↔ x ∈ b) → a = b
  | [], [], _, _, _ => rfl
  | [], y :: b, _, _, h => by have := (h y).2 (by simp); cases this
  | x :: a, [], _, _, h => by have := (h x).1 (by simp); cases this
  | x :: a, y :: b, ha, hb, h => by
    rw [List.pairwise_cons] at ha hb
    have hxy : x = y := by
      have h1 := (h x).1 (by simp)
      have h2 := (h y).2 (by simp)
      rw [List.mem_cons] at h1 h2
      rcases h1 with h1 | h1
      · exact h1
      · rcases h2 with h2 | h2
        · exact h2.symm
        · exact absurd (hb.1 x h1) (l_asymm (ha.1 y h2))
    subst hxy
    congr 1
    refine rises_ext ha.2 hb.2 fun z => ?_
    constructor
    · intro hz
      have := (h z).1 (by simp [hz])
      rw [List.mem_cons] at this
      rcases this with e | this
      · subst e; exact absurd (ha.1 z hz) (l_irrefl z)
      · exact this
    · intro hz
      have := (h z).2 (by simp [hz])
      rw [List.mem_cons] at this
      rcases this with e | this
      · subst e; exact absurd (hb.1 z hz) (l_irrefl z)
      · exact this

def bl (s : ByteArray) : List UInt8 := s.data.toList
def lb (l : List UInt8) : ByteArray := ⟨l.toArray⟩
theorem lb_bl (s : ByteArray) : lb (bl s) = s := rfl
theorem bl_lb (l : List UInt8) : bl (lb l) = l := rfl
theorem bl_inj {a b : ByteArray} (h : bl a = bl b) : a = b := by rw [← lb_bl a, ← lb_bl b, h]
theorem less_lt (a b : ByteArray) : less a b = decide (bl a < bl b) := by
  unfold less
  rw [Go.Proofs.bytesLess_eq, Lib.toList_data, Lib.toList_data]
  rfl
/-- The strings of a list in strictly ascending order. -/
def srt (xs : List ByteArray) : List ByteArray := (srtL (xs.map bl)).map lb
theorem srt_mem (xs : List ByteArray) (x : ByteArray) : x ∈ srt xs ↔ x ∈ xs := by
  unfold srt
  rw [List.mem_map]
  constructor
  · rintro ⟨l, hl, rfl⟩
    rw [srtL_mem, List.mem_map] at hl
    obtain ⟨y, hy, rfl⟩ := hl
    exact hy
  · intro h
    exact ⟨bl x, (srtL_mem _ _).2 (List.mem_map.2 ⟨x, h, rfl⟩), rfl⟩
theorem srt_rises (xs : List ByteArray) : (srt xs).Pairwise (fun a b => less a b = true) := by
  unfold srt
  rw [List.pairwise_map]
  refine (srtL_rises _).imp ?_
  intro a b h
  rw [less_lt]
  exact decide_eq_true h
theorem rises_eq {a b : List ByteArray} (ha : a.Pairwise (fun a b => less a b = true)) (hb : b.Pairwise (fun a b => less a b = true)) (h : ∀ x, x ∈ a ↔ x ∈ b) : a = b := by
  have hm : a.map bl = b.map bl := by
    refine rises_ext (List.pairwise_map.2 (ha.imp ?_)) (List.pairwise_map.2 (hb.imp ?_)) fun x => ?_
    · intro a b h; rw [less_lt] at h; exact of_decide_eq_true h
    · intro a b h; rw [less_lt] at h; exact of_decide_eq_true h
    · rw [List.mem_map, List.mem_map]
      exact ⟨fun ⟨y, hy, e⟩ => ⟨y, (h y).1 hy, e⟩, fun ⟨y, hy, e⟩ => ⟨y, (h y).2 hy, e⟩⟩
  exact List.map_inj_right (fun _ _ => bl_inj) |>.1 hm
theorem srt_fix (xs : List ByteArray) : srt (srt xs) = srt xs := rises_eq (srt_rises _) (srt_rises _) fun x => srt_mem _ x
theorem srt_len (xs : List ByteArray) : (srt xs).length ≤ xs.length := by
  unfold srt srtL Lib.compact Lib.compactUpTo
  rw [List.length_map, List.length_map]
  refine Nat.le_trans (List.length_filter_le _ _) ?_
  rw [List.length_range, List.length_mergeSort, List.length_map]
  exact Nat.le_refl _
theorem less_irrefl (a : ByteArray) : less a a = false := by rw [less_lt]; exact decide_eq_false (l_irrefl _)
theorem less_trans {a b c : ByteArray} (h : less a b = true) (h2 : less b c = true) : less a c = true := by
  rw [less_lt] at *
  exact decide_eq_true (l_trans (of_decide_eq_true h) (of_decide_eq_true h2))
theorem less_asymm {a b : ByteArray} (h : less a b = true) : less b a = false := by
  rw [less_lt] at *
  exact decide_eq_false (l_asymm (of_decide_eq_true h))
theorem less_tri (a b : ByteArray) : (less a b = true ∧ less b a = false ∧ a ≠ b) ∨ (less a b = false ∧ less b a = false ∧ a = b) ∨ (less a b = false ∧ less b a = true ∧ a ≠ b) := by
  rcases l_tri (bl a) (bl b) with h | h | h
  · refine .inl ⟨by rw [less_lt]; exact decide_eq_true h, by rw [less_lt]; exact decide_eq_false (l_asymm h), fun e => ?_⟩
    rw [e] at h; exact l_irrefl _ h
  · have e := bl_inj h
    subst e
    exact .inr (.inl ⟨less_irrefl _, less_irrefl _, rfl⟩)
  · refine .inr (.inr ⟨by rw [less_lt]; exact decide_eq_false (l_asymm h), by rw [less_lt]; exact decide_eq_true h, fun e => ?_⟩)
    rw [e] at h; exact l_irrefl _ h
theorem srt_nodup (xs : List ByteArray) : (srt xs).Nodup := (srt_rises xs).imp fun {a b} h e => by rw [e, less_irrefl] at h; cases h
end NM
end Go.Proofs.Ytjmhnbokojkceaa
