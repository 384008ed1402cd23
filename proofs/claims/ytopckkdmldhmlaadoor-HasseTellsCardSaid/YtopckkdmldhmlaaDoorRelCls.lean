/-
  How many classes a relation has: the number of different rows of its closure, counted in a sorted list; when a relation is an order. Conditions: none.
-/
import Derived.Test.YtopckkdmldhmlaaDoorRelMath
import Derived.Lib.SlicesCompact
import Derived.Sort.AssemblyPlain
namespace Go.Proofs.YtopckkdmldhmlaaDoor.RM
open Go.Proofs.YtopckkdmldhmlaaDoor

/-- The first point of its class? -/
def fstB (S : Nat → Nat → Bool) (i : Nat) : Bool := (List.range i).all fun j => !(S i j && S j i)
/-- The number of classes. -/
def nCls (p : Nat) (S : Nat → Nat → Bool) : Nat := ((List.range p).filter (fstB S)).length
/-- No two points are below each other. -/
def antiB (p : Nat) (S : Nat → Nat → Bool) : Bool := (List.range p).all (fstB S)
theorem nCls_le (p : Nat) (S : Nat → Nat → Bool) : nCls p S ≤ p := by
  have := List.length_filter_le (fstB S) (List.range p)
  simpa [nCls] using this
theorem nCls_all (p : Nat) (S : Nat → Nat → Bool) : nCls p S = p ↔ antiB p S = true := by
  unfold nCls antiB
  have h := List.length_filter_eq_length_iff (p := fstB S) (l := List.range p)
  rw [List.length_range] at h
  rw [h, List.all_eq_true]

theorem row_eq {p : Nat} {S : Nat → Nat → Bool} {L : List Nat} (hL : RW L) (hS : Closed p S) (hb : ∀ i j, bt L i j = (decide (i < p) && decide (j < p) && S i j)) {i j : Nat} (hi : i < p) (hj : j < p) :
    L.getD i 0 = L.getD j 0 ↔ (S i j && S j i) = true := by
  rw [Bool.and_eq_true]
  constructor
  · intro h
    have e1 : bt L i i = bt L j i := by unfold bt; rw [h]
    have e2 : bt L i j = bt L j j := by unfold bt; rw [h]
    rw [hb, hb] at e1 e2
    simp only [hi, hj, decide_true, Bool.true_and] at e1 e2
    exact ⟨by rw [e2]; exact hS.1 j hj, by rw [← e1]; exact hS.1 i hi⟩
  · rintro ⟨h1, h2⟩
    refine MM.ext64 (hL.lt i) (hL.lt j) fun b _ => ?_
    show bt L i b = bt L j b
    rw [hb, hb]
    simp only [hi, hj, decide_true, Bool.true_and]
    by_cases hp : b < p
    · simp only [hp, decide_true, Bool.true_and]
      rw [Bool.eq_iff_iff]
      exact ⟨fun h => hS.2 _ _ _ hj hi hp h2 h, fun h => hS.2 _ _ _ hi hj hp h1 h⟩
    · simp [hp]
theorem fst_iff {p : Nat} {S : Nat → Nat → Bool} {L : List Nat} (hL : RW L) (hS : Closed p S) (hb : ∀ i j, bt L i j = (decide (i < p) && decide (j < p) && S i j)) {i : Nat} (hi : i < p) :
    fstB S i = true ↔ ∀ j, j < i → L.getD j 0 ≠ L.getD i 0 := by
  unfold fstB
  rw [List.all_eq_true]
  simp only [List.mem_range]
  constructor
  · intro h j hj e
    have := h j hj
    rw [(row_eq hL hS hb hi (show j < p by omega)).1 e.symm] at this
    cases this
  · intro h j hj
    cases hc : (S i j && S j i) with
    | false => rfl
    | true => exact absurd ((row_eq hL hS hb hi (show j < p by omega)).2 hc).symm (h j hj)

/-- The first points' rows: each row once. -/
theorem firsts {p : Nat} {S : Nat → Nat → Bool} {L : List Nat} (hL : RW L) (hS : Closed p S) (hb : ∀ i j, bt L i j = (decide (i < p) && decide (j < p) && S i j)) : ∀ m, m ≤ p →
    (((List.range m).filter (fstB S)).map fun i => L.getD i 0).Nodup ∧ ∀ x, x ∈ (((List.range m).filter (fstB S)).map fun i => L.getD i 0) ↔ ∃ i, i < m ∧ L.getD i 0 = x
  | 0, _ => by simp
  | m + 1, hm => by
    obtain ⟨h1, h2⟩ := firsts hL hS hb m (by omega)
    rw [List.range_succ, List.filter_append, List.map_append]
    have hf := fst_iff hL hS hb (show m < p by omega)
    cases hc : fstB S m with
    | true =>
      have hn := hf.1 hc
      have e : (List.filter (fstB S) [m]).map (fun i => L.getD i 0) = [L.getD m 0] := by simp [hc]
      rw [e]
      refine ⟨?_, fun x => ?_⟩
      · rw [List.nodup_append]
        refine ⟨h1, by simp, fun a ha b hb2 => ?_⟩
        obtain ⟨j, hj, rfl⟩ := (h2 a).1 ha
        rw [List.mem_singleton] at hb2
        subst hb2
        exact hn j hj
      · rw [List.mem_append, List.mem_singleton, h2]
        constructor
        · rintro (⟨i, hi, rfl⟩ | rfl)
          · exact ⟨i, by omega, rfl⟩
          · exact ⟨m, by omega, rfl⟩
        · rintro ⟨i, hi, rfl⟩
          by_cases e : i = m
          · subst e; exact .inr rfl
          · exact .inl ⟨i, by omega, rfl⟩
    | false =>
      have e : (List.filter (fstB S) [m]).map (fun i => L.getD i 0) = [] := by simp [hc]
      rw [e, List.append_nil]
      refine ⟨h1, fun x => ?_⟩
      rw [h2]
      constructor
      · rintro ⟨i, hi, rfl⟩; exact ⟨i, by omega, rfl⟩
      · rintro ⟨i, hi, rfl⟩
        by_cases e : i = m
        · subst e
          have hne : ¬ ∀ j, j < i → L.getD j 0 ≠ L.getD i 0 := fun h => by rw [hf.2 h] at hc; cases hc
          apply Decidable.byContradiction
          intro hx
          exact hne fun j hj e2 => hx ⟨j, hj, e2⟩
        · exact ⟨i, by omega, rfl⟩
/-- What Compact keeps of a sorted row: each word once. -/
theorem compacts (d : Array Nat) (hs : ∀ i j, i < j → j < d.size → d[i]! ≤ d[j]!) : ∀ m, m ≤ d.size →
    (Lib.compactUpTo d m).Nodup ∧ ∀ x, x ∈ Lib.compactUpTo d m ↔ ∃ i, i < m ∧ d[i]! = x
  | 0, _ => by simp [Lib.compactUpTo]
  | m + 1, hm => by
    obtain ⟨h1, h2⟩ := compacts d hs m (by omega)
    rw [Lib.compactUpTo_succ]
    cases hk : Lib.keeps d m with
    | true =>
      rw [if_pos rfl]
      refine ⟨?_, fun x => ?_⟩
      · rw [List.nodup_append]
        refine ⟨h1, by simp, fun a ha b hb => ?_⟩
        obtain ⟨i, hi, rfl⟩ := (h2 a).1 ha
        rw [List.mem_singleton] at hb
        subst hb
        unfold Lib.keeps at hk
        rw [decide_eq_true_eq] at hk
        have hne : d[m]! ≠ d[m - 1]! := by rcases hk with hk | hk; omega; exact hk
        have h4 := hs (m - 1) m (by omega) (by omega)
        by_cases e : i = m - 1
        · subst e; exact fun e => hne e.symm
        · have h5 := hs i (m - 1) (by omega) (by omega)
          omega
      · rw [List.mem_append, List.mem_singleton, h2]
        constructor
        · rintro (⟨i, hi, rfl⟩ | rfl)
          · exact ⟨i, by omega, rfl⟩
          · exact ⟨m, by omega, rfl⟩
        · rintro ⟨i, hi, rfl⟩
          by_cases e : i = m
          · subst e; exact .inr rfl
          · exact .inl ⟨i, by omega, rfl⟩
    | false =>
      rw [if_neg (by simp), List.append_nil]
      refine ⟨h1, fun x => ?_⟩
      rw [h2]
      constructor
      · rintro ⟨i, hi, rfl⟩; exact ⟨i, by omega, rfl⟩
      · rintro ⟨i, hi, rfl⟩
        by_cases e : i = m
        · subst e
          have hne : ¬ (i = 0 ∨ d[i]! ≠ d[i - 1]!) := fun h => by
            have : Lib.keeps d i = true := by unfold Lib.keeps; rw [decide_eq_true_eq]; exact h
            rw [this] at hk; cases hk
          have h0 : i ≠ 0 := fun h => hne (.inl h)
          exact ⟨i - 1, by omega, (Decidable.byContradiction fun h => hne (.inr fun e => h e.symm))⟩
        · exact ⟨i, by omega, rfl⟩
/-- The number of words that Compact keeps of the sorted rows is that of the classes. -/
theorem compact_cls {p : Nat} {S : Nat → Nat → Bool} {L : List Nat} (hL : RW L) (hp : p ≤ 64) (hS : Closed p S) (hb : ∀ i j, bt L i j = (decide (i < p) && decide (j < p) && S i j))
    (d' : Array Nat) (hperm : d'.toList.Perm (L.take p)) (hs : ∀ i j, i < j → j < d'.size → d'[i]! ≤ d'[j]!) : (Lib.compactUpTo d' d'.size).length = nCls p S := by
  obtain ⟨h1, h2⟩ := firsts hL hS hb p (Nat.le_refl _)
  obtain ⟨h3, h4⟩ := compacts d' hs d'.size (Nat.le_refl _)
  have hmem : ∀ x, x ∈ Lib.compactUpTo d' d'.size ↔ x ∈ (((List.range p).filter (fstB S)).map fun i => L.getD i 0) := by
    intro x
    rw [h4, h2]
    have ha : (∃ i, i < d'.size ∧ d'[i]! = x) ↔ x ∈ d'.toList := by
      rw [List.mem_iff_getElem]
      constructor
      · rintro ⟨i, hi, rfl⟩; exact ⟨i, by simpa using hi, by simp [hi]⟩
      · rintro ⟨i, hi, rfl⟩; exact ⟨i, by simpa using hi, by simp at hi; simp [hi]⟩
    have hb2 : (∃ i, i < p ∧ L.getD i 0 = x) ↔ x ∈ L.take p := by
      rw [List.mem_iff_getElem]
      constructor
      · rintro ⟨i, hi, rfl⟩
        have hl : i < L.length := by rw [hL.1]; omega
        exact ⟨i, by rw [List.length_take]; omega, by rw [List.getElem_take, List.getD_eq_getElem?_getD, List.getElem?_eq_getElem hl]; rfl⟩
      · rintro ⟨i, hi, rfl⟩
        rw [List.length_take] at hi
        exact ⟨i, by omega, by rw [List.getElem_take, List.getD_eq_getElem?_getD, List.getElem?_eq_getElem (show i < L.length by omega)]; rfl⟩
    rw [ha, hb2, hperm.mem_iff]
  have := ((List.perm_ext_iff_of_nodup h3 h1).2 hmem).length_eq
  rw [this, List.length_map]; rfl
end Go.Proofs.YtopckkdmldhmlaaDoor.RM
