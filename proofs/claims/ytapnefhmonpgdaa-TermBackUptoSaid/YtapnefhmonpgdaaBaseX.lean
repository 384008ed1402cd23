/-
  From a walk that returns true and leaves old memory alone to what a row asks: once, for every statement. Conditions: none.
-/
import Derived.Test.YtapnefhmonpgdaaBaseA
import Derived.ProofKit
import Derived.OpenShut
import Derived.Carry
import Derived.Deep.DeepHandedRow
import Derived.Lib.LaidTab
import Derived.Test.YtapnefhmonpgdaaBaseB
import Derived.ChangeArms
import Derived.Deep.Slices
set_option linter.unusedSimpArgs false
set_option linter.unusedVariables false
namespace Go.Proofs.Ytapnefhmonpgdaa
open Go.ChangeShapes Go.WideShapes Go.ChangeAt Go.RowKit

set_option maxRecDepth 8000 in
theorem trodAll_below {H : Type} {enc : TypeId × Value → H} {P : Program} (hl : laidOutB P = true) {W W' : World} (hb : Below W.heap.size W W') :
    ∀ (ts : List TypeId) (vs : List Value) (ds : List (DataW H)) (ps : List MemPlace), (∀ t ∈ ts, P.readableRec t = true ∧ t < P.types.size) → (∀ x ∈ ps, x.block < W.heap.size) →
      DataW.TrodAll enc P W 0 (fun _ => true) true ts vs ds ps → DataW.TrodAll enc P W' 0 (fun b => decide (b < W.heap.size)) true ts vs ds ps
  | [], [], [], ps, _, _, h => h
  | t :: ts, v :: vs, d :: ds, ps, ht, hp, h => by
    obtain ⟨p, q, h1, h2, rfl⟩ := h
    exact ⟨p, q, Below.trod hl (ht t (by simp)).1 (ht t (by simp)).2 h1 hb (fun x hx => hp x (by simp [hx])),
      trodAll_below hl hb ts vs ds q (fun t' ht' => ht t' (by simp [ht'])) (fun x hx => hp x (by simp [hx])) h2, rfl⟩
  | [], [], _ :: _, _, _, _, h => h.elim
  | [], _ :: _, [], _, _, _, h => h.elim
  | [], _ :: _, _ :: _, _, _, _, h => h.elim
  | _ :: _, [], [], _, _, _, h => h.elim
  | _ :: _, [], _ :: _, _, _, _, h => h.elim
  | _ :: _, _ :: _, [], _, _, _, h => h.elim

set_option maxRecDepth 8000 in
theorem post_true {H : Type} {enc : TypeId × Value → H} {P : Program} {fn : Func} {s : ChangeSpec} {W W' : World} {args : Array Value} {ds gs : List (DataW H)} {before : List MemPlace} {tb : TypeId}
    (hl : laidOutB P = true) (hread : ∀ t ∈ fn.params.toList, P.readableRec t = true ∧ t < P.types.size) (hvars : s.vars = []) (hres : fn.resultTypes = #[tb]) (htb : P.underlying tb = some .bool)
    (hfn : s.fn H (ds ++ gs) = { results := [.lit (.bool true)], args := ds }) (hW : DataW.Whole enc P fn.params.toList s.vars false W args.toList ds gs before) (hb : Below W.heap.size W W') :
    s.post enc P fn false true false false W args (.bool true) W' := by
  have hW' := hW
  obtain ⟨p, q, hA, hV, hpq, _, _⟩ := hW
  have hq : q = [] := by
    rw [hvars] at hV
    cases gs with
    | nil => exact hV
    | cons g gs => exact hV.elim
  have hlt : ∀ x ∈ p, x.block < W.heap.size := fun x hx => by
    have := hW'.lt x (by rw [hpq]; simp [hx])
    simpa using this
  refine ⟨ds, gs, before, [], p, [], hW', ?_, ?_, ?_, hb.frame _, fun h => by cases h⟩
  · rw [hfn, hres]
    exact ⟨[], [], shut_bool htb true, rfl, rfl⟩
  · rw [hfn]
    exact trodAll_below hl hb _ _ _ _ hread hlt hA
  · rw [hfn, hvars]
    rfl
end Go.Proofs.Ytapnefhmonpgdaa

/-
  Arguments that are relations or pairs, opened. Conditions: none.
-/
namespace Go.Proofs.Ytapnefhmonpgdaa
open Go.ChangeShapes Go.WideShapes Go.ChangeAt Go.RowKit RM

set_option maxRecDepth 8000 in
theorem words_of : ∀ (cs : List Value), (∀ v ∈ cs, ∃ m : Nat, v = .int .u64 (m : Int) ∧ m < 18446744073709551616) → ∃ l : List Nat, cs = l.map (fun x : Nat => Value.int .u64 (x : Int)) ∧ ∀ x ∈ l, x < 18446744073709551616
  | [], _ => ⟨[], rfl, fun x hx => by cases hx⟩
  | v :: cs, h => by
    obtain ⟨m, rfl, hm⟩ := h v (by simp)
    obtain ⟨l, rfl, hl⟩ := words_of cs fun u hu => h u (by simp [hu])
    exact ⟨m :: l, rfl, fun x hx => by
      rcases List.mem_cons.1 hx with rfl | hx
      · exact hm
      · exact hl x hx⟩
set_option maxRecDepth 8000 in
theorem list_of {P : Nat → Int → Int → Prop} : ∀ n, (∀ i, i < n → ∃ lo hi, P i lo hi) → ∃ xs : List (Int × Int), xs.length = n ∧ ∀ i, i < n → P i (xs.getD i (0, 0)).1 (xs.getD i (0, 0)).2
  | 0, _ => ⟨[], rfl, fun i hi => by omega⟩
  | n + 1, h => by
    obtain ⟨xs, hl, hx⟩ := list_of n fun i hi => h i (by omega)
    obtain ⟨lo, hi, hp⟩ := h n (by omega)
    refine ⟨xs ++ [(lo, hi)], by simp [hl], fun i hi2 => ?_⟩
    by_cases e : i = n
    · subst e
      rw [List.getD_eq_getElem?_getD, List.getElem?_append_right (by omega), hl]
      simpa using hp
    · rw [List.getD_eq_getElem?_getD, List.getElem?_append_left (by omega), ← List.getD_eq_getElem?_getD]
      exact hx i (by omega)
end Go.Proofs.Ytapnefhmonpgdaa

/-
  Arguments that are short arrays of words or of ints, opened. Conditions: none.
-/
namespace Go.Proofs.Ytapnefhmonpgdaa
open Go.ChangeShapes Go.WideShapes Go.ChangeAt Go.RowKit RM

set_option maxRecDepth 8000 in
theorem okWide_array {P : Program} {w : World} {r : Reach} {base : Nat} {t e : TypeId} {k : Nat} {v : Value} (ht : P.underlying t = some (.array k e)) (h : Value.okWide P w r base t v) : ∃ cs, v = .agg cs ∧ cs.size = P.cellsOf t := by
  simp only [Value.okWide, ht] at h
  obtain ⟨cs, h1, h2, _⟩ := h
  exact ⟨cs, h1, h2⟩
end Go.Proofs.Ytapnefhmonpgdaa
