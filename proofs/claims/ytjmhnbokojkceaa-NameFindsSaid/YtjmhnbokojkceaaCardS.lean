/-
  An argument that is a slice of strings, opened: a list. Conditions: none.
-/
import Derived.Test.YtjmhnbokojkceaaCard
import Derived.Test.YtjmhnbokojkceaaNameC
import Derived.SliceStrings
namespace Go.Proofs.Ytjmhnbokojkceaa
open Go.ChangeShapes Go.WideShapes Go.ChangeAt Go.RowKit

theorem open_list {H : Type} {enc : TypeId × Value → H} {P : Program} {w : World} {r : Reach} {b0 : Nat} {t e : TypeId} {v : Value} {d : DataW H} {ps : List MemPlace} (ht : P.underlying t = some (.slice e)) (he : P.underlying e = some .string) (hc : P.cellsOf e = 1)
    (hval : Value.okWide P w r b0 t v) (hd : DataW.Trod enc P w 0 (fun _ => true) true t v d ps) : ∃ A c, ∃ xs : List ByteArray, v = .slice A xs.length c ∧ xs.length ≤ c ∧ Strs w A xs := by
  obtain ⟨A, len, c, rfl⟩ := okWide_slice ht hval
  obtain ⟨fuel, hf⟩ := hd
  rcases open_strings ht he hc hf with ⟨hcs, hx⟩ | ⟨a, len', cap', zs, hcs, _, hl, hm, hz, hx, hcell, hwz⟩
  · have hcs2 : Value.slice A len c = Value.slice none 0 0 := by simpa [Value.cells] using hcs
    injection hcs2 with e1 e2 e3
    subst e1 e2 e3
    exact ⟨none, 0, [], rfl, Nat.le_refl _, Sl.nil _ _ _⟩
  · have hcs2 : Value.slice A len c = Value.slice (some a) len' cap' := by simpa [Value.cells] using hcs
    injection hcs2 with e1 e2 e3
    subst e1 e2 e3
    have hlz : len ≤ zs.length := by rw [hz]; split <;> omega
    refine ⟨some a, c, zs.take len, by rw [List.length_take, Nat.min_eq_left hlz], by rw [List.length_take]; omega, fun hne => ?_⟩
    have hp : 0 < zs.length := by
      rcases Nat.eq_zero_or_pos zs.length with h | h
      · rw [List.eq_nil_of_length_eq_zero h] at hne; simp [scells] at hne
      · exact h
    obtain ⟨b, off, spot⟩ := a
    have hspot : spot = none := by simpa [Addr.add] using World.cell?_spot (hcell 0 hp)
    subst hspot
    have hcc : ∀ j, j < zs.length → w.cell? ⟨b, off + j, none⟩ = some (.string (zs.getD j ByteArray.empty)) := fun j hj => by rw [← Go.WideShapes.add_plain]; exact hcell j hj
    refine ⟨b, off, rfl, World.block_lt_of_cell? w ⟨b, off + 0, none⟩ (hcc 0 hp), fun jj u hu => ?_⟩
    unfold scells at hu
    rw [List.map_take, List.getElem?_take] at hu
    split at hu
    · rename_i hjl
      rw [List.getElem?_map, List.getElem?_eq_getElem (show jj < zs.length by omega)] at hu
      have := hcc jj (by omega)
      rw [List.getD_eq_getElem?_getD, List.getElem?_eq_getElem (show jj < zs.length by omega)] at this
      rw [← hu]; exact this
    · cases hu
end Go.Proofs.Ytjmhnbokojkceaa
