/-
  Arguments that are short arrays of words or of ints, opened. Conditions: none.
-/
import Derived.Test.YtopckkdmldhmlaaDoorCardR
namespace Go.Proofs.YtopckkdmldhmlaaDoor
open Go.ChangeShapes Go.WideShapes Go.ChangeAt Go.RowKit RM

theorem okWide_array {P : Program} {w : World} {r : Reach} {base : Nat} {t e : TypeId} {k : Nat} {v : Value} (ht : P.underlying t = some (.array k e)) (h : Value.okWide P w r base t v) : ∃ cs, v = .agg cs ∧ cs.size = P.cellsOf t := by
  simp only [Value.okWide, ht] at h
  obtain ⟨cs, h1, h2, _⟩ := h
  exact ⟨cs, h1, h2⟩
theorem open_two {H : Type} {enc : TypeId × Value → H} {w w2 : World} {r : Reach} {b0 base : Nat} {spare : Nat → Bool} {held : Bool} {v : Value} {d : DataW H} {ps : List MemPlace}
    (hval : Value.okWide Tryd.prog w2 r b0 35 v) (hd : DataW.Trod enc Tryd.prog w base spare held 35 v d ps) :
    ∃ a b : Nat, v = .agg #[.int .u64 (a : Int), .int .u64 (b : Int)] ∧ a < 18446744073709551616 ∧ b < 18446744073709551616 := by
  obtain ⟨cs, rfl, hsz⟩ := okWide_array Tryd.underlying35 hval
  rw [show Tryd.prog.cellsOf 35 = 2 by kernel_rfl] at hsz
  obtain ⟨l⟩ := cs
  replace hsz : l.length = 2 := hsz
  obtain ⟨fuel, hf⟩ := hd
  obtain ⟨ys, m, _, _, _, hyl, hya⟩ := DataW.trod_array Tryd.underlying35 hf
  have h0 := hya 0 (by omega)
  have h1 := hya 1 (by omega)
  rw [List.getElem?_eq_getElem (by omega), show Tryd.prog.cellsOf 22 = 1 by kernel_rfl] at h0 h1
  obtain ⟨x, e0, _, g0⟩ := DataW.trod_int Tryd.underlying22 h0
  obtain ⟨y, e1, _, g1⟩ := DataW.trod_int Tryd.underlying22 h1
  have k0 := bounds_u64 g0
  have k1 := bounds_u64 g1
  obtain ⟨a, rfl⟩ := Int.eq_ofNat_of_zero_le (show 0 ≤ x by omega)
  obtain ⟨b, rfl⟩ := Int.eq_ofNat_of_zero_le (show 0 ≤ y by omega)
  match l, hsz with
  | [u, v], _ =>
    simp [Value.cells] at e0 e1
    subst e0 e1
    exact ⟨a, b, rfl, by omega, by omega⟩
theorem open_three {H : Type} {enc : TypeId × Value → H} {w w2 : World} {r : Reach} {b0 base : Nat} {spare : Nat → Bool} {held : Bool} {v : Value} {d : DataW H} {ps : List MemPlace}
    (hval : Value.okWide Tryd.prog w2 r b0 40 v) (hd : DataW.Trod enc Tryd.prog w base spare held 40 v d ps) :
    ∃ a b c : Int, v = .agg #[.int .i64 a, .int .i64 b, .int .i64 c] := by
  obtain ⟨cs, rfl, hsz⟩ := okWide_array Tryd.underlying40 hval
  rw [show Tryd.prog.cellsOf 40 = 3 by kernel_rfl] at hsz
  obtain ⟨l⟩ := cs
  replace hsz : l.length = 3 := hsz
  obtain ⟨fuel, hf⟩ := hd
  obtain ⟨ys, m, _, _, _, hyl, hya⟩ := DataW.trod_array Tryd.underlying40 hf
  have h0 := hya 0 (by omega)
  have h1 := hya 1 (by omega)
  have h2 := hya 2 (by omega)
  rw [List.getElem?_eq_getElem (by omega), show Tryd.prog.cellsOf 3 = 1 by kernel_rfl] at h0 h1 h2
  obtain ⟨x, e0, _, _⟩ := DataW.trod_int Tryd.underlying3 h0
  obtain ⟨y, e1, _, _⟩ := DataW.trod_int Tryd.underlying3 h1
  obtain ⟨z, e2, _, _⟩ := DataW.trod_int Tryd.underlying3 h2
  match l, hsz with
  | [u, v, s], _ =>
    simp [Value.cells] at e0 e1 e2
    subst e0 e1 e2
    exact ⟨x, y, z, rfl⟩
end Go.Proofs.YtopckkdmldhmlaaDoor
