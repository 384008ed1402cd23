/- Texts that SpellNodeCard, SpellBackCard need. Conditions: those that each states. -/
import Derived.Lib.SliceRun
import Derived.SliceStrings
import Derived.Test.YtkgonoejnochjaaGreatDoorY21
import Derived.Test.YtkgonoejnochjaaGreatDoorY37
set_option linter.unusedSimpArgs false
set_option linter.unusedVariables false
set_option maxRecDepth 8000
namespace Go.Proofs.YtkgonoejnochjaaGreatDoor
namespace TM
end TM
open Go.RowKit LX TR TM
end Go.Proofs.YtkgonoejnochjaaGreatDoor
namespace Go.Proofs.YtkgonoejnochjaaGreatDoor
namespace TM
theorem sm_mk {xk xp xs xA xc xw xB xd xx yk yp ys yA yc yw yB yd yy} : sm (.mk xk xp xs xA xc xw xB xd xx) (.mk yk yp ys yA yc yw yB yd yy) = (decide (xk = yk) && (decide (xs = ys) && (eqL sw xw yw && eqL sm xx yy))) := by
 rw [← sms_eqL]; rfl
end TM
open Go.RowKit LX TR TM
end Go.Proofs.YtkgonoejnochjaaGreatDoor
namespace Go.Proofs.YtkgonoejnochjaaGreatDoor
open Go.RowKit LX TR TM
end Go.Proofs.YtkgonoejnochjaaGreatDoor
namespace Go.Proofs.YtkgonoejnochjaaGreatDoor
open Go.ChangeShapes Go.WideShapes Go.ChangeAt Go.RowKit
end Go.Proofs.YtkgonoejnochjaaGreatDoor
namespace Go.Proofs.YtkgonoejnochjaaGreatDoor
open Go.ChangeShapes Go.WideShapes Go.ChangeAt Go.RowKit RM
end Go.Proofs.YtkgonoejnochjaaGreatDoor
namespace Go.Proofs.YtkgonoejnochjaaGreatDoor
open Go.ChangeShapes Go.WideShapes Go.ChangeAt Go.RowKit RM
theorem okWide_array {P : Program} {w : World} {r : Reach} {base : Nat} {t e : TypeId} {k : Nat} {v : Value} (ht : P.underlying t = some (.array k e)) (h : Value.okWide P w r base t v) : ∃ cs, v = .agg cs ∧ cs.size = P.cellsOf t := by
 simp only [Value.okWide, ht] at h
 obtain ⟨cs, h1, h2, _⟩ := h
 exact ⟨cs, h1, h2⟩
end Go.Proofs.YtkgonoejnochjaaGreatDoor
namespace Go.Proofs.YtkgonoejnochjaaGreatDoor
open Go.ChangeShapes Go.WideShapes Go.ChangeAt Go.RowKit RM
section
variable {H : Type} {enc : TypeId × Value → H} {w w2 : World} {r : Reach} {b0 : Nat}
theorem elem_open {base fuel : Nat} {spare : Nat → Bool} {held : Bool} {cs : List Value} {x : DataW H × List MemPlace} (hf : DataW.trod enc Tryz.prog w base spare held fuel 34 cs = some x) : ∃ e, cs = ucells e ∧ EW e := by
 obtain ⟨ys, m, _, _, hsz, hyl, hya⟩ := DataW.trod_array Tryz.underlying34 hf
 rw [show Tryz.prog.cellsOf 34 = 8 by kernel_rfl] at hsz
 obtain ⟨k, hk, hb⟩ := words_of cs fun v hv => by
  obtain ⟨i, hi, he⟩ := List.mem_iff_getElem.1 hv
  have h2 := hya i (by omega)
  rw [List.getElem?_eq_getElem (by omega), show Tryz.prog.cellsOf 32 = 1 by kernel_rfl] at h2
  obtain ⟨q, e1, _, hw⟩ := DataW.trod_int Tryz.underlying32 h2
  have e2 : (List.take 1 (List.drop (i * 1) cs)) = [cs[i]] := by
   rw [Nat.mul_one, List.drop_eq_getElem_cons hi]
   rfl
  have e3 : [cs[i]] = [Value.int .u64 q] := e2.symm.trans e1
  rw [he] at e3
  have e4 : v = .int .u64 q := by simpa using e3
  have hbd := bounds_u64 hw
  obtain ⟨z, rfl⟩ := Int.eq_ofNat_of_zero_le (show 0 ≤ q by omega)
  exact ⟨z, e4, by omega⟩
 refine ⟨k, hk, ?_, hb⟩
 have := congrArg List.length hk
 rw [List.length_map] at this
 omega
theorem open_elem {v : Value} {d : DataW H} {ps : List MemPlace} (hval : Value.okWide Tryz.prog w2 r b0 34 v) (hd : DataW.Trod enc Tryz.prog w 0 (fun _ => true) true 34 v d ps) :
 ∃ e, v = .agg (uv e) ∧ EW e := by
 obtain ⟨cs, rfl, _⟩ := okWide_array Tryz.underlying34 hval
 obtain ⟨l⟩ := cs
 obtain ⟨fuel, hf⟩ := hd
 have hf' : DataW.trod enc Tryz.prog w 0 (fun _ => true) true fuel 34 l = some (d, ps) := hf
 obtain ⟨e, rfl, he⟩ := elem_open hf'
 exact ⟨e, rfl, he⟩
end
end Go.Proofs.YtkgonoejnochjaaGreatDoor

