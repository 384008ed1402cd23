/- Texts that all the claims need. Conditions: those that each states. -/
import Derived.Ground.Names2Prog
import Derived.Lib.RowBridge
import Derived.Shelf.Slices.CompactI
import Derived.Test.YtppcjocmjpbmmaaGreatDoorCk19
import Derived.Test.YtppcjocmjpbmmaaGreatDoorCk25
import Derived.Test.YtppcjocmjpbmmaaGreatDoorCk26
set_option linter.unusedSimpArgs false
set_option linter.unusedVariables false
set_option maxRecDepth 100000
set_option maxHeartbeats 40000000
namespace Go.Proofs.YtppcjocmjpbmmaaGreatDoor
section
open Go.ChangeShapes Go.WideShapes Go.ChangeAt Go.RowKit RM
section
variable {H : Type} {enc : TypeId × Value → H} {w w2 : World} {r : Reach} {b0 : Nat}
theorem ins_open (fuel : Nat) (l : List Value) (x : DataW H × List MemPlace) (hf : DataW.trod enc Tryz.prog w 0 (fun _ => true) true fuel 60 l = some x) :
 ∃ y : In, l = insC y ∧ True := by
 obtain ⟨xs, m, _, _, hsz, hlen, hat⟩ := DataW.trod_struct Tryz.underlying60 hf
 rw [show Tryz.prog.cellsOf 60 = 10 by kernel_rfl] at hsz
 have hlen2 : xs.length = 3 := hlen
 have h0 : DataW.trod enc Tryz.prog w 0 (fun _ => true) true m 3 (List.take (Tryz.prog.cellsOf 3) (List.drop 0 l)) = xs[0]? := hat 0 _ rfl
 have h1 : DataW.trod enc Tryz.prog w 0 (fun _ => true) true m 3 (List.take (Tryz.prog.cellsOf 3) (List.drop 1 l)) = xs[1]? := hat 1 _ rfl
 have h2 : DataW.trod enc Tryz.prog w 0 (fun _ => true) true m 31 (List.take (Tryz.prog.cellsOf 31) (List.drop 2 l)) = xs[2]? := hat 2 _ rfl
 rw [List.getElem?_eq_getElem (by omega)] at h0 h1 h2
 rw [show Tryz.prog.cellsOf 3 = 1 by kernel_rfl] at h0 h1
 rw [show Tryz.prog.cellsOf 31 = 8 by kernel_rfl] at h2
 obtain ⟨a, e0, _, _⟩ := DataW.trod_int Tryz.underlying3 h0
 obtain ⟨b, e1, _, _⟩ := DataW.trod_int Tryz.underlying3 h1
 obtain ⟨e, e2, he⟩ := elem_open h2
 match l, hsz with
 | u :: v :: l, hsz =>
   have hl : l.length = 8 := by simpa using hsz
   simp only [List.drop_succ_cons, List.drop_zero, List.take_succ_cons, List.take_zero, List.cons.injEq, and_true] at e0 e1 e2
   rw [List.take_of_length_le (by omega)] at e2
   subst e0 e1 e2
   exact ⟨⟨a, b, ⟨e, he⟩⟩, rfl, trivial⟩
theorem open_inss {v : Value} {d : DataW H} {ps : List MemPlace} (hval : Value.okWide Tryz.prog w2 r b0 25 v) (hd : DataW.Trod enc Tryz.prog w 0 (fun _ => true) true 25 v d ps) :
 ∃ A c, ∃ l : List In, v = .slice A l.length c ∧ Ls insC w A l := by
 obtain ⟨A, n, c, rfl⟩ := okWide_slice Tryz.underlying25 hval
 obtain ⟨fuel, hf⟩ := hd
 obtain ⟨A', c', l, e, _, _, _, hL, _⟩ := ls_open (g := insC) (P := fun _ => True) in0 10 insC_len (by omega) Tryz.underlying25 (by kernel_rfl) ins_open hf
 have e2 : Value.slice A n c = Value.slice A' l.length c' := by simpa [Value.cells] using e
 injection e2 with e3 e4 e5
 subst e3 e4 e5
 exact ⟨A, c, l, rfl, hL⟩
end
end
end Go.Proofs.YtppcjocmjpbmmaaGreatDoor
