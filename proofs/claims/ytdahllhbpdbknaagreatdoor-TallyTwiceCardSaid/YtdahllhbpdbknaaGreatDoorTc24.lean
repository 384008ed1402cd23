/- Texts that all the claims need. Conditions: those that each states. -/

import Derived.Test.YtdahllhbpdbknaaGreatDoorTc20
import Derived.Test.YtdahllhbpdbknaaGreatDoorTc22
import Derived.Test.YtdahllhbpdbknaaGreatDoorTc23
set_option linter.unusedSimpArgs false
set_option linter.unusedVariables false
set_option maxRecDepth 100000
set_option maxHeartbeats 40000000
namespace Go.Proofs.YtdahllhbpdbknaaGreatDoor
section
open Go.ChangeShapes Go.WideShapes Go.ChangeAt Go.RowKit RM
section
variable {H : Type} {enc : TypeId × Value → H} {w w2 : World} {r : Reach} {b0 : Nat}
theorem ins_open17 (fuel : Nat) (l : List Value) (x : DataW H × List MemPlace) (hf : DataW.trod enc Tryz.prog w 0 (fun _ => true) true fuel 85 l = some x) :
 ∃ y : In, l = insC y ∧ True := by
 obtain ⟨xs, m, _, _, hsz, hlen, hat⟩ := DataW.trod_struct Tryz.underlying85 hf
 rw [show Tryz.prog.cellsOf 85 = 10 by kernel_rfl] at hsz
 have hlen2 : xs.length = 3 := hlen
 have h0 : DataW.trod enc Tryz.prog w 0 (fun _ => true) true m 3 (List.take (Tryz.prog.cellsOf 3) (List.drop 0 l)) = xs[0]? := hat 0 _ rfl
 have h1 : DataW.trod enc Tryz.prog w 0 (fun _ => true) true m 3 (List.take (Tryz.prog.cellsOf 3) (List.drop 1 l)) = xs[1]? := hat 1 _ rfl
 have h2 : DataW.trod enc Tryz.prog w 0 (fun _ => true) true m 40 (List.take (Tryz.prog.cellsOf 40) (List.drop 2 l)) = xs[2]? := hat 2 _ rfl
 rw [List.getElem?_eq_getElem (by omega)] at h0 h1 h2
 rw [show Tryz.prog.cellsOf 3 = 1 by kernel_rfl] at h0 h1
 rw [show Tryz.prog.cellsOf 40 = 8 by kernel_rfl] at h2
 obtain ⟨a, e0, _, _⟩ := DataW.trod_int Tryz.underlying3 h0
 obtain ⟨b, e1, _, _⟩ := DataW.trod_int Tryz.underlying3 h1
 obtain ⟨e, e2, he⟩ := elem_open h2
 match l, hsz with
 | u :: v :: l, hsz =>
   have hl : l.length = 8 := by simpa using hsz
   simp only [List.drop_succ_cons, List.drop_zero, List.take_succ_cons, List.take_zero, List.cons.injEq, and_true] at e0 e1 e2
   rw [List.take_of_length_le (by omega)] at e2
   subst e0 e1 e2
   exact ⟨⟨a, b, ⟨e, he⟩⟩, rfl, trivial⟩
theorem elem_open17 (fuel : Nat) (l : List Value) (x : DataW H × List MemPlace) (hf : DataW.trod enc Tryz.prog w 0 (fun _ => true) true fuel 40 l = some x) :
 ∃ y : {l : List Nat // EW l}, l = ucells y.1 ∧ True := by
 obtain ⟨e, h1, h2⟩ := elem_open hf
 exact ⟨⟨e, h2⟩, h1, trivial⟩
theorem escells_val : ∀ es : List {l : List Nat // EW l}, es.flatMap (fun e => ucells e.1) = escells (es.map Subtype.val)
 | [] => rfl
 | e :: es => by
   unfold escells
   rw [List.flatMap_cons, List.map_cons, List.flatMap_cons, escells_val es]
   rfl
theorem opx_open (fuel : Nat) (l : List Value) (x : DataW H × List MemPlace) (hf : DataW.trod enc Tryz.prog w 0 (fun _ => true) true fuel 42 l = some x) :
 ∃ y : OpX, l = opxC y ∧ OpxOk w y := by
 obtain ⟨xs, m, _, _, hsz, hlen, hat⟩ := DataW.trod_struct Tryz.underlying42 hf
 rw [show Tryz.prog.cellsOf 42 = 19 by kernel_rfl] at hsz
 have hlen2 : xs.length = 5 := hlen
 have h0 : DataW.trod enc Tryz.prog w 0 (fun _ => true) true m 3 (List.take (Tryz.prog.cellsOf 3) (List.drop 0 l)) = xs[0]? := hat 0 _ rfl
 have h1 : DataW.trod enc Tryz.prog w 0 (fun _ => true) true m 36 (List.take (Tryz.prog.cellsOf 36) (List.drop 1 l)) = xs[1]? := hat 1 _ rfl
 have h2 : DataW.trod enc Tryz.prog w 0 (fun _ => true) true m 37 (List.take (Tryz.prog.cellsOf 37) (List.drop 2 l)) = xs[2]? := hat 2 _ rfl
 have h3 : DataW.trod enc Tryz.prog w 0 (fun _ => true) true m 40 (List.take (Tryz.prog.cellsOf 40) (List.drop 3 l)) = xs[3]? := hat 3 _ rfl
 have h4 : DataW.trod enc Tryz.prog w 0 (fun _ => true) true m 40 (List.take (Tryz.prog.cellsOf 40) (List.drop 11 l)) = xs[4]? := hat 4 _ rfl
 rw [List.getElem?_eq_getElem (by omega)] at h0 h1 h2 h3 h4
 rw [show Tryz.prog.cellsOf 3 = 1 by kernel_rfl] at h0
 rw [show Tryz.prog.cellsOf 36 = 1 by kernel_rfl] at h1
 rw [show Tryz.prog.cellsOf 37 = 1 by kernel_rfl] at h2
 rw [show Tryz.prog.cellsOf 40 = 8 by kernel_rfl] at h3 h4
 obtain ⟨k, e0, _, _⟩ := DataW.trod_int Tryz.underlying3 h0
 obtain ⟨LA, lc, ls, e1, _, _, _, hL, _⟩ := ls_open (g := insC) (P := fun _ => True) in0 10 insC_len (by omega) Tryz.underlying36 (by kernel_rfl) ins_open17 h1
 obtain ⟨VA, vc, es, e2, _, _, _, hV, _⟩ := ls_open (g := fun e : {l : List Nat // EW l} => ucells e.1) (P := fun _ => True) ⟨List.replicate 8 0, EW.zeros⟩ 8 (fun x => by rw [ucells_length]; exact x.2.1) (by omega) Tryz.underlying37 (by kernel_rfl) elem_open17 h2
 obtain ⟨a, e3, ha⟩ := elem_open h3
 obtain ⟨b, e4, hb⟩ := elem_open h4
 match l, hsz with
 | u0 :: u1 :: u2 :: l, hsz =>
   have hl : l.length = 16 := by simpa using hsz
   simp only [List.drop_succ_cons, List.drop_zero, List.take_succ_cons, List.take_zero, List.cons.injEq, and_true] at e0 e1 e2 e3 e4
   rw [List.take_of_length_le (by rw [List.length_drop]; omega)] at e4
   have e5 : l = ucells a ++ ucells b := by rw [← e3, ← e4, List.take_append_drop]
   subst e0 e1 e2 e5
   refine ⟨⟨k, LA, lc, ls, VA, vc, es.map Subtype.val, ⟨a, ha⟩, ⟨b, hb⟩⟩, ?_, ⟨hL, ?_, fun e he => ?_⟩⟩
   ·unfold opxC
    dsimp only
    rw [List.length_map]
   ·show Sl w w.heap.size VA (escells (es.map Subtype.val))
    rw [← escells_val]
    exact hV
   ·obtain ⟨y, _, rfl⟩ := List.mem_map.1 he
    exact y.2
theorem open_opxs {v : Value} {d : DataW H} {ps : List MemPlace} (hval : Value.okWide Tryz.prog w2 r b0 25 v) (hd : DataW.Trod enc Tryz.prog w 0 (fun _ => true) true 25 v d ps) :
 ∃ A c, ∃ l : List OpX, v = .slice A l.length c ∧ l.length ≤ c ∧ c ≤ maxLen ∧ (A = none → c = 0) ∧ Ls opxC w A l ∧ ∀ x ∈ l, OpxOk w x := by
 obtain ⟨A, n, c, rfl⟩ := okWide_slice Tryz.underlying25 hval
 obtain ⟨fuel, hf⟩ := hd
 obtain ⟨A', c', l, e, hn, h1, h2, hL, hP⟩ := ls_open (g := opxC) (P := fun x => OpxOk w x) opx0 19 opxC_len (by omega) Tryz.underlying25 (by kernel_rfl) opx_open hf
 have e2 : Value.slice A n c = Value.slice A' l.length c' := by simpa [Value.cells] using e
 injection e2 with e3 e4 e5
 subst e3 e4 e5
 exact ⟨A, c, l, rfl, h1, h2, hn, hL, hP⟩
end
end
end Go.Proofs.YtdahllhbpdbknaaGreatDoor
