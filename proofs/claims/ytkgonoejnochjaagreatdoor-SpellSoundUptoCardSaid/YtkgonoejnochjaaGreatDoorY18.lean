/- Texts that all the claims need. Conditions: those that each states. -/

import Derived.Test.YtkgonoejnochjaaGreatDoorY16
set_option linter.unusedSimpArgs false
set_option linter.unusedVariables false
set_option maxRecDepth 8000
namespace Go.Proofs.YtkgonoejnochjaaGreatDoor
namespace SP
open TM
def miss (names : List ByteArray) (v : Wd) : Bool := decide (idx names v.s < 0)
def plc (names : List ByteArray) (ws : List Wd) : Except Int Nat := match ws.find? (miss names) with
 | some v => .error v.p
 | none => .ok (MM.ofN (ws.map fun v => idx names v.s))
def gv (x : Except Int Nat) : Array Value := match x with
 | .ok w => #[.int .u64 (w : Int), .bool false, .int .i64 0]
 | .error p => #[.int .u64 0, .bool true, .int .i64 p]
def rls (f : Fac) : List Nd → Nat → Except Int Nat
 | [], w => .ok w
 | k :: r, w => if idx f.names k.s < 0 then .error k.p else match plc f.names k.ws with
   | .error p => .error p
   | .ok g => rls f r (w ||| gRule f.n f.l (idx f.names k.s) g)
def wordC (f : Fac) (x : Nd) : Except Int Nat :=
 if f.kind = 2 then (if x.k = 3 then plc f.names x.ws else .error x.p)
 else if f.kind = 3 then (if x.k = 5 then rls f x.ks 0 else .error x.p)
 else if x.k = 2 ∧ 0 ≤ idx f.names x.s then (if f.kind = 4 then .ok (wordN f.n f.l (idx f.names x.s)) else .ok (RG.wR f.names.length (idx f.names x.s)))
 else .error x.p
theorem take_map {α : Type} (f : α → Int) (l : List α) (z : α) (i : Nat) (h : i < l.length) : (l.take (i + 1)).map f = (l.take i).map f ++ [f (l.getD i z)] := by
 rw [List.getD_eq_getElem?_getD, List.getElem?_eq_getElem h, Option.getD_some, List.take_succ_eq_append_getElem h, List.map_append]
 rfl
end SP
open Go.RowKit LX TR TM SP
end Go.Proofs.YtkgonoejnochjaaGreatDoor
namespace Go.Proofs.YtkgonoejnochjaaGreatDoor
namespace SP
open TM
theorem plc_lt {names : List ByteArray} {ws : List Wd} {g : Nat} (h : plc names ws = .ok g) : g < 18446744073709551616 := by
 unfold plc at h
 split at h
 ·cases h
 ·injection h with h
  rw [← h]
  exact MM.ofN_lt _
end SP
open Go.RowKit LX TR TM SP
end Go.Proofs.YtkgonoejnochjaaGreatDoor
namespace Go.Proofs.YtkgonoejnochjaaGreatDoor
namespace SP
open TM
def nmdTo (names : List ByteArray) (v i : Nat) : List Wd := ((List.range i).filter fun j : Nat => MM.hasN v (j : Int)).map fun j => ⟨names.getD j ⟨#[]⟩, 0⟩
def nmd (names : List ByteArray) (v : Nat) : List Wd := nmdTo names v names.length
theorem nmd_le (names : List ByteArray) (v i : Nat) : (nmdTo names v i).length ≤ i := by
 unfold nmdTo
 rw [List.length_map]
 have := List.length_filter_le (fun j : Nat => MM.hasN v (j : Int)) (List.range i)
 rw [List.length_range] at this
 exact this
end SP
open Go.RowKit LX TR TM SP
end Go.Proofs.YtkgonoejnochjaaGreatDoor
namespace Go.Proofs.YtkgonoejnochjaaGreatDoor
open Go.RowKit LX TR TM
theorem lst_size (s : ByteArray) {l : List UInt8} (h : lst s = l) : s.size = l.length := by rw [← h, lst_length]
end Go.Proofs.YtkgonoejnochjaaGreatDoor
namespace Go.Proofs.YtkgonoejnochjaaGreatDoor
open Go.RowKit LX TR TM
end Go.Proofs.YtkgonoejnochjaaGreatDoor
namespace Go.Proofs.YtkgonoejnochjaaGreatDoor
open Go.RowKit LX TR TM
end Go.Proofs.YtkgonoejnochjaaGreatDoor
namespace Go.Proofs.YtkgonoejnochjaaGreatDoor
open Go.RowKit LX TR TM
end Go.Proofs.YtkgonoejnochjaaGreatDoor
namespace Go.Proofs.YtkgonoejnochjaaGreatDoor
open Go.RowKit LX TR TM
end Go.Proofs.YtkgonoejnochjaaGreatDoor
namespace Go.Proofs.YtkgonoejnochjaaGreatDoor
open Go.RowKit LX TR TM
end Go.Proofs.YtkgonoejnochjaaGreatDoor
namespace Go.Proofs.YtkgonoejnochjaaGreatDoor
open Go.RowKit LX TR TM
end Go.Proofs.YtkgonoejnochjaaGreatDoor
namespace Go.Proofs.YtkgonoejnochjaaGreatDoor
open Go.RowKit LX TR TM
end Go.Proofs.YtkgonoejnochjaaGreatDoor

