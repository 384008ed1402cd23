/- Texts that all the claims need. Conditions: those that each states. -/

import Derived.Test.YtppcjocmjpbmmaaGreatDoorCk4
set_option linter.unusedSimpArgs false
set_option linter.unusedVariables false
set_option maxRecDepth 100000
set_option maxHeartbeats 40000000
namespace Go.Proofs.YtppcjocmjpbmmaaGreatDoor
section
open Go.RowKit
structure Up (g : Nat) (v v' : Value) (w w' : World) : Prop where
 low : Below g w w'
 blk : ∀ k, k < w.heap.size → k ≠ g → v.ownBlock ≠ some k → w'.heap[k]? = w.heap[k]?
 row : v'.ownBlock = v.ownBlock ∨ ∃ b, v'.ownBlock = some b ∧ w.heap.size ≤ b
section
variable {g : Nat} {v v1 v2 : Value} {w w1 w2 : World}
theorem Up.refl (g : Nat) (v : Value) (w : World) : Up g v v w w := ⟨zB _ _, fun _ _ _ _ => rfl, .inl rfl⟩
theorem Up.ne (h : Up g v v1 w w1) {k : Nat} (hk : k < w.heap.size) (hv : v.ownBlock ≠ some k) : v1.ownBlock ≠ some k := by
 rcases h.row with e | ⟨b, e, hb⟩
 ·rw [e]; exact hv
 ·rw [e]; intro e2; cases e2; omega
theorem Up.trans (h : Up g v v1 w w1) (h2 : Up g v1 v2 w1 w2) : Up g v v2 w w2 := by
 refine ⟨h.low.trans h2.low, fun k hk hne hv => ?_, ?_⟩
 ·exact (h2.blk k (zT hk h.low.size) hne (h.ne hk hv)).trans (h.blk k hk hne hv)
 ·rcases h2.row with e | ⟨b, e, hb⟩
  ·rcases h.row with e2 | ⟨b, e2, hb⟩
   ·exact .inl (e.trans e2)
   ·exact .inr ⟨b, e.trans e2, hb⟩
  ·exact .inr ⟨b, e, zM h.low.size hb⟩
theorem Up.below (hg : g ≤ w.heap.size) (h : Below w.heap.size w w1) : Up g v v w w1 := ⟨h.mono hg, fun k hk _ _ => h.block k hk, .inl rfl⟩
theorem Up.size (h : Up g v v1 w w1) : w.heap.size ≤ w1.heap.size := h.low.size
end
end
section
open Go.RowKit
structure Cd where
 op : Int
 p : Int
 n : ByteArray × Int
 A : Option Addr
 c : Nat
 ws : List (ByteArray × Int)
 B : Option Addr
 d : Nat
 ps : List ((ByteArray × Int) × (ByteArray × Int))
 pp : Int
 rest : List Value
def Cd.txt (x : Cd) : List ByteArray := x.ws.map Prod.fst
structure CdOk (w : World) (K : Nat) (x : Cd) : Prop where
 ws : Sl w K x.A (x.ws.flatMap wdC)
 ps : Sl w K x.B (x.ps.flatMap pwC)
 rest : x.rest.length = 10
 wfew : x.ws.length ≤ 65536
 pfew : x.ps.length ≤ 65536
 nn : x.n.1.size ≤ maxLen
 wn : ∀ t ∈ x.txt, t.size ≤ maxLen
 pn : ∀ p ∈ x.ps, p.1.1.size ≤ maxLen ∧ p.2.1.size ≤ maxLen
theorem CdOk.below {w w' : World} {K : Nat} {x : Cd} (h : CdOk w K x) (hb : Below K w w') : CdOk w' K x := ⟨Sl.below h.ws hb, Sl.below h.ps hb, h.rest, h.wfew, h.pfew, h.nn, h.wn, h.pn⟩
theorem CdOk.mono {w : World} {K K' : Nat} {x : Cd} (h : CdOk w K x) (hb : K ≤ K') : CdOk w K' x := ⟨h.ws.mono hb, h.ps.mono hb, h.rest, h.wfew, h.pfew, h.nn, h.wn, h.pn⟩
def LiveOk (w : World) (fL fV : ByteArray → Int) (B1 B2 : Nat) : Prop := ∃ n1 n2, FMap w B1 n1 fL ∧ FMap w B2 n2 fV
section
variable {w w' : World} {fL fV : ByteArray → Int} {B1 B2 : Nat}
theorem LiveOk.below (h : LiveOk w fL fV B1 B2) (hb : Below w.heap.size w w') : LiveOk w' fL fV B1 B2 := by
 obtain ⟨n1, n2, h1, h2⟩ := h
 exact ⟨n1, n2, h1.below hb h1.lt, h2.below hb h2.lt⟩
theorem LiveOk.lt (h : LiveOk w fL fV B1 B2) : B1 < w.heap.size ∧ B2 < w.heap.size := by
 obtain ⟨n1, n2, h1, h2⟩ := h
 exact ⟨h1.lt, h2.lt⟩
end
end
section
open Go.RowKit
theorem two_rows (w : World) (cs ds : Array Value) (t u : TypeId) : RowAt ((w.alloc (.cells cs t)).alloc (.cells ds u)) w.heap.size t cs ∧ RowAt ((w.alloc (.cells cs t)).alloc (.cells ds u)) (w.heap.size + 1) u ds ∧ Below w.heap.size w ((w.alloc (.cells cs t)).alloc (.cells ds u)) := by
 refine ⟨(RowAt.new w _ _).alloc _, ?_, ((zB _ _).alloc (zL _) _).alloc (by simp) _⟩
 have h := RowAt.new (w.alloc (.cells cs t)) u ds
 rw [show (w.alloc (.cells cs t)).heap.size = w.heap.size + 1 by simp] at h
 exact h
end
end Go.Proofs.YtppcjocmjpbmmaaGreatDoor
