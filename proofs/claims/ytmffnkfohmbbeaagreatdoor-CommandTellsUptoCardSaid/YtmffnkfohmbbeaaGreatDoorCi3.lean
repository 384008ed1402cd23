/- Texts that all the claims need. Conditions: those that each states. -/
import Derived.ChangeKeysEq
import Derived.Deep.MidRow
import Derived.Deep.RegionHeld3
import Derived.Deep.WholeRow
import Derived.Laws.CopyOwn
import Derived.Laws.StructEq
import Derived.Lib.SlicesCompact
import Derived.Outline
import Derived.Sort.AssemblyPlain
import Derived.StillTailTactics
import Derived.Test.YtmffnkfohmbbeaaGreatDoorCi0
set_option linter.unusedSimpArgs false
set_option linter.unusedVariables false
set_option maxRecDepth 100000
set_option maxHeartbeats 40000000
namespace Go.Proofs.YtmffnkfohmbbeaaGreatDoor
namespace RM
open Go.Proofs.YtmffnkfohmbbeaaGreatDoor
def pts (n : Int) : Nat := if n < 0 then 0 else if 64 < n then 64 else n.toNat
def RW (l : List Nat) : Prop := l.length = 64 ∧ ∀ x ∈ l, x < 18446744073709551616
def zs : List Nat := List.replicate 64 0
theorem RW.zs : RW zs := ⟨by simp [Go.Proofs.YtmffnkfohmbbeaaGreatDoor.RM.zs], fun x hx => by simp [Go.Proofs.YtmffnkfohmbbeaaGreatDoor.RM.zs] at hx; omega⟩
theorem RW.lt {l : List Nat} (h : RW l) (i : Nat) : l.getD i 0 < 18446744073709551616 := by
 rw [List.getD_eq_getElem?_getD]
 cases hx : l[i]? with
 | none => simp
 | some x => exact h.2 x (List.mem_of_getElem? hx)
theorem RW.set {l : List Nat} (h : RW l) (i x : Nat) (hx : x < 18446744073709551616) : RW (l.set i x) :=
 ⟨by simp [h.1], fun y hy => by
  rcases List.mem_or_eq_of_mem_set hy with h1 | h1
  ·exact h.2 y h1
  ·omega⟩
def bt (l : List Nat) (i j : Nat) : Bool := (l.getD i 0).testBit j
def mkR (p : Nat) (R : Nat → Nat → Bool) : List Nat := (List.range 64).map fun i => MM.ofP (fun j => decide (i < p) && decide (j < p) && R i j) 64
theorem RW.mk (p : Nat) (R : Nat → Nat → Bool) : RW (mkR p R) := ⟨by simp [mkR], fun x hx => by
 simp only [mkR, List.mem_map] at hx
 obtain ⟨i, _, rfl⟩ := hx
 exact MM.ofP_lt _ _⟩
inductive Path (p : Nat) (R : Nat → Nat → Bool) : Nat → Nat → Prop where
 | refl (i : Nat) (h : i < p) : Path p R i i
 | step (i k j : Nat) (h : Path p R i k) (hr : R k j = true) (hj : j < p) : Path p R i j
theorem Path.trans {p : Nat} {R : Nat → Nat → Bool} {i j k : Nat} (h : Path p R i j) (h2 : Path p R j k) : Path p R i k := by
 induction h2 with
 | refl => exact h
 | step k j _ hr hj ih => exact Path.step _ k j ih hr hj
theorem Path.one {p : Nat} {R : Nat → Nat → Bool} {i j : Nat} (hi : i < p) (hr : R i j = true) (hj : j < p) : Path p R i j := Path.step i i j (Path.refl i hi) hr hj
def cl (n : Int) (l : List Nat) : List Nat := mkR (pts n) (bt l)
end RM
section
open Go.RowKit RM
section
variable {w w' : World} {g : Nat} {n : Int} {l : List Nat}
end
structure Else (g : Nat) (w w' : World) : Prop where
 os : w'.os = w.os
 tape : w'.tape = w.tape
 output : w'.output = w.output
 size : w'.heap.size = w.heap.size
 block : ∀ k, k ≠ g → w'.heap[k]? = w.heap[k]?
section
variable {w w' : World} {g q B : Nat} {n : Int} {l : List Nat}
theorem Else.setRow (w : World) (g : Nat) (cs : Array Value) : Else g w (w.setRow g cs) := ⟨rfl, rfl, rfl, by simp, fun k hk => setRow_other w g k cs hk⟩
theorem Else.setCell (w : World) (p : Addr) (u : Value) : Else p.block w (w.setCell p u) :=
 ⟨rfl, rfl, rfl, by simp [World.setCell], fun k hk => by simp only [World.setCell, Array.getElem?_modify, if_neg (show p.block ≠ k from fun e => hk e.symm)]⟩
theorem Else.below (h : Else g w w') (hB : B ≤ g) : Below B w w' := ⟨h.os, h.tape, h.output, by rw [h.size]; exact zL _, fun k hk => h.block k (by omega)⟩
end
structure Mut (g : Nat) (w w' : World) : Prop where
 os : w'.os = w.os
 tape : w'.tape = w.tape
 output : w'.output = w.output
 size : w.heap.size ≤ w'.heap.size
 block : ∀ k, k < w.heap.size → k ≠ g → w'.heap[k]? = w.heap[k]?
section
variable {w w' w2 : World} {g q B : Nat} {n : Int} {l : List Nat}
theorem Mut.refl (g : Nat) (w : World) : Mut g w w := ⟨rfl, rfl, rfl, zL _, fun _ _ _ => rfl⟩
theorem Mut.drewN (h : Mut g w w') (k : Nat) : Mut g w (w'.drewN k) := ⟨h.os, h.tape, h.output, h.size, h.block⟩
theorem Mut.drew (h : Mut g w w') : Mut g w w'.drew := ⟨h.os, h.tape, h.output, h.size, h.block⟩
theorem Mut.trans (h : Mut g w w') (h2 : Mut g w' w2) : Mut g w w2 := ⟨h2.os.trans h.os, h2.tape.trans h.tape, h2.output.trans h.output, zM h.size h2.size, fun k hk hg => (h2.block k (zT hk h.size) hg).trans (h.block k hk hg)⟩
theorem Mut.below (h : Mut g w w') (hB : B ≤ g) (hs : B ≤ w.heap.size) : Below B w w' := ⟨h.os, h.tape, h.output, h.size, fun k hk => h.block k (by omega) (by omega)⟩
end
section
variable {ops : Array Oper} {rest : List Oper} {o : Oper} {a : Act} {w : World} {Q : Exit → Act → World → Prop}
theorem wpList_wanted {P : Program} (hw : Region.wanted o (yielded ops a.tmps) = true) (h : ∀ K : Act → World → Prop, (∀ a w, wpList P ops Q rest a w → K a w) → o.wp P a w K Q) : wpList P ops Q (o :: rest) a w :=
 wpList_step fun K hK => by simp only [hw, if_true]; exact h K hK
end
end
section
open Go.RowKit
def RowAt (w : World) (g : Nat) (t : TypeId) (cs : Array Value) : Prop := w.heap[g]? = some (.cells cs t (0, 0))
section
variable {w w' : World} {g q B : Nat} {t : TypeId} {cs : Array Value}
theorem RowAt.lt (h : RowAt w g t cs) : g < w.heap.size := (Array.getElem?_eq_some_iff.1 h).1
theorem RowAt.cell (h : RowAt w g t cs) (j : Nat) : w.cell? ⟨g, j, none⟩ = cs[j]? := cell_of_row w g j cs t (0, 0) h
theorem RowAt.free (h : RowAt w g t cs) (o : Nat) : w.frozen? ⟨g, o, none⟩ = false := by unfold RowAt at h; simp [World.frozen?, h]
theorem RowAt.new (w : World) (t : TypeId) (cs : Array Value) : RowAt (w.alloc (.cells cs t)) w.heap.size t cs := heap_alloc_new w _
theorem RowAt.alloc (h : RowAt w g t cs) (o : Obj) : RowAt (w.alloc o) g t cs := (heap_alloc_old w o h.lt).trans h
theorem RowAt.drewN (h : RowAt w g t cs) (k : Nat) : RowAt (w.drewN k) g t cs := h
theorem RowAt.drew (h : RowAt w g t cs) : RowAt w.drew g t cs := h
theorem RowAt.below (h : RowAt w g t cs) (hb : Below B w w') (hg : g < B) : RowAt w' g t cs := (hb.block g hg).trans h
theorem RowAt.grown {row : Option Nat} (h : RowAt w g t cs) (hb : w.grownBy w' row) (hg : row ≠ some g) : RowAt w' g t cs := (hb.block g h.lt (fun e => hg e.symm)).trans h
theorem RowAt.put (h : RowAt w g t cs) (i : Nat) (u : Value) : RowAt (w.setCell ⟨g, i, none⟩ u) g t (cs.setIfInBounds i u) := by
 unfold RowAt at h ⊢
 simp [World.setCell, Array.getElem?_modify, h]
theorem RowAt.far (h : RowAt w g t cs) {p : Addr} (hp : p.block ≠ g) (u : Value) : RowAt (w.setCell p u) g t cs := by
 unfold RowAt at h ⊢
 simp only [World.setCell, Array.getElem?_modify, if_neg hp]
 exact h
theorem RowAt.setRow (h : RowAt w g t cs) (ds : Array Value) : RowAt (w.setRow g ds) g t ds := setRow_heap w g _ _ _ _ h
theorem RowAt.range (h : RowAt w g t cs) (o : Nat) (ds : List Value) (hd : ∀ j u, ds[j]? = some u → cs[o + j]? = some u) : w.rangeAt g o ds := fun j v hv => (h.cell (o + j)).trans (hd j v hv)
theorem range_below {b o : Nat} {ds : List Value} (h : w.rangeAt b o ds) (hb : Below B w w') (hg : b < B) : w'.rangeAt b o ds := fun j v hv => (hb.cell (p := ⟨b, o + j, none⟩) hg).trans (h j v hv)
end
end
section
open Go.RowKit RM
end
section
open Go.RowKit RM
end
section
open Go.RowKit RM
end
section
section
variable {P : Program} {ops : Array Oper} {Q : Exit → Act → World → Prop} {S : World → Prop}
def ordB (ops : Array Oper) : List (Nat × Bool) → Array Bool → Bool
 | [], listed => decide (Region.ready .any ops listed = [])
 | (i, true) :: r, listed => (Region.ready .any ops listed).contains i && Region.free .any ops listed i && ordB ops r (listed.setIfInBounds i true)
 | (i, false) :: r, listed => decide (Region.ready .any ops listed = [i]) && ordB ops r (listed.setIfInBounds i true)
def wpOrd (P : Program) (ops : Array Oper) (Q : Exit → Act → World → Prop) (S : World → Prop) : List (Nat × Bool) → Act → World → Prop
 | [], a, w => Q .normal a w
 | (i, true) :: r, a, w => ∃ o v, ops[i]? = some o ∧ YieldsIf P ops S o v a ∧ wpOrd P ops Q S r (a.put o.dst v) w
 | (i, false) :: r, a, w => wpOp P ops Q i (fun a' w' => S w' ∧ wpOrd P ops Q S r a' w') a w
theorem wpAnyH_of_ord (hsel : Region.noSelect ops = true) (hQ : ∀ c (a : Act) d v w, Q (.panic c) (a.put d v) w → Q (.panic c) a w) :
 ∀ (r : List (Nat × Bool)) (listed : Array Bool) (a : Act) (w : World), ordB ops r listed = true → S w → wpOrd P ops Q S r a w → wpAnyH P .any ops Q S r.length listed a w
 | [], listed, a, w, hB, _, h => wpAnyH_done (by simpa [ordB] using hB) h _
 | (i, true) :: r, listed, a, w, hB, hS, h => by
   simp only [ordB, Bool.and_eq_true] at hB
   obtain ⟨o, v, ho, hy, hr⟩ := h
   exact wpAnyH_take ho hsel hB.1.2 hB.1.1 (fun c a w => hQ c a _ _ w) hy hS (wpAnyH_of_ord hsel hQ r _ _ _ hB.2 hS hr)
 | (i, false) :: r, listed, a, w, hB, hS, h => by
   simp only [ordB, Bool.and_eq_true, decide_eq_true_eq] at hB
   refine wpAnyH_all hB.1 (by simp) fun j hj => ?_
   have hji : j = i := by simpa using hj
   subst hji
   exact wpOp_mono (fun a' w' h' => ⟨h'.1, wpAnyH_of_ord hsel hQ r _ _ _ hB.2 h'.1 h'.2⟩) h
theorem wp_region_ord {id : Nat} {a : Act} {w : World} (S : World → Prop) (r : List (Nat × Bool)) (hm : P.follows .mixedOrders = true) (hsel : Region.noSelect ops = true) (hl : r.length = ops.size)
 (hB : ordB ops r (Array.replicate ops.size false) = true)
 (hS : S w.drew) (h : wpOrd P ops (NoPanic Q) S r a w.drew) : (Code.region id ops true).wp P Q a w := by
 have h2 := wpAnyH_of_ord (Q := NoPanic Q) hsel (fun _ _ _ _ _ h => h) r _ a _ hB hS h
 rw [hl] at h2
 exact wp_region_noPanic (wp_region_held hm h2)
theorem wpOrd_done {a : Act} {w : World} (h : Q .normal a w) : wpOrd P ops (NoPanic Q) S [] a w := h
theorem wpOrd_step {i : Nat} {r : List (Nat × Bool)} {o : Oper} {a : Act} {w : World} (ho : ops[i]? = some o)
 (h : (Region.wanted o (yielded ops a.tmps) = false ∧ wpOrd P ops Q S r (a.put o.dst undef) w) ∨
  (Region.wanted o (yielded ops a.tmps) = true ∧ ∃ v, (∀ w, S w → (execOp a.eval o).run P w = .ok (.value v) w) ∧ wpOrd P ops Q S r (a.put o.dst v) w)) : wpOrd P ops Q S ((i, true) :: r) a w := by
 rcases h with ⟨h1, h2⟩ | ⟨h1, v, h2, h3⟩
 ·exact ⟨o, undef, ho, .inr ⟨h1, rfl⟩, h2⟩
 ·exact ⟨o, v, ho, .inl ⟨h1, h2⟩, h3⟩
theorem wpOrd_skip {r : List (Nat × Bool)} {o : Oper} {a : Act} {w : World} {p : Prop} (hw : Region.wanted o (yielded ops a.tmps) = false)
 (h : wpOrd P ops Q S r (a.put o.dst undef) w) : (Region.wanted o (yielded ops a.tmps) = false ∧ wpOrd P ops Q S r (a.put o.dst undef) w) ∨ p := .inl ⟨hw, h⟩
theorem wpOrd_take {r : List (Nat × Bool)} {o : Oper} {v : Value} {a : Act} {w : World} {p : Prop} (hw : Region.wanted o (yielded ops a.tmps) = true)
 (hy : ∀ w, S w → (execOp a.eval o).run P w = .ok (.value v) w) (h : wpOrd P ops Q S r (a.put o.dst v) w) :
 p ∨ (Region.wanted o (yielded ops a.tmps) = true ∧ ∃ v, (∀ w, S w → (execOp a.eval o).run P w = .ok (.value v) w) ∧ wpOrd P ops Q S r (a.put o.dst v) w) := .inr ⟨hw, v, hy, h⟩
theorem wpOrd_solo {i : Nat} {r : List (Nat × Bool)} {o : Oper} {a : Act} {w : World} (ho : ops[i]? = some o)
 (h : ∀ K' : Act → World → Prop, Shut (∀ a w, S w → wpOrd P ops Q S r a w → K' a w) → if Region.wanted o (yielded ops a.tmps) = true then Oper.wp P o a w K' Q else K' (a.put o.dst undef) w) :
 wpOrd P ops Q S ((i, false) :: r) a w := wpOp_step ho fun K' hK => h K' fun a w hS hW => hK a w ⟨hS, hW⟩
end
end
section
open Go.RowKit RM
section
variable {o : Oper} {a : Act} {S : World → Prop}
end
end
section
open Go.RowKit RM
end
section
open Go.RowKit RM
end
section
open Go.RowKit RM
end
section
open Go.RowKit RM
end
section
open Go.RowKit RM
def pcells : List (Int × Int) → List Value
 | [] => []
 | q :: l => .int .i64 q.1 :: .int .i64 q.2 :: pcells l
theorem pcells_length : ∀ l, (pcells l).length = 2 * l.length
 | [] => rfl
 | q :: l => by simp [pcells, pcells_length l]; omega
theorem pcells_at : ∀ (l : List (Int × Int)) (k : Nat), k < l.length → (pcells l)[k * 2]? = some (.int .i64 (l.getD k (0, 0)).1) ∧ (pcells l)[k * 2 + 1]? = some (.int .i64 (l.getD k (0, 0)).2)
 | [], k, h => by simp at h
 | q :: l, 0, _ => by simp [pcells]
 | q :: l, k + 1, h => by
   obtain ⟨h1, h2⟩ := pcells_at l k (by simpa using h)
   have e : (k + 1) * 2 = k * 2 + 1 + 1 := by omega
   rw [e]
   simp only [pcells, zA2, List.getD_cons_succ]
   exact ⟨h1, h2⟩
def Prs (w : World) (A : Option Addr) (xs : List (Int × Int)) : Prop := Sl w w.heap.size A (pcells xs)
theorem Prs.below {w w' : World} {A : Option Addr} {xs : List (Int × Int)} (h : Prs w A xs) (hb : Below w.heap.size w w') : Prs w' A xs := (Sl.below h hb).mono hb.size
theorem Prs.cell {w : World} {A : Option Addr} {xs : List (Int × Int)} (h : Prs w A xs) (hne : xs ≠ []) : ∃ b o, A = some ⟨b, o, none⟩ ∧ b < w.heap.size ∧ ∀ j, j < xs.length → w.cell? ⟨b, o + j * 2, none⟩ = some (.int .i64 (xs.getD j (0, 0)).1) ∧ w.cell? ⟨b, o + j * 2 + 1, none⟩ = some (.int .i64 (xs.getD j (0, 0)).2) := by
 obtain ⟨b, o, hA, hb, hc⟩ := Sl.at_ h (fun e => hne (by have := congrArg List.length e; rw [pcells_length] at this; simp at this; exact List.eq_nil_of_length_eq_zero (by omega)))
 exact ⟨b, o, hA, hb, fun j hj => ⟨hc _ _ (pcells_at xs j hj).1, by rw [Nat.add_assoc]; exact hc _ _ (pcells_at xs j hj).2⟩⟩
end
section
inductive OT where
 | nil
 | take (i : Nat) (r : OT)
 | solo (i : Nat) (r : OT)
 | two (i : Nat) (r : OT) (j : Nat) (s : OT)
def OT.len : OT → Nat
 | .nil => 0
 | .take _ r => r.len + 1
 | .solo _ r => r.len + 1
 | .two _ r _ _ => r.len + 1
section
variable {P : Program} {ops : Array Oper} {Q : Exit → Act → World → Prop} {S : World → Prop}
def otB (ops : Array Oper) : OT → Array Bool → Bool
 | .nil, listed => decide (Region.ready .any ops listed = [])
 | .take i r, listed => (Region.ready .any ops listed).contains i && Region.free .any ops listed i && otB ops r (listed.setIfInBounds i true)
 | .solo i r, listed => decide (Region.ready .any ops listed = [i]) && otB ops r (listed.setIfInBounds i true)
 | .two i r j s, listed => decide (Region.ready .any ops listed = [i, j]) && decide (r.len = s.len) && decide (i ≠ j) && otB ops r (listed.setIfInBounds i true) && otB ops s (listed.setIfInBounds j true)
def wpOT (P : Program) (ops : Array Oper) (Q : Exit → Act → World → Prop) (S : World → Prop) : OT → Act → World → Prop
 | .nil, a, w => Q .normal a w
 | .take i r, a, w => ∃ o v, ops[i]? = some o ∧ YieldsIf P ops S o v a ∧ wpOT P ops Q S r (a.put o.dst v) w
 | .solo i r, a, w => wpOp P ops Q i (fun a' w' => S w' ∧ wpOT P ops Q S r a' w') a w
 | .two i r j s, a, w => wpOp P ops Q i (fun a' w' => S w' ∧ wpOT P ops Q S r a' w') a w ∧ wpOp P ops Q j (fun a' w' => S w' ∧ wpOT P ops Q S s a' w') a w
theorem wpAnyH_of_ot (hsel : Region.noSelect ops = true) (hQ : ∀ c (a : Act) d v w, Q (.panic c) (a.put d v) w → Q (.panic c) a w) :
 ∀ (r : OT) (listed : Array Bool) (a : Act) (w : World), otB ops r listed = true → S w → wpOT P ops Q S r a w → wpAnyH P .any ops Q S r.len listed a w
 | .nil, listed, a, w, hB, _, h => wpAnyH_done (by simpa [otB] using hB) h _
 | .take i r, listed, a, w, hB, hS, h => by
   simp only [otB, Bool.and_eq_true] at hB
   obtain ⟨o, v, ho, hy, hr⟩ := h
   exact wpAnyH_take ho hsel hB.1.2 hB.1.1 (fun c a w => hQ c a _ _ w) hy hS (wpAnyH_of_ot hsel hQ r _ _ _ hB.2 hS hr)
 | .solo i r, listed, a, w, hB, hS, h => by
   simp only [otB, Bool.and_eq_true, decide_eq_true_eq] at hB
   refine wpAnyH_all hB.1 (by simp) fun j hj => ?_
   have hji : j = i := by simpa using hj
   subst hji
   exact wpOp_mono (fun a' w' h' => ⟨h'.1, wpAnyH_of_ot hsel hQ r _ _ _ hB.2 h'.1 h'.2⟩) h
 | .two i r j s, listed, a, w, hB, hS, h => by
   simp only [otB, Bool.and_eq_true, decide_eq_true_eq] at hB
   obtain ⟨⟨⟨⟨h1, h2⟩, h3⟩, h4⟩, h5⟩ := hB
   refine wpAnyH_all h1 (by simp) fun k hk => ?_
   have hkk : k = i ∨ k = j := by simpa using hk
   rcases hkk with rfl | rfl
   ·exact wpOp_mono (fun a' w' h' => ⟨h'.1, wpAnyH_of_ot hsel hQ r _ _ _ h4 h'.1 h'.2⟩) h.1
   ·refine wpOp_mono (fun a' w' h' => ⟨h'.1, ?_⟩) h.2
    show wpAnyH P .any ops Q S r.len _ _ _
    rw [h2]
    exact wpAnyH_of_ot hsel hQ s _ _ _ h5 h'.1 h'.2
theorem wp_region_ot {id : Nat} {a : Act} {w : World} (S : World → Prop) (r : OT) (hm : P.follows .mixedOrders = true) (hsel : Region.noSelect ops = true) (hl : r.len = ops.size)
 (hB : otB ops r (Array.replicate ops.size false) = true)
 (hS : S w.drew) (h : wpOT P ops (NoPanic Q) S r a w.drew) : (Code.region id ops true).wp P Q a w := by
 have h2 := wpAnyH_of_ot (Q := NoPanic Q) hsel (fun _ _ _ _ _ h => h) r _ a _ hB hS h
 rw [hl] at h2
 exact wp_region_noPanic (wp_region_held hm h2)
theorem wpOT_done {a : Act} {w : World} (h : Q .normal a w) : wpOT P ops (NoPanic Q) S .nil a w := h
theorem wpOT_step {i : Nat} {r : OT} {o : Oper} {a : Act} {w : World} (ho : ops[i]? = some o)
 (h : (Region.wanted o (yielded ops a.tmps) = false ∧ wpOT P ops Q S r (a.put o.dst undef) w) ∨
  (Region.wanted o (yielded ops a.tmps) = true ∧ ∃ v, (∀ w, S w → (execOp a.eval o).run P w = .ok (.value v) w) ∧ wpOT P ops Q S r (a.put o.dst v) w)) : wpOT P ops Q S (.take i r) a w := by
 rcases h with ⟨h1, h2⟩ | ⟨h1, v, h2, h3⟩
 ·exact ⟨o, undef, ho, .inr ⟨h1, rfl⟩, h2⟩
 ·exact ⟨o, v, ho, .inl ⟨h1, h2⟩, h3⟩
theorem wpOT_skip {r : OT} {o : Oper} {a : Act} {w : World} {p : Prop} (hw : Region.wanted o (yielded ops a.tmps) = false)
 (h : wpOT P ops Q S r (a.put o.dst undef) w) : (Region.wanted o (yielded ops a.tmps) = false ∧ wpOT P ops Q S r (a.put o.dst undef) w) ∨ p := .inl ⟨hw, h⟩
theorem wpOT_take {r : OT} {o : Oper} {v : Value} {a : Act} {w : World} {p : Prop} (hw : Region.wanted o (yielded ops a.tmps) = true)
 (hy : ∀ w, S w → (execOp a.eval o).run P w = .ok (.value v) w) (h : wpOT P ops Q S r (a.put o.dst v) w) :
 p ∨ (Region.wanted o (yielded ops a.tmps) = true ∧ ∃ v, (∀ w, S w → (execOp a.eval o).run P w = .ok (.value v) w) ∧ wpOT P ops Q S r (a.put o.dst v) w) := .inr ⟨hw, v, hy, h⟩
theorem wpOT_solo {i : Nat} {r : OT} {o : Oper} {a : Act} {w : World} (ho : ops[i]? = some o)
 (h : ∀ K' : Act → World → Prop, Shut (∀ a w, S w → wpOT P ops Q S r a w → K' a w) → if Region.wanted o (yielded ops a.tmps) = true then Oper.wp P o a w K' Q else K' (a.put o.dst undef) w) :
 wpOT P ops Q S (.solo i r) a w := wpOp_step ho fun K' hK => h K' fun a w hS hW => hK a w ⟨hS, hW⟩
theorem wpOT_two {i j : Nat} {r s : OT} {a : Act} {w : World} (h1 : wpOT P ops Q S (.solo i r) a w) (h2 : wpOT P ops Q S (.solo j s) a w) : wpOT P ops Q S (.two i r j s) a w := ⟨h1, h2⟩
end
end
section
inductive OU where
 | nil
 | take (i : Nat) (r : OU)
 | solo (i : Nat) (r : OU)
 | two (i : Nat) (r : OU) (j : Nat) (s : OU)
 | three (i : Nat) (r : OU) (j : Nat) (s : OU) (k : Nat) (t : OU)
def OU.len : OU → Nat
 | .nil => 0
 | .take _ r => r.len + 1
 | .solo _ r => r.len + 1
 | .two _ r _ _ => r.len + 1
 | .three _ r _ _ _ _ => r.len + 1
section
variable {P : Program} {ops : Array Oper} {Q : Exit → Act → World → Prop} {S : World → Prop}
def ouB (ops : Array Oper) : OU → Array Bool → Bool
 | .nil, listed => decide (Region.ready .any ops listed = [])
 | .take i r, listed => (Region.ready .any ops listed).contains i && Region.free .any ops listed i && ouB ops r (listed.setIfInBounds i true)
 | .solo i r, listed => decide (Region.ready .any ops listed = [i]) && ouB ops r (listed.setIfInBounds i true)
 | .two i r j s, listed => decide (Region.ready .any ops listed = [i, j]) && decide (r.len = s.len) && decide (i ≠ j) && ouB ops r (listed.setIfInBounds i true) && ouB ops s (listed.setIfInBounds j true)
 | .three i r j s k t, listed => decide (Region.ready .any ops listed = [i, j, k]) && decide (r.len = s.len) && decide (r.len = t.len) && decide (i ≠ j) && decide (i ≠ k) && decide (j ≠ k) && ouB ops r (listed.setIfInBounds i true) && ouB ops s (listed.setIfInBounds j true) && ouB ops t (listed.setIfInBounds k true)
def wpOU (P : Program) (ops : Array Oper) (Q : Exit → Act → World → Prop) (S : World → Prop) : OU → Act → World → Prop
 | .nil, a, w => Q .normal a w
 | .take i r, a, w => ∃ o v, ops[i]? = some o ∧ YieldsIf P ops S o v a ∧ wpOU P ops Q S r (a.put o.dst v) w
 | .solo i r, a, w => wpOp P ops Q i (fun a' w' => S w' ∧ wpOU P ops Q S r a' w') a w
 | .two i r j s, a, w => wpOp P ops Q i (fun a' w' => S w' ∧ wpOU P ops Q S r a' w') a w ∧ wpOp P ops Q j (fun a' w' => S w' ∧ wpOU P ops Q S s a' w') a w
 | .three i r j s k t, a, w => wpOp P ops Q i (fun a' w' => S w' ∧ wpOU P ops Q S r a' w') a w ∧ wpOp P ops Q j (fun a' w' => S w' ∧ wpOU P ops Q S s a' w') a w ∧ wpOp P ops Q k (fun a' w' => S w' ∧ wpOU P ops Q S t a' w') a w
theorem wpAnyH_of_ou (hsel : Region.noSelect ops = true) (hQ : ∀ c (a : Act) d v w, Q (.panic c) (a.put d v) w → Q (.panic c) a w) :
 ∀ (r : OU) (listed : Array Bool) (a : Act) (w : World), ouB ops r listed = true → S w → wpOU P ops Q S r a w → wpAnyH P .any ops Q S r.len listed a w
 | .nil, listed, a, w, hB, _, h => wpAnyH_done (by simpa [ouB] using hB) h _
 | .take i r, listed, a, w, hB, hS, h => by
   simp only [ouB, Bool.and_eq_true] at hB
   obtain ⟨o, v, ho, hy, hr⟩ := h
   exact wpAnyH_take ho hsel hB.1.2 hB.1.1 (fun c a w => hQ c a _ _ w) hy hS (wpAnyH_of_ou hsel hQ r _ _ _ hB.2 hS hr)
 | .solo i r, listed, a, w, hB, hS, h => by
   simp only [ouB, Bool.and_eq_true, decide_eq_true_eq] at hB
   refine wpAnyH_all hB.1 (by simp) fun j hj => ?_
   have hji : j = i := by simpa using hj
   subst hji
   exact wpOp_mono (fun a' w' h' => ⟨h'.1, wpAnyH_of_ou hsel hQ r _ _ _ hB.2 h'.1 h'.2⟩) h
 | .two i r j s, listed, a, w, hB, hS, h => by
   simp only [ouB, Bool.and_eq_true, decide_eq_true_eq] at hB
   obtain ⟨⟨⟨⟨h1, h2⟩, h3⟩, h4⟩, h5⟩ := hB
   refine wpAnyH_all h1 (by simp) fun k hk => ?_
   have hkk : k = i ∨ k = j := by simpa using hk
   rcases hkk with rfl | rfl
   ·exact wpOp_mono (fun a' w' h' => ⟨h'.1, wpAnyH_of_ou hsel hQ r _ _ _ h4 h'.1 h'.2⟩) h.1
   ·refine wpOp_mono (fun a' w' h' => ⟨h'.1, ?_⟩) h.2
    show wpAnyH P .any ops Q S r.len _ _ _
    rw [h2]
    exact wpAnyH_of_ou hsel hQ s _ _ _ h5 h'.1 h'.2
 | .three i r j s k t, listed, a, w, hB, hS, h => by
   simp only [ouB, Bool.and_eq_true, decide_eq_true_eq] at hB
   obtain ⟨⟨⟨⟨⟨⟨⟨⟨h1, h2⟩, h2t⟩, h3⟩, h3b⟩, h3c⟩, h4⟩, h5⟩, h6⟩ := hB
   refine wpAnyH_all h1 (by simp) fun l hl => ?_
   have hkk : l = i ∨ l = j ∨ l = k := by simpa using hl
   rcases hkk with rfl | rfl | rfl
   ·exact wpOp_mono (fun a' w' h' => ⟨h'.1, wpAnyH_of_ou hsel hQ r _ _ _ h4 h'.1 h'.2⟩) h.1
   ·refine wpOp_mono (fun a' w' h' => ⟨h'.1, ?_⟩) h.2.1
    show wpAnyH P .any ops Q S r.len _ _ _
    rw [h2]
    exact wpAnyH_of_ou hsel hQ s _ _ _ h5 h'.1 h'.2
   ·refine wpOp_mono (fun a' w' h' => ⟨h'.1, ?_⟩) h.2.2
    show wpAnyH P .any ops Q S r.len _ _ _
    rw [h2t]
    exact wpAnyH_of_ou hsel hQ t _ _ _ h6 h'.1 h'.2
theorem wp_region_ou {id : Nat} {a : Act} {w : World} (S : World → Prop) (r : OU) (hm : P.follows .mixedOrders = true) (hsel : Region.noSelect ops = true) (hl : r.len = ops.size)
 (hB : ouB ops r (Array.replicate ops.size false) = true)
 (hS : S w.drew) (h : wpOU P ops (NoPanic Q) S r a w.drew) : (Code.region id ops true).wp P Q a w := by
 have h2 := wpAnyH_of_ou (Q := NoPanic Q) hsel (fun _ _ _ _ _ h => h) r _ a _ hB hS h
 rw [hl] at h2
 exact wp_region_noPanic (wp_region_held hm h2)
theorem wpOU_done {a : Act} {w : World} (h : Q .normal a w) : wpOU P ops (NoPanic Q) S .nil a w := h
theorem wpOU_step {i : Nat} {r : OU} {o : Oper} {a : Act} {w : World} (ho : ops[i]? = some o)
 (h : (Region.wanted o (yielded ops a.tmps) = false ∧ wpOU P ops Q S r (a.put o.dst undef) w) ∨
  (Region.wanted o (yielded ops a.tmps) = true ∧ ∃ v, (∀ w, S w → (execOp a.eval o).run P w = .ok (.value v) w) ∧ wpOU P ops Q S r (a.put o.dst v) w)) : wpOU P ops Q S (.take i r) a w := by
 rcases h with ⟨h1, h2⟩ | ⟨h1, v, h2, h3⟩
 ·exact ⟨o, undef, ho, .inr ⟨h1, rfl⟩, h2⟩
 ·exact ⟨o, v, ho, .inl ⟨h1, h2⟩, h3⟩
theorem wpOU_skip {r : OU} {o : Oper} {a : Act} {w : World} {p : Prop} (hw : Region.wanted o (yielded ops a.tmps) = false)
 (h : wpOU P ops Q S r (a.put o.dst undef) w) : (Region.wanted o (yielded ops a.tmps) = false ∧ wpOU P ops Q S r (a.put o.dst undef) w) ∨ p := .inl ⟨hw, h⟩
theorem wpOU_take {r : OU} {o : Oper} {v : Value} {a : Act} {w : World} {p : Prop} (hw : Region.wanted o (yielded ops a.tmps) = true)
 (hy : ∀ w, S w → (execOp a.eval o).run P w = .ok (.value v) w) (h : wpOU P ops Q S r (a.put o.dst v) w) :
 p ∨ (Region.wanted o (yielded ops a.tmps) = true ∧ ∃ v, (∀ w, S w → (execOp a.eval o).run P w = .ok (.value v) w) ∧ wpOU P ops Q S r (a.put o.dst v) w) := .inr ⟨hw, v, hy, h⟩
theorem wpOU_solo {i : Nat} {r : OU} {o : Oper} {a : Act} {w : World} (ho : ops[i]? = some o)
 (h : ∀ K' : Act → World → Prop, Shut (∀ a w, S w → wpOU P ops Q S r a w → K' a w) → if Region.wanted o (yielded ops a.tmps) = true then Oper.wp P o a w K' Q else K' (a.put o.dst undef) w) :
 wpOU P ops Q S (.solo i r) a w := wpOp_step ho fun K' hK => h K' fun a w hS hW => hK a w ⟨hS, hW⟩
theorem wpOU_three {i j k : Nat} {r s t : OU} {a : Act} {w : World} (h1 : wpOU P ops Q S (.solo i r) a w) (h2 : wpOU P ops Q S (.solo j s) a w) (h3 : wpOU P ops Q S (.solo k t) a w) : wpOU P ops Q S (.three i r j s k t) a w := ⟨h1, h2, h3⟩
theorem wpOU_two {i j : Nat} {r s : OU} {a : Act} {w : World} (h1 : wpOU P ops Q S (.solo i r) a w) (h2 : wpOU P ops Q S (.solo j s) a w) : wpOU P ops Q S (.two i r j s) a w := ⟨h1, h2⟩
end
end
namespace RM
open Go.Proofs.YtmffnkfohmbbeaaGreatDoor
end RM
end Go.Proofs.YtmffnkfohmbbeaaGreatDoor
