/- Texts that SpellSoundCard need. Conditions: those that each states. -/

import Derived.Test.YtkgonoejnochjaaGreatDoorY1
set_option linter.unusedSimpArgs false
set_option linter.unusedVariables false
set_option maxRecDepth 8000
namespace Go.Proofs.YtkgonoejnochjaaGreatDoor.RM
open Go.Proofs.YtkgonoejnochjaaGreatDoor
end Go.Proofs.YtkgonoejnochjaaGreatDoor.RM
namespace Go.Proofs.YtkgonoejnochjaaGreatDoor
open Go.RowKit RM
section
variable {w w' : World} {g : Nat} {n : Int} {l : List Nat}
end
section
variable {w w' : World} {g q B : Nat} {n : Int} {l : List Nat}
end
section
variable {w w' w2 : World} {g q B : Nat} {n : Int} {l : List Nat}
end
section
variable {ops : Array Oper} {rest : List Oper} {o : Oper} {a : Act} {w : World} {Q : Exit → Act → World → Prop}
end
end Go.Proofs.YtkgonoejnochjaaGreatDoor
namespace Go.Proofs.YtkgonoejnochjaaGreatDoor
open Go.RowKit
section
variable {w w' : World} {g q B : Nat} {t : TypeId} {cs : Array Value}
end
end Go.Proofs.YtkgonoejnochjaaGreatDoor
namespace Go.Proofs.YtkgonoejnochjaaGreatDoor
open Go.RowKit RM
end Go.Proofs.YtkgonoejnochjaaGreatDoor
namespace Go.Proofs.YtkgonoejnochjaaGreatDoor
open Go.RowKit RM
end Go.Proofs.YtkgonoejnochjaaGreatDoor
namespace Go.Proofs.YtkgonoejnochjaaGreatDoor
open Go.RowKit RM
end Go.Proofs.YtkgonoejnochjaaGreatDoor
namespace Go.Proofs.YtkgonoejnochjaaGreatDoor
section
variable {P : Program} {ops : Array Oper} {Q : Exit → Act → World → Prop} {S : World → Prop}
end
end Go.Proofs.YtkgonoejnochjaaGreatDoor
namespace Go.Proofs.YtkgonoejnochjaaGreatDoor
open Go.RowKit RM
section
variable {o : Oper} {a : Act} {S : World → Prop}
end
end Go.Proofs.YtkgonoejnochjaaGreatDoor
namespace Go.Proofs.YtkgonoejnochjaaGreatDoor
open Go.RowKit RM
end Go.Proofs.YtkgonoejnochjaaGreatDoor
namespace Go.Proofs.YtkgonoejnochjaaGreatDoor
open Go.RowKit RM
end Go.Proofs.YtkgonoejnochjaaGreatDoor
namespace Go.Proofs.YtkgonoejnochjaaGreatDoor
open Go.RowKit RM
end Go.Proofs.YtkgonoejnochjaaGreatDoor
namespace Go.Proofs.YtkgonoejnochjaaGreatDoor
open Go.RowKit RM
end Go.Proofs.YtkgonoejnochjaaGreatDoor
namespace Go.Proofs.YtkgonoejnochjaaGreatDoor
open Go.RowKit RM
end Go.Proofs.YtkgonoejnochjaaGreatDoor
namespace Go.Proofs.YtkgonoejnochjaaGreatDoor
section
variable {P : Program} {ops : Array Oper} {Q : Exit → Act → World → Prop} {S : World → Prop}
end
end Go.Proofs.YtkgonoejnochjaaGreatDoor
namespace Go.Proofs.YtkgonoejnochjaaGreatDoor
section
variable {P : Program} {ops : Array Oper} {Q : Exit → Act → World → Prop} {S : World → Prop}
def ouB (ops : Array Oper) : OU → Array Bool → Bool
 | .nil, listed => decide (Region.ready .any ops listed = [])
 | .take i r, listed => (Region.ready .any ops listed).contains i && Region.free .any ops listed i && ouB ops r (listed.setIfInBounds i true)
 | .solo i r, listed => decide (Region.ready .any ops listed = [i]) && ouB ops r (listed.setIfInBounds i true)
 | .two i r j s, listed => decide (Region.ready .any ops listed = [i, j]) && decide (r.len = s.len) && decide (i ≠ j) && ouB ops r (listed.setIfInBounds i true) && ouB ops s (listed.setIfInBounds j true)
 | .three i r j s k t, listed => decide (Region.ready .any ops listed = [i, j, k]) && decide (r.len = s.len) && decide (r.len = t.len) && decide (i ≠ j) && decide (i ≠ k) && decide (j ≠ k) && ouB ops r (listed.setIfInBounds i true) && ouB ops s (listed.setIfInBounds j true) && ouB ops t (listed.setIfInBounds k true)
def wpOU (P : Program) (ops : Array Oper) (Q : Exit → Act → World → Prop) (S : World → Prop) : OU → Act → World → Prop
 | .nil, a, w => Q .normal a w
 | .take i r, a, w => ∃ o v, ops[i]? = some o ∧ YieldsIf P ops S o v a ∧ wpOU P ops Q S r (a.put o.dst v) w
 | .solo i r, a, w => wpOp P ops Q i (fun a' w' => S w' ∧ wpOU P ops Q S r a' w') a w
 | .two i r j s, a, w => wpOp P ops Q i (fun a' w' => S w' ∧ wpOU P ops Q S r a' w') a w ∧ wpOp P ops Q j (fun a' w' => S w' ∧ wpOU P ops Q S s a' w') a w
 | .three i r j s k t, a, w => wpOp P ops Q i (fun a' w' => S w' ∧ wpOU P ops Q S r a' w') a w ∧ wpOp P ops Q j (fun a' w' => S w' ∧ wpOU P ops Q S s a' w') a w ∧ wpOp P ops Q k (fun a' w' => S w' ∧ wpOU P ops Q S t a' w') a w
theorem wpAnyH_of_ou (hsel : Region.noSelect ops = true) (hQ : ∀ c (a : Act) d v w, Q (.panic c) (a.put d v) w → Q (.panic c) a w) :
 ∀ (r : OU) (listed : Array Bool) (a : Act) (w : World), ouB ops r listed = true → S w → wpOU P ops Q S r a w → wpAnyH P .any ops Q S r.len listed a w
 | .nil, listed, a, w, hB, _, h => wpAnyH_done (by simpa [ouB] using hB) h _
 | .take i r, listed, a, w, hB, hS, h => by
   simp only [ouB, Bool.and_eq_true] at hB
   obtain ⟨o, v, ho, hy, hr⟩ := h
   exact wpAnyH_take ho hsel hB.1.2 hB.1.1 (fun c a w => hQ c a _ _ w) hy hS (wpAnyH_of_ou hsel hQ r _ _ _ hB.2 hS hr)
 | .solo i r, listed, a, w, hB, hS, h => by
   simp only [ouB, Bool.and_eq_true, decide_eq_true_eq] at hB
   refine wpAnyH_all hB.1 (by simp) fun j hj => ?_
   have hji : j = i := by simpa using hj
   subst hji
   exact wpOp_mono (fun a' w' h' => ⟨h'.1, wpAnyH_of_ou hsel hQ r _ _ _ hB.2 h'.1 h'.2⟩) h
 | .two i r j s, listed, a, w, hB, hS, h => by
   simp only [ouB, Bool.and_eq_true, decide_eq_true_eq] at hB
   obtain ⟨⟨⟨⟨h1, h2⟩, h3⟩, h4⟩, h5⟩ := hB
   refine wpAnyH_all h1 (by simp) fun k hk => ?_
   have hkk : k = i ∨ k = j := by simpa using hk
   rcases hkk with rfl | rfl
   ·exact wpOp_mono (fun a' w' h' => ⟨h'.1, wpAnyH_of_ou hsel hQ r _ _ _ h4 h'.1 h'.2⟩) h.1
   ·refine wpOp_mono (fun a' w' h' => ⟨h'.1, ?_⟩) h.2
    show wpAnyH P .any ops Q S r.len _ _ _
    rw [h2]
    exact wpAnyH_of_ou hsel hQ s _ _ _ h5 h'.1 h'.2
 | .three i r j s k t, listed, a, w, hB, hS, h => by
   simp only [ouB, Bool.and_eq_true, decide_eq_true_eq] at hB
   obtain ⟨⟨⟨⟨⟨⟨⟨⟨h1, h2⟩, h2t⟩, h3⟩, h3b⟩, h3c⟩, h4⟩, h5⟩, h6⟩ := hB
   refine wpAnyH_all h1 (by simp) fun l hl => ?_
   have hkk : l = i ∨ l = j ∨ l = k := by simpa using hl
   rcases hkk with rfl | rfl | rfl
   ·exact wpOp_mono (fun a' w' h' => ⟨h'.1, wpAnyH_of_ou hsel hQ r _ _ _ h4 h'.1 h'.2⟩) h.1
   ·refine wpOp_mono (fun a' w' h' => ⟨h'.1, ?_⟩) h.2.1
    show wpAnyH P .any ops Q S r.len _ _ _
    rw [h2]
    exact wpAnyH_of_ou hsel hQ s _ _ _ h5 h'.1 h'.2
   ·refine wpOp_mono (fun a' w' h' => ⟨h'.1, ?_⟩) h.2.2
    show wpAnyH P .any ops Q S r.len _ _ _
    rw [h2t]
    exact wpAnyH_of_ou hsel hQ t _ _ _ h6 h'.1 h'.2
theorem wp_region_ou {id : Nat} {a : Act} {w : World} (S : World → Prop) (r : OU) (hm : P.follows .mixedOrders = true) (hsel : Region.noSelect ops = true) (hl : r.len = ops.size)
 (hB : ouB ops r (Array.replicate ops.size false) = true)
 (hS : S w.drew) (h : wpOU P ops (NoPanic Q) S r a w.drew) : (Code.region id ops true).wp P Q a w := by
 have h2 := wpAnyH_of_ou (Q := NoPanic Q) hsel (fun _ _ _ _ _ h => h) r _ a _ hB hS h
 rw [hl] at h2
 exact wp_region_noPanic (wp_region_held hm h2)
theorem wpOU_done {a : Act} {w : World} (h : Q .normal a w) : wpOU P ops (NoPanic Q) S .nil a w := h
theorem wpOU_step {i : Nat} {r : OU} {o : Oper} {a : Act} {w : World} (ho : ops[i]? = some o)
 (h : (Region.wanted o (yielded ops a.tmps) = false ∧ wpOU P ops Q S r (a.put o.dst undef) w) ∨
  (Region.wanted o (yielded ops a.tmps) = true ∧ ∃ v, (∀ w, S w → (execOp a.eval o).run P w = .ok (.value v) w) ∧ wpOU P ops Q S r (a.put o.dst v) w)) : wpOU P ops Q S (.take i r) a w := by
 rcases h with ⟨h1, h2⟩ | ⟨h1, v, h2, h3⟩
 ·exact ⟨o, undef, ho, .inr ⟨h1, rfl⟩, h2⟩
 ·exact ⟨o, v, ho, .inl ⟨h1, h2⟩, h3⟩
theorem wpOU_skip {r : OU} {o : Oper} {a : Act} {w : World} {p : Prop} (hw : Region.wanted o (yielded ops a.tmps) = false)
 (h : wpOU P ops Q S r (a.put o.dst undef) w) : (Region.wanted o (yielded ops a.tmps) = false ∧ wpOU P ops Q S r (a.put o.dst undef) w) ∨ p := .inl ⟨hw, h⟩
theorem wpOU_take {r : OU} {o : Oper} {v : Value} {a : Act} {w : World} {p : Prop} (hw : Region.wanted o (yielded ops a.tmps) = true)
 (hy : ∀ w, S w → (execOp a.eval o).run P w = .ok (.value v) w) (h : wpOU P ops Q S r (a.put o.dst v) w) :
 p ∨ (Region.wanted o (yielded ops a.tmps) = true ∧ ∃ v, (∀ w, S w → (execOp a.eval o).run P w = .ok (.value v) w) ∧ wpOU P ops Q S r (a.put o.dst v) w) := .inr ⟨hw, v, hy, h⟩
theorem wpOU_solo {i : Nat} {r : OU} {o : Oper} {a : Act} {w : World} (ho : ops[i]? = some o)
 (h : ∀ K' : Act → World → Prop, Shut (∀ a w, S w → wpOU P ops Q S r a w → K' a w) → if Region.wanted o (yielded ops a.tmps) = true then Oper.wp P o a w K' Q else K' (a.put o.dst undef) w) :
 wpOU P ops Q S (.solo i r) a w := wpOp_step ho fun K' hK => h K' fun a w hS hW => hK a w ⟨hS, hW⟩
theorem wpOU_three {i j k : Nat} {r s t : OU} {a : Act} {w : World} (h1 : wpOU P ops Q S (.solo i r) a w) (h2 : wpOU P ops Q S (.solo j s) a w) (h3 : wpOU P ops Q S (.solo k t) a w) : wpOU P ops Q S (.three i r j s k t) a w := ⟨h1, h2, h3⟩
theorem wpOU_two {i j : Nat} {r s : OU} {a : Act} {w : World} (h1 : wpOU P ops Q S (.solo i r) a w) (h2 : wpOU P ops Q S (.solo j s) a w) : wpOU P ops Q S (.two i r j s) a w := ⟨h1, h2⟩
end
end Go.Proofs.YtkgonoejnochjaaGreatDoor
namespace Go.Proofs.YtkgonoejnochjaaGreatDoor.RM
open Go.Proofs.YtkgonoejnochjaaGreatDoor
end Go.Proofs.YtkgonoejnochjaaGreatDoor.RM

