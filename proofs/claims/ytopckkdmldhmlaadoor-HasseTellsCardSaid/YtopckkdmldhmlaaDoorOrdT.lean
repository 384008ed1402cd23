/-
  A region that draws its order, walked as a tree of orders: each operation is taken first, or comes up alone, or one of two comes up. Conditions: the tree is checked by the kernel.
-/
import Derived.Test.YtopckkdmldhmlaaDoorOrd
namespace Go.Proofs.YtopckkdmldhmlaaDoor
inductive OT where
  | nil
  | take (i : Nat) (r : OT)
  | solo (i : Nat) (r : OT)
  | two (i : Nat) (r : OT) (j : Nat) (s : OT)
def OT.len : OT → Nat
  | .nil => 0
  | .take _ r => r.len + 1
  | .solo _ r => r.len + 1
  | .two _ r _ _ => r.len + 1
section
variable {P : Program} {ops : Array Oper} {Q : Exit → Act → World → Prop} {S : World → Prop}
def otB (ops : Array Oper) : OT → Array Bool → Bool
  | .nil, listed => decide (Region.ready .any ops listed = [])
  | .take i r, listed => (Region.ready .any ops listed).contains i && Region.free .any ops listed i && otB ops r (listed.setIfInBounds i true)
  | .solo i r, listed => decide (Region.ready .any ops listed = [i]) && otB ops r (listed.setIfInBounds i true)
  | .two i r j s, listed => decide (Region.ready .any ops listed = [i, j]) && decide (r.len = s.len) && decide (i ≠ j) && otB ops r (listed.setIfInBounds i true) && otB ops s (listed.setIfInBounds j true)
def wpOT (P : Program) (ops : Array Oper) (Q : Exit → Act → World → Prop) (S : World → Prop) : OT → Act → World → Prop
  | .nil, a, w => Q .normal a w
  | .take i r, a, w => ∃ o v, ops[i]? = some o ∧ YieldsIf P ops S o v a ∧ wpOT P ops Q S r (a.put o.dst v) w
  | .solo i r, a, w => wpOp P ops Q i (fun a' w' => S w' ∧ wpOT P ops Q S r a' w') a w
  | .two i r j s, a, w => wpOp P ops Q i (fun a' w' => S w' ∧ wpOT P ops Q S r a' w') a w ∧ wpOp P ops Q j (fun a' w' => S w' ∧ wpOT P ops Q S s a' w') a w
theorem wpAnyH_of_ot (hsel : Region.noSelect ops = true) (hQ : ∀ c (a : Act) d v w, Q (.panic c) (a.put d v) w → Q (.panic c) a w) :
    ∀ (r : OT) (listed : Array Bool) (a : Act) (w : World), otB ops r listed = true → S w → wpOT P ops Q S r a w → wpAnyH P .any ops Q S r.len listed a w
  | .nil, listed, a, w, hB, _, h => wpAnyH_done (by simpa [otB] using hB) h _
  | .take i r, listed, a, w, hB, hS, h => by
    simp only [otB, Bool.and_eq_true] at hB
    obtain ⟨o, v, ho, hy, hr⟩ := h
    exact wpAnyH_take ho hsel hB.1.2 hB.1.1 (fun c a w => hQ c a _ _ w) hy hS (wpAnyH_of_ot hsel hQ r _ _ _ hB.2 hS hr)
  | .solo i r, listed, a, w, hB, hS, h => by
    simp only [otB, Bool.and_eq_true, decide_eq_true_eq] at hB
    refine wpAnyH_all hB.1 (by simp) fun j hj => ?_
    have hji : j = i := by simpa using hj
    subst hji
    exact wpOp_mono (fun a' w' h' => ⟨h'.1, wpAnyH_of_ot hsel hQ r _ _ _ hB.2 h'.1 h'.2⟩) h
  | .two i r j s, listed, a, w, hB, hS, h => by
    simp only [otB, Bool.and_eq_true, decide_eq_true_eq] at hB
    obtain ⟨⟨⟨⟨h1, h2⟩, h3⟩, h4⟩, h5⟩ := hB
    refine wpAnyH_all h1 (by simp) fun k hk => ?_
    have hkk : k = i ∨ k = j := by simpa using hk
    rcases hkk with rfl | rfl
    · exact wpOp_mono (fun a' w' h' => ⟨h'.1, wpAnyH_of_ot hsel hQ r _ _ _ h4 h'.1 h'.2⟩) h.1
    · refine wpOp_mono (fun a' w' h' => ⟨h'.1, ?_⟩) h.2
      show wpAnyH P .any ops Q S r.len _ _ _
      rw [h2]
      exact wpAnyH_of_ot hsel hQ s _ _ _ h5 h'.1 h'.2
theorem wp_region_ot {id : Nat} {a : Act} {w : World} (S : World → Prop) (r : OT) (hm : P.follows .mixedOrders = true) (hsel : Region.noSelect ops = true) (hl : r.len = ops.size)
    (hB : otB ops r (Array.replicate ops.size false) = true)
    (hS : S w.drew) (h : wpOT P ops (NoPanic Q) S r a w.drew) : (Code.region id ops true).wp P Q a w := by
  have h2 := wpAnyH_of_ot (Q := NoPanic Q) hsel (fun _ _ _ _ _ h => h) r _ a _ hB hS h
  rw [hl] at h2
  exact wp_region_noPanic (wp_region_held hm h2)
theorem wpOT_done {a : Act} {w : World} (h : Q .normal a w) : wpOT P ops (NoPanic Q) S .nil a w := h
theorem wpOT_step {i : Nat} {r : OT} {o : Oper} {a : Act} {w : World} (ho : ops[i]? = some o)
    (h : (Region.wanted o (yielded ops a.tmps) = false ∧ wpOT P ops Q S r (a.put o.dst undef) w) ∨
      (Region.wanted o (yielded ops a.tmps) = true ∧ ∃ v, (∀ w, S w → (execOp a.eval o).run P w = .ok (.value v) w) ∧ wpOT P ops Q S r (a.put o.dst v) w)) : wpOT P ops Q S (.take i r) a w := by
  rcases h with ⟨h1, h2⟩ | ⟨h1, v, h2, h3⟩
  · exact ⟨o, undef, ho, .inr ⟨h1, rfl⟩, h2⟩
  · exact ⟨o, v, ho, .inl ⟨h1, h2⟩, h3⟩
theorem wpOT_skip {r : OT} {o : Oper} {a : Act} {w : World} {p : Prop} (hw : Region.wanted o (yielded ops a.tmps) = false)
    (h : wpOT P ops Q S r (a.put o.dst undef) w) : (Region.wanted o (yielded ops a.tmps) = false ∧ wpOT P ops Q S r (a.put o.dst undef) w) ∨ p := .inl ⟨hw, h⟩
theorem wpOT_take {r : OT} {o : Oper} {v : Value} {a : Act} {w : World} {p : Prop} (hw : Region.wanted o (yielded ops a.tmps) = true)
    (hy : ∀ w, S w → (execOp a.eval o).run P w = .ok (.value v) w) (h : wpOT P ops Q S r (a.put o.dst v) w) :
    p ∨ (Region.wanted o (yielded ops a.tmps) = true ∧ ∃ v, (∀ w, S w → (execOp a.eval o).run P w = .ok (.value v) w) ∧ wpOT P ops Q S r (a.put o.dst v) w) := .inr ⟨hw, v, hy, h⟩
theorem wpOT_solo {i : Nat} {r : OT} {o : Oper} {a : Act} {w : World} (ho : ops[i]? = some o)
    (h : ∀ K' : Act → World → Prop, Shut (∀ a w, S w → wpOT P ops Q S r a w → K' a w) → if Region.wanted o (yielded ops a.tmps) = true then Oper.wp P o a w K' Q else K' (a.put o.dst undef) w) :
    wpOT P ops Q S (.solo i r) a w := wpOp_step ho fun K' hK => h K' fun a w hS hW => hK a w ⟨hS, hW⟩
theorem wpOT_now {i : Nat} {r : OT} {o : Oper} {a : Act} {w : World} (ho : ops[i]? = some o) (hw : Region.wanted o (yielded ops a.tmps) = true)
    (h : ∀ K' : Act → World → Prop, Shut (∀ a w, S w → wpOT P ops Q S r a w → K' a w) → Oper.wp P o a w K' Q) : wpOT P ops Q S (.solo i r) a w :=
  wpOT_solo ho fun K' hK => by rw [if_pos hw]; exact h K' hK
theorem wpOT_two {i j : Nat} {r s : OT} {a : Act} {w : World} (h1 : wpOT P ops Q S (.solo i r) a w) (h2 : wpOT P ops Q S (.solo j s) a w) : wpOT P ops Q S (.two i r j s) a w := ⟨h1, h2⟩
end
end Go.Proofs.YtopckkdmldhmlaaDoor
