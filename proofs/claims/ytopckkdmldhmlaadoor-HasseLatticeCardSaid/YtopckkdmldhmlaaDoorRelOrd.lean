/-
  Operations on whole relations inside a region that draws its order; Same. Conditions: 64 words below 2^64.
-/
import Derived.Test.YtopckkdmldhmlaaDoorRelC
import Derived.Test.YtopckkdmldhmlaaDoorOrd
namespace Go.Proofs.YtopckkdmldhmlaaDoor
open Go.RowKit RM

section
variable {o : Oper} {a : Act} {S : World → Prop}
theorem take_loadRel (x : Operand) (ho : o.op = .load 25 x) (g : Nat) (hx : a.eval x = .pointer (some ⟨g, 0, none⟩)) (n : Int) (l : List Nat) (hl : RW l) (hS : ∀ w, S w → RelAt w g n l) :
    ∀ w, S w → (execOp a.eval o).run Tryd.prog w = .ok (.value (.agg (rv n l))) w := by
  intro w h
  unfold execOp
  simp only [ho, hx, Instr.loadAt, Instr.sureAddr, Sem.run_bind, Sem.run_pure, Result.andThen_ok, run_loadVar_row w g _ _ _ (0, 0) _ (hS w h) Tryd.underlying25 rfl (rinfo n hl)]
theorem take_loadRows (x : Operand) (ho : o.op = .load 23 x) (g : Nat) (hx : a.eval x = .pointer (some ⟨g, 0, none⟩)) (l : List Nat) (hl : RW l) (hS : ∀ w, S w → RowsAt w g l) :
    ∀ w, S w → (execOp a.eval o).run Tryd.prog w = .ok (.value (.agg (uv l))) w := by
  intro w h
  unfold execOp
  simp only [ho, hx, Instr.loadAt, Instr.sureAddr, Sem.run_bind, Sem.run_pure, Result.andThen_ok, run_loadVar_row w g _ _ _ (0, 0) _ (hS w h) Tryd.underlying23 rfl (uinfo hl)]
theorem take_eqRel (x y : Operand) (t : TypeId) (ho : o.op = .binOp .eql 25 x y t) (n m : Int) (l k : List Nat) (hx : a.eval x = .agg (rv n l)) (hy : a.eval y = .agg (rv m k)) (hl : RW l) (hk : RW k) :
    ∀ w, S w → (execOp a.eval o).run Tryd.prog w = .ok (.value (.bool (eqRel n m l k))) w := by
  intro w _
  unfold execOp
  simp only [ho, hx, hy, Sem.run_bind, Sem.run_pure, run_eqGuard_agg w _ _ _ _ _ _ Tryd.eqGuardType25, Result.andThen_ok, run_eql_rel n m hl hk w]
theorem take_neqRel (x y : Operand) (t : TypeId) (ho : o.op = .binOp .neq 25 x y t) (n m : Int) (l k : List Nat) (hx : a.eval x = .agg (rv n l)) (hy : a.eval y = .agg (rv m k)) (hl : RW l) (hk : RW k) :
    ∀ w, S w → (execOp a.eval o).run Tryd.prog w = .ok (.value (.bool (!eqRel n m l k))) w := by
  intro w _
  unfold execOp
  simp only [ho, hx, hy, Sem.run_bind, Sem.run_pure, run_eqGuard_agg w _ _ _ _ _ _ Tryd.eqGuardType25, Result.andThen_ok, run_neq_rel n m hl hk w]
theorem take_field0 (x : Operand) (ho : o.op = .field 25 x 0) (n : Int) (l : List Nat) (hx : a.eval x = .agg (rv n l)) :
    ∀ w, S w → (execOp a.eval o).run Tryd.prog w = .ok (.value (.int .i64 n)) w := by
  intro w _
  unfold execOp
  simp only [ho, hx, Sem.run_bind, Sem.run_pure, Result.andThen_ok, run_field0]
end

/-- What a region may be told of the worlds that come: two relations in memory, and that what was there before the call is as it was. -/
theorem ex_two (B g q : Nat) (n m : Int) (l k : List Nat) (w0 w : World) (h1 : RelAt w g n l) (h2 : RelAt w q m k) (hb : Below B w0 w) :
    ∃ S : World → Prop, Hid (S w.drew) ∧ (∀ w', S w' → RelAt w' g n l) ∧ (∀ w', S w' → RelAt w' q m k) ∧ Hid (∀ w', S w' → Below B w0 w') ∧ Hid (B ≤ w.heap.size → ∀ wa wb, S wa → Below wa.heap.size wa wb → S wb) :=
  ⟨fun w' => RelAt w' g n l ∧ RelAt w' q m k ∧ Below B w0 w' ∧ w.heap.size ≤ w'.heap.size, ⟨h1, h2, hb.drew, Nat.le_refl _⟩, fun _ h => h.1, fun _ h => h.2.1, fun _ h => h.2.2.1,
    fun hB _ _ h hb => ⟨h.1.below hb h.1.lt, h.2.1.below hb h.2.1.lt, h.2.2.1.trans (hb.mono (Nat.le_trans hB h.2.2.2)), Nat.le_trans h.2.2.2 hb.size⟩⟩
theorem ex_one (B g : Nat) (n : Int) (l : List Nat) (w0 w : World) (h1 : RelAt w g n l) (hb : Below B w0 w) :
    ∃ S : World → Prop, Hid (S w.drew) ∧ (∀ w', S w' → RelAt w' g n l) ∧ Hid (∀ w', S w' → Below B w0 w') ∧ Hid (B ≤ w.heap.size → ∀ wa wb, S wa → Below wa.heap.size wa wb → S wb) :=
  ⟨fun w' => RelAt w' g n l ∧ Below B w0 w' ∧ w.heap.size ≤ w'.heap.size, ⟨h1, hb.drew, Nat.le_refl _⟩, fun _ h => h.1, fun _ h => h.2.1,
    fun hB _ _ h hb => ⟨h.1.below hb h.1.lt, h.2.1.trans (hb.mono (Nat.le_trans hB h.2.2)), Nat.le_trans h.2.2 hb.size⟩⟩

end Go.Proofs.YtopckkdmldhmlaaDoor
