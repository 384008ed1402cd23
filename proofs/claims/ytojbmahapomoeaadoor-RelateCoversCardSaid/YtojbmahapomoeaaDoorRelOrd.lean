/-
  Operations on whole relations inside a region that draws its order; Same. Conditions: 64 words below 2^64.
-/
import Derived.Test.YtojbmahapomoeaaDoorRelC
import Derived.Test.YtojbmahapomoeaaDoorOrd
namespace Go.Proofs.YtojbmahapomoeaaDoor
open Go.RowKit RM

section
variable {o : Oper} {a : Act} {S : World → Prop}
theorem take_loadRel (x : Operand) (ho : o.op = .load 25 x) (g : Nat) (hx : a.eval x = .pointer (some ⟨g, 0, none⟩)) (n : Int) (l : List Nat) (hl : RW l) (hS : ∀ w, S w → RelAt w g n l) :
    ∀ w, S w → (execOp a.eval o).run Tryd.prog w = .ok (.value (.agg (rv n l))) w := by
  intro w h
  unfold execOp
  simp only [ho, hx, Instr.loadAt, Instr.sureAddr, Sem.run_bind, Sem.run_pure, Result.andThen_ok, run_loadVar_row w g _ _ _ (0, 0) _ (hS w h) Tryd.underlying25 rfl (rinfo n hl)]
theorem take_loadRows (x : Operand) (ho : o.op = .load 23 x) (g : Nat) (hx : a.eval x = .pointer (some ⟨g, 0, none⟩)) (l : List Nat) (hl : RW l) (hS : ∀ w, S w → RowsAt w g l) :
    ∀ w, S w → (execOp a.eval o).run Tryd.prog w = .ok (.value (.agg (uv l))) w := by
  intro w h
  unfold execOp
  simp only [ho, hx, Instr.loadAt, Instr.sureAddr, Sem.run_bind, Sem.run_pure, Result.andThen_ok, run_loadVar_row w g _ _ _ (0, 0) _ (hS w h) Tryd.underlying23 rfl (uinfo hl)]
theorem take_eqRel (x y : Operand) (t : TypeId) (ho : o.op = .binOp .eql 25 x y t) (n m : Int) (l k : List Nat) (hx : a.eval x = .agg (rv n l)) (hy : a.eval y = .agg (rv m k)) (hl : RW l) (hk : RW k) :
    ∀ w, S w → (execOp a.eval o).run Tryd.prog w = .ok (.value (.bool (eqRel n m l k))) w := by
  intro w _
  unfold execOp
  simp only [ho, hx, hy, Sem.run_bind, Sem.run_pure, run_eqGuard_agg w _ _ _ _ _ _ Tryd.eqGuardType25, Result.andThen_ok, run_eql_rel n m hl hk w]
theorem take_neqRel (x y : Operand) (t : TypeId) (ho : o.op = .binOp .neq 25 x y t) (n m : Int) (l k : List Nat) (hx : a.eval x = .agg (rv n l)) (hy : a.eval y = .agg (rv m k)) (hl : RW l) (hk : RW k) :
    ∀ w, S w → (execOp a.eval o).run Tryd.prog w = .ok (.value (.bool (!eqRel n m l k))) w := by
  intro w _
  unfold execOp
  simp only [ho, hx, hy, Sem.run_bind, Sem.run_pure, run_eqGuard_agg w _ _ _ _ _ _ Tryd.eqGuardType25, Result.andThen_ok, run_neq_rel n m hl hk w]
theorem take_field0 (x : Operand) (ho : o.op = .field 25 x 0) (n : Int) (l : List Nat) (hx : a.eval x = .agg (rv n l)) :
    ∀ w, S w → (execOp a.eval o).run Tryd.prog w = .ok (.value (.int .i64 n)) w := by
  intro w _
  unfold execOp
  simp only [ho, hx, Sem.run_bind, Sem.run_pure, Result.andThen_ok, run_field0]
end

/-- What a region may be told of the worlds that come: two relations in memory, and that what was there before the call is as it was. -/
theorem ex_two (B g q : Nat) (n m : Int) (l k : List Nat) (w0 w : World) (h1 : RelAt w g n l) (h2 : RelAt w q m k) (hb : Below B w0 w) :
    ∃ S : World → Prop, Hid (S w.drew) ∧ (∀ w', S w' → RelAt w' g n l) ∧ (∀ w', S w' → RelAt w' q m k) ∧ Hid (∀ w', S w' → Below B w0 w') ∧ Hid (B ≤ w.heap.size → ∀ wa wb, S wa → Below wa.heap.size wa wb → S wb) :=
  ⟨fun w' => RelAt w' g n l ∧ RelAt w' q m k ∧ Below B w0 w' ∧ w.heap.size ≤ w'.heap.size, ⟨h1, h2, hb.drew, Nat.le_refl _⟩, fun _ h => h.1, fun _ h => h.2.1, fun _ h => h.2.2.1,
    fun hB _ _ h hb => ⟨h.1.below hb h.1.lt, h.2.1.below hb h.2.1.lt, h.2.2.1.trans (hb.mono (Nat.le_trans hB h.2.2.2)), Nat.le_trans h.2.2.2 hb.size⟩⟩
theorem ex_one (B g : Nat) (n : Int) (l : List Nat) (w0 w : World) (h1 : RelAt w g n l) (hb : Below B w0 w) :
    ∃ S : World → Prop, Hid (S w.drew) ∧ (∀ w', S w' → RelAt w' g n l) ∧ Hid (∀ w', S w' → Below B w0 w') ∧ Hid (B ≤ w.heap.size → ∀ wa wb, S wa → Below wa.heap.size wa wb → S wb) :=
  ⟨fun w' => RelAt w' g n l ∧ Below B w0 w' ∧ w.heap.size ≤ w'.heap.size, ⟨h1, hb.drew, Nat.le_refl _⟩, fun _ h => h.1, fun _ h => h.2.1,
    fun hB _ _ h hb => ⟨h.1.below hb h.1.lt, h.2.1.trans (hb.mono (Nat.le_trans hB h.2.2)), Nat.le_trans h.2.2 hb.size⟩⟩

/-- Same. -/
theorem rsame_any (n m : Int) (l k : List Nat) (hl : RW l) (hk : RW k) (w : World) :
    Calls Tryd.prog 9 #[.agg (rv n l), .agg (rv m k)] w fun e w' => e = .returned (.bool (eqRel (pts n : Nat) (pts m : Nat) (cl n l) (cl m k))) ∧ Below w.heap.size w w' := by
  go_enter Tryd.func9, Tryd.ntmps9
  go_wp2_with fail
  have hr1 : RelAt ((w.alloc (.cells (rv n l) 25)).alloc (.cells (rv m k) 25)) w.heap.size n l := (RelAt.new w n l).alloc _
  have hr2 : RelAt ((w.alloc (.cells (rv n l) 25)).alloc (.cells (rv m k) 25)) (w.heap.size + 1) m k := by
    have := RelAt.new (w.alloc (.cells (rv n l) 25)) m k
    simpa using this
  have hb : Below w.heap.size w ((w.alloc (.cells (rv n l) 25)).alloc (.cells (rv m k) 25)) := ((Below.refl _ _).alloc (Nat.le_refl _) _).alloc (by simp) _
  obtain ⟨S, HS, p1, p2, PB, keep⟩ := ex_two _ _ _ _ _ _ _ _ _ hr1 hr2 hb
  have keepS := keep.out (by simp; omega)
  clear keep hr1 hr2 hb
  refine wp_region_ord S [(0, true), (2, true), (1, false), (3, false), (4, true), (5, true)] (by kernel_rfl) (by kernel_rfl) rfl (by kernel_rfl) HS.out ?_
  iterate 2
    (refine wpOrd_step (o := ?_) ?_ ?_; rotate_left 1; (simp only [List.getElem?_toArray, List.getElem?_cons_succ, List.getElem?_cons_zero]; with_reducible rfl))
    (first
        | (refine wpOrd_skip (by rfl) ?_)
        | (refine wpOrd_take (by rfl) (take_loadRel _ rfl _ rfl n l hl p1) ?_)
        | (refine wpOrd_take (by rfl) (take_loadRel _ rfl _ rfl m k hk p2) ?_)
        | (refine wpOrd_take (v := ?_) (by rfl) ?_ ?_; rotate_left 1; (intro wx hSx; go_simp; try with_reducible rfl)))
    (try simp only [Act.put, List.setIfInBounds_toArray, List.set_cons_zero, List.set_cons_succ])
  (refine wpOrd_solo (o := ?_) ?_ ?_; rotate_left 1; (simp only [List.getElem?_toArray, List.getElem?_cons_succ, List.getElem?_cons_zero]; with_reducible rfl))
  intro K hK
  go_simp
  go_at_call 25
  refine (rclean_any _ _ hl _).mono ?_
  rintro e w2 ⟨rfl, hb⟩
  have hS := keepS _ _ HS.out hb
  clear HS
  have HS := Lib.hid hS; clear hS hb
  refine hK.out _ _ HS.out ?_
  clear hK K
  (try simp only [Act.put, List.setIfInBounds_toArray, List.set_cons_zero, List.set_cons_succ])
  (refine wpOrd_solo (o := ?_) ?_ ?_; rotate_left 1; (simp only [List.getElem?_toArray, List.getElem?_cons_succ, List.getElem?_cons_zero]; with_reducible rfl))
  intro K hK
  go_simp
  go_at_call 25
  refine (rclean_any _ _ hk _).mono ?_
  rintro e w3 ⟨rfl, hb⟩
  have hS := keepS _ _ HS.out hb
  clear HS
  have HS := Lib.hid hS; clear hS hb
  refine hK.out _ _ HS.out ?_
  clear hK K
  (try simp only [Act.put, List.setIfInBounds_toArray, List.set_cons_zero, List.set_cons_succ])
  iterate 2
    (refine wpOrd_step (o := ?_) ?_ ?_; rotate_left 1; (simp only [List.getElem?_toArray, List.getElem?_cons_succ, List.getElem?_cons_zero]; with_reducible rfl))
    (first
        | (refine wpOrd_skip (by rfl) ?_)
        | (refine wpOrd_take (by rfl) (take_eqRel _ _ _ rfl _ _ _ _ rfl rfl (RW.mk _ _) (RW.mk _ _)) ?_)
        | (refine wpOrd_take (v := ?_) (by rfl) ?_ ?_; rotate_left 1; (intro wx hSx; go_simp; try with_reducible rfl)))
    (try simp only [Act.put, List.setIfInBounds_toArray, List.set_cons_zero, List.set_cons_succ])
  refine wpOrd_done ?_
  go_wp2_with fail
  go_ret
  exact ⟨rfl, PB.out _ HS.out⟩
end Go.Proofs.YtojbmahapomoeaaDoor
