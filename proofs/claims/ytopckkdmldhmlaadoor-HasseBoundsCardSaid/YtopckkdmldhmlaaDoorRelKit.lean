/-
  Relations as values and in memory: a number and 64 words. Conditions: none.
-/
import Derived.Test.YtopckkdmldhmlaaDoorMaskD
import Derived.Test.YtopckkdmldhmlaaDoorRelMath
import Derived.Laws.StructEq
import Derived.Deep.WholeRow
import Derived.Laws.CopyOwn
import Derived.StillTailTactics
import Derived.ChangeKeysEq
namespace Go.Proofs.YtopckkdmldhmlaaDoor
open Go.RowKit RM

/-- The cells of a relation: N, then the rows. -/
def rv (n : Int) (l : List Nat) : Array Value := (Value.int .i64 n :: l.map fun x : Nat => Value.int .u64 (x : Int)).toArray
/-- The cells of an array of rows. -/
def uv (l : List Nat) : Array Value := (l.map fun x : Nat => Value.int .u64 (x : Int)).toArray
theorem rv_size (n : Int) {l : List Nat} (h : RW l) : (rv n l).size = 65 := by simp [rv, h.1]
theorem uv_size {l : List Nat} (h : RW l) : (uv l).size = 64 := by simp [uv, h.1]
theorem rv_0 (n : Int) (l : List Nat) : (rv n l)[0]? = some (.int .i64 n) := by simp [rv]
theorem rv_succ (n : Int) {l : List Nat} (h : RW l) (i : Nat) (hi : i < 64) : (rv n l)[1 + i]? = some (.int .u64 ((l.getD i 0 : Nat) : Int)) := by
  have : i < l.length := by rw [h.1]; exact hi
  rw [Nat.add_comm]
  simp [rv, List.getD_eq_getElem?_getD, List.getElem?_eq_getElem this]
theorem uv_at {l : List Nat} (h : RW l) (i : Nat) (hi : i < 64) : (uv l)[i]? = some (.int .u64 ((l.getD i 0 : Nat) : Int)) := by
  have : i < l.length := by rw [h.1]; exact hi
  simp [uv, List.getD_eq_getElem?_getD, List.getElem?_eq_getElem this]
theorem rv_one (n : Int) (l : List Nat) : (rv n l).all (·.oneCell') = true := by
  rw [Array.all_eq_true_iff_forall_mem]
  intro v hv
  simp only [rv, List.mem_toArray, List.mem_cons, List.mem_map] at hv
  rcases hv with rfl | ⟨x, _, rfl⟩ <;> rfl
theorem uv_one (l : List Nat) : (uv l).all (·.oneCell') = true := by
  rw [Array.all_eq_true_iff_forall_mem]
  intro v hv
  simp only [uv, List.mem_toArray, List.mem_map] at hv
  rcases hv with ⟨x, _, rfl⟩; rfl
theorem rv_set (n : Int) (l : List Nat) (i x : Nat) : (rv n l).setIfInBounds (1 + i) (.int .u64 (x : Int)) = rv n (l.set i x) := by
  rw [Nat.add_comm]
  simp [rv, List.map_set]
theorem uv_set (l : List Nat) (i x : Nat) : (uv l).setIfInBounds i (.int .u64 (x : Int)) = uv (l.set i x) := by
  simp [uv, List.map_set]
theorem rv_setN (n m : Int) (l : List Nat) : (rv n l).setIfInBounds 0 (.int .i64 m) = rv m l := by simp [rv]
theorem rv_rows (n : Int) {l : List Nat} (h : RW l) : (rv n l).extract 1 65 = uv l := by
  have := h.1
  simp only [rv, uv, List.extract_toArray, List.extract_eq_take_drop, List.drop_succ_cons, List.drop_zero]
  rw [List.take_of_length_le (by simp [this])]
theorem rv_inj {n m : Int} {l k : List Nat} : rv n l = rv m k ↔ n = m ∧ l = k := by
  constructor
  · intro h
    have h2 : (Value.int .i64 n :: l.map fun x : Nat => Value.int .u64 (x : Int)) = (Value.int .i64 m :: k.map fun x : Nat => Value.int .u64 (x : Int)) := by
      simpa [rv] using h
    simp only [List.cons.injEq, Value.int.injEq, true_and] at h2
    refine ⟨h2.1, ?_⟩
    have h3 := h2.2
    exact (List.map_inj_right fun a b hab => by
      simp only [Value.int.injEq, true_and] at hab
      omega).1 h3
  · rintro ⟨rfl, rfl⟩; rfl
theorem zero_rel : Tryd.zeroCells25 = rv 0 zs := by kernel_rfl
theorem rinfo (n : Int) {l : List Nat} (h : RW l) : (Tryd.prog.info? 25).map (·.size) = some (rv n l).size := by rw [rv_size n h]; kernel_rfl
theorem uinfo {l : List Nat} (h : RW l) : (Tryd.prog.info? 23).map (·.size) = some (uv l).size := by rw [uv_size h]; kernel_rfl

/-- A block that is a relation, one that is an array of rows. -/
def RelAt (w : World) (g : Nat) (n : Int) (l : List Nat) : Prop := w.heap[g]? = some (.cells (rv n l) 25 (0, 0))
def RowsAt (w : World) (g : Nat) (l : List Nat) : Prop := w.heap[g]? = some (.cells (uv l) 23 (0, 0))
section
variable {w w' : World} {g : Nat} {n : Int} {l : List Nat}
theorem RelAt.lt (h : RelAt w g n l) : g < w.heap.size := (Array.getElem?_eq_some_iff.1 h).1
theorem RelAt.cell0 (h : RelAt w g n l) : w.cell? ⟨g, 0, none⟩ = some (.int .i64 n) := by rw [cell_of_row w g 0 _ 25 (0, 0) h, rv_0]
theorem RelAt.cell (h : RelAt w g n l) (hl : RW l) (i : Nat) (hi : i < 64) : w.cell? ⟨g, 1 + i, none⟩ = some (.int .u64 ((l.getD i 0 : Nat) : Int)) := by rw [cell_of_row w g (1 + i) _ 25 (0, 0) h, rv_succ n hl i hi]
theorem RelAt.free (h : RelAt w g n l) (o : Nat) : w.frozen? ⟨g, o, none⟩ = false := by unfold RelAt at h; simp [World.frozen?, h]
theorem RelAt.new (w : World) (n : Int) (l : List Nat) : RelAt (w.alloc (.cells (rv n l) 25)) w.heap.size n l := heap_alloc_new w _
theorem RelAt.alloc (h : RelAt w g n l) (o : Obj) : RelAt (w.alloc o) g n l := (heap_alloc_old w o h.lt).trans h
theorem RelAt.drewN (h : RelAt w g n l) (k : Nat) : RelAt (w.drewN k) g n l := h
theorem RelAt.below {B : Nat} (h : RelAt w g n l) (hb : Below B w w') (hg : g < B) : RelAt w' g n l := (hb.block g hg).trans h
theorem RelAt.put (h : RelAt w g n l) (i x : Nat) : RelAt (w.setCell ⟨g, 1 + i, none⟩ (.int .u64 (x : Int))) g n (l.set i x) := by
  unfold RelAt at h ⊢
  simp [World.setCell, Array.getElem?_modify, h, rv_set]
theorem RelAt.far (h : RelAt w g n l) {p : Addr} (hp : p.block ≠ g) (u : Value) : RelAt (w.setCell p u) g n l := by
  unfold RelAt at h ⊢
  simp only [World.setCell, Array.getElem?_modify, if_neg hp]
  exact h
theorem RelAt.setRow (h : RelAt w g n l) (m : Int) (k : List Nat) : RelAt (w.setRow g (rv m k)) g m k := setRow_heap w g _ _ _ _ h
theorem RelAt.rowFar (h : RelAt w g n l) {q : Nat} (hq : q ≠ g) (cs : Array Value) : RelAt (w.setRow q cs) g n l := (setRow_other w q g cs (fun e => hq e.symm)).trans h
theorem RowsAt.lt (h : RowsAt w g l) : g < w.heap.size := (Array.getElem?_eq_some_iff.1 h).1
theorem RowsAt.cell (h : RowsAt w g l) (hl : RW l) (i : Nat) (hi : i < 64) : w.cell? ⟨g, i, none⟩ = some (.int .u64 ((l.getD i 0 : Nat) : Int)) := by rw [cell_of_row w g i _ 23 (0, 0) h, uv_at hl i hi]
theorem RowsAt.free (h : RowsAt w g l) (o : Nat) : w.frozen? ⟨g, o, none⟩ = false := by unfold RowsAt at h; simp [World.frozen?, h]
theorem RowsAt.new (w : World) (l : List Nat) : RowsAt (w.alloc (.cells (uv l) 23)) w.heap.size l := heap_alloc_new w _
theorem RowsAt.alloc (h : RowsAt w g l) (o : Obj) : RowsAt (w.alloc o) g l := (heap_alloc_old w o h.lt).trans h
theorem RowsAt.drewN (h : RowsAt w g l) (k : Nat) : RowsAt (w.drewN k) g l := h
theorem RowsAt.below {B : Nat} (h : RowsAt w g l) (hb : Below B w w') (hg : g < B) : RowsAt w' g l := (hb.block g hg).trans h
theorem RowsAt.put (h : RowsAt w g l) (i x : Nat) : RowsAt (w.setCell ⟨g, i, none⟩ (.int .u64 (x : Int))) g (l.set i x) := by
  unfold RowsAt at h ⊢
  simp [World.setCell, Array.getElem?_modify, h, uv_set]
theorem RowsAt.far (h : RowsAt w g l) {p : Addr} (hp : p.block ≠ g) (u : Value) : RowsAt (w.setCell p u) g l := by
  unfold RowsAt at h ⊢
  simp only [World.setCell, Array.getElem?_modify, if_neg hp]
  exact h
theorem RowsAt.setRow (h : RowsAt w g l) (k : List Nat) : RowsAt (w.setRow g (uv k)) g k := setRow_heap w g _ _ _ _ h
theorem RowsAt.rowFar (h : RowsAt w g l) {q : Nat} (hq : q ≠ g) (cs : Array Value) : RowsAt (w.setRow q cs) g l := (setRow_other w q g cs (fun e => hq e.symm)).trans h
end

/-- The world but for one block. -/
structure Else (g : Nat) (w w' : World) : Prop where
  os : w'.os = w.os
  tape : w'.tape = w.tape
  output : w'.output = w.output
  size : w'.heap.size = w.heap.size
  block : ∀ k, k ≠ g → w'.heap[k]? = w.heap[k]?
section
variable {w w' : World} {g q B : Nat} {n : Int} {l : List Nat}
theorem Else.setRow (w : World) (g : Nat) (cs : Array Value) : Else g w (w.setRow g cs) := ⟨rfl, rfl, rfl, by simp, fun k hk => setRow_other w g k cs hk⟩
theorem Else.setCell (w : World) (p : Addr) (u : Value) : Else p.block w (w.setCell p u) :=
  ⟨rfl, rfl, rfl, by simp [World.setCell], fun k hk => by simp only [World.setCell, Array.getElem?_modify, if_neg (show p.block ≠ k from fun e => hk e.symm)]⟩
theorem Else.below (h : Else g w w') (hB : B ≤ g) : Below B w w' := ⟨h.os, h.tape, h.output, by rw [h.size]; exact Nat.le_refl _, fun k hk => h.block k (by omega)⟩
theorem RelAt.other (hr : RelAt w q n l) (h : Else g w w') (hq : q ≠ g) : RelAt w' q n l := (h.block q hq).trans hr
theorem RowsAt.other (hr : RowsAt w q l) (h : Else g w w') (hq : q ≠ g) : RowsAt w' q l := (h.block q hq).trans hr
theorem Box.other {t : TypeId} {v : Value} (hr : Box w q t v) (h : Else g w w') (hq : q ≠ g) : Box w' q t v := (h.block q hq).trans hr
end
/-- Old blocks but for one are as they were. -/
structure Mut (g : Nat) (w w' : World) : Prop where
  os : w'.os = w.os
  tape : w'.tape = w.tape
  output : w'.output = w.output
  size : w.heap.size ≤ w'.heap.size
  block : ∀ k, k < w.heap.size → k ≠ g → w'.heap[k]? = w.heap[k]?
section
variable {w w' w2 : World} {g q B : Nat} {n : Int} {l : List Nat}
theorem Mut.refl (g : Nat) (w : World) : Mut g w w := ⟨rfl, rfl, rfl, Nat.le_refl _, fun _ _ _ => rfl⟩
theorem Mut.of_below (h : Below w.heap.size w w') (g : Nat) : Mut g w w' := ⟨h.os, h.tape, h.output, h.size, fun k hk _ => h.block k hk⟩
theorem Mut.of_else (h : Else g w w') : Mut g w w' := ⟨h.os, h.tape, h.output, by rw [h.size]; exact Nat.le_refl _, fun k _ hk => h.block k hk⟩
theorem Mut.of_set (w : World) (g o : Nat) (u : Value) : Mut g w (w.setCell ⟨g, o, none⟩ u) := Mut.of_else (Else.setCell w ⟨g, o, none⟩ u)
theorem Mut.drewN (h : Mut g w w') (k : Nat) : Mut g w (w'.drewN k) := ⟨h.os, h.tape, h.output, h.size, h.block⟩
theorem Mut.drew (h : Mut g w w') : Mut g w w'.drew := ⟨h.os, h.tape, h.output, h.size, h.block⟩
theorem Mut.trans (h : Mut g w w') (h2 : Mut g w' w2) : Mut g w w2 := ⟨h2.os.trans h.os, h2.tape.trans h.tape, h2.output.trans h.output, Nat.le_trans h.size h2.size, fun k hk hg => (h2.block k (Nat.lt_of_lt_of_le hk h.size) hg).trans (h.block k hk hg)⟩
theorem Mut.below (h : Mut g w w') (hB : B ≤ g) (hs : B ≤ w.heap.size) : Below B w w' := ⟨h.os, h.tape, h.output, h.size, fun k hk => h.block k (by omega) (by omega)⟩
theorem RelAt.mut (hr : RelAt w q n l) (h : Mut g w w') (hq : q ≠ g) : RelAt w' q n l := (h.block q hr.lt hq).trans hr
theorem RowsAt.mut (hr : RowsAt w q l) (h : Mut g w w') (hq : q ≠ g) : RowsAt w' q l := (h.block q hr.lt hq).trans hr
theorem Box.mut {t : TypeId} {v : Value} (hr : Box w q t v) (h : Mut g w w') (hq : q ≠ g) : Box w' q t v := (h.block q hr.lt hq).trans hr
theorem cell_mut {p : Addr} {v : Value} (hc : w.cell? p = some v) (h : Mut g w w') (hp : p.block ≠ g) : w'.cell? p = some v := by
  have := h.block p.block (World.block_lt_of_cell? w p hc) hp
  rw [← hc]
  unfold World.cell?
  rw [this]
end
theorem still_of {P : Program} {f : FuncId} {args : Array Value} {w : World} {v : Value} (h : Calls P f args w fun e w' => e = .returned v ∧ w = w') : Calls P f args w fun e w'' => e = .returned v ∧ w'' = w := h.mono fun _ _ ⟨he, hw⟩ => ⟨he, hw.symm⟩
theorem bcell {W w1 : World} {B : Nat} (hb : Below B W w1) : (∀ b o, b < B → w1.cell? ⟨b, o, none⟩ = W.cell? ⟨b, o, none⟩) ∧ (∀ b o, b < B → w1.frozen? ⟨b, o, none⟩ = W.frozen? ⟨b, o, none⟩) :=
  ⟨fun b o h => hb.cell (p := ⟨b, o, none⟩) h, fun b o h => hb.frozen (p := ⟨b, o, none⟩) h⟩

section
variable {ops : Array Oper} {rest : List Oper} {o : Oper} {a : Act} {w : World} {Q : Exit → Act → World → Prop}
theorem wpList_wanted {P : Program} (hw : Region.wanted o (yielded ops a.tmps) = true) (h : ∀ K : Act → World → Prop, (∀ a w, wpList P ops Q rest a w → K a w) → o.wp P a w K Q) : wpList P ops Q (o :: rest) a w :=
  wpList_step fun K hK => by simp only [hw, if_true]; exact h K hK
/-- A whole relation read. -/
theorem wpList_loadRel (hgd : Region.wanted o (yielded ops a.tmps) = true) (x : Operand) (ho : o.op = .load 25 x) (g : Nat) (hx : a.eval x = .pointer (some ⟨g, 0, none⟩))
    (n : Int) (l : List Nat) (hl : RW l) (hg : RelAt w g n l) (h : wpList Tryd.prog ops Q rest (a.put o.dst (.agg (rv n l))) w) : wpList Tryd.prog ops Q (o :: rest) a w :=
  wpList_wanted hgd fun _ hK => wp_load_row _ x ho g hx _ _ (0, 0) _ hg Tryd.underlying25 rfl (rinfo n hl) (hK _ _ h)
/-- A whole relation written: the world is new, but for block g as it was. -/
theorem wpList_storeRel (hgd : Region.wanted o (yielded ops a.tmps) = true) (x y : Operand) (ho : o.op = .store 25 x y) (g : Nat) (hx : a.eval x = .pointer (some ⟨g, 0, none⟩))
    (n : Int) (l : List Nat) (hy : a.eval y = .agg (rv n l)) (m : Int) (k : List Nat) (hk : RW k) (hl : RW l) (hg : RelAt w g m k)
    (h : ∀ w', RelAt w' g n l → Else g w w' → wpList Tryd.prog ops Q rest (a.put o.dst undef) w') : wpList Tryd.prog ops Q (o :: rest) a w :=
  wpList_wanted hgd fun _ hK => wp_store_row _ x y ho g _ hx hy _ _ hg (rinfo n hl) (by rw [rv_size n hl, rv_size m hk]) (rv_one n l) (hK _ _ (h _ (hg.setRow n l) (Else.setRow w g _)))
theorem wpList_loadRows (hgd : Region.wanted o (yielded ops a.tmps) = true) (x : Operand) (ho : o.op = .load 23 x) (g : Nat) (hx : a.eval x = .pointer (some ⟨g, 0, none⟩))
    (l : List Nat) (hl : RW l) (hg : RowsAt w g l) (h : wpList Tryd.prog ops Q rest (a.put o.dst (.agg (uv l))) w) : wpList Tryd.prog ops Q (o :: rest) a w :=
  wpList_wanted hgd fun _ hK => wp_load_row _ x ho g hx _ _ (0, 0) _ hg Tryd.underlying23 rfl (uinfo hl) (hK _ _ h)
theorem wpList_storeRows (hgd : Region.wanted o (yielded ops a.tmps) = true) (x y : Operand) (ho : o.op = .store 23 x y) (g : Nat) (hx : a.eval x = .pointer (some ⟨g, 0, none⟩))
    (l : List Nat) (hy : a.eval y = .agg (uv l)) (k : List Nat) (hk : RW k) (hl : RW l) (hg : RowsAt w g k)
    (h : ∀ w', RowsAt w' g l → Else g w w' → wpList Tryd.prog ops Q rest (a.put o.dst undef) w') : wpList Tryd.prog ops Q (o :: rest) a w :=
  wpList_wanted hgd fun _ hK => wp_store_row _ x y ho g _ hx hy _ _ hg (uinfo hl) (by rw [uv_size hl, uv_size hk]) (uv_one l) (hK _ _ (h _ (hg.setRow l) (Else.setRow w g _)))
end
/-! Parts of a relation's value, and equality. -/
theorem run_part_one {cs : Array Value} {off : Nat} {v : Value} (h : cs[off]? = some v) (w : World) : (part 3 cs off).run Tryd.prog w = .ok v w := by
  unfold part
  rw [Sem.run_bind, Tryd.isAgg3]
  simp [h]
theorem run_part_word {cs : Array Value} {off : Nat} {v : Value} (h : cs[off]? = some v) (w : World) : (part 22 cs off).run Tryd.prog w = .ok v w := by
  unfold part
  rw [Sem.run_bind, Tryd.isAgg22]
  simp [h]
theorem run_part_rows (cs : Array Value) (off : Nat) (w : World) : (part 23 cs off).run Tryd.prog w = .ok (.agg (cs.extract off (off + 64))) w := by
  unfold part
  rw [Sem.run_bind, Tryd.isAgg23]
  simp [Tryd.sizeOf23]
theorem run_field0 (n : Int) (l : List Nat) (w : World) : (Instr.field 25 (.agg (rv n l)) 0).run Tryd.prog w = .ok (.int .i64 n) w := by
  unfold Instr.field
  rw [Sem.run_bind, Tryd.runUnderlying25]
  simp only [Result.andThen_ok, List.getElem?_toArray, List.getElem?_cons_zero, Sem.run_bind, asAgg, Sem.run_pure]
  exact run_part_one (rv_0 n l) w
theorem run_field1 (n : Int) {l : List Nat} (hl : RW l) (w : World) : (Instr.field 25 (.agg (rv n l)) 1).run Tryd.prog w = .ok (.agg (uv l)) w := by
  unfold Instr.field
  rw [Sem.run_bind, Tryd.runUnderlying25]
  simp only [Result.andThen_ok, List.getElem?_toArray, List.getElem?_cons_zero, List.getElem?_cons_succ, Sem.run_bind, asAgg, Sem.run_pure]
  rw [run_part_rows]
  rw [show 1 + 64 = 65 from rfl, rv_rows n hl]
theorem run_index {l : List Nat} (hl : RW l) (i : Nat) (hi : i < 64) (w : World) : (Instr.index 23 (.agg (uv l)) (.int .i64 (i : Int))).run Tryd.prog w = .ok (.int .u64 ((l.getD i 0 : Nat) : Int)) w := by
  unfold Instr.index
  simp only [asIntOf, Sem.run_bind, Sem.run_pure, Result.andThen_ok, Tryd.runUnderlying23]
  rw [if_pos (by omega)]
  simp only [Sem.run_bind, Tryd.sizeOf22, Result.andThen_ok, Int.toNat_natCast, Nat.mul_one]
  exact run_part_word (uv_at hl i hi) w
theorem run_eqItems_rows (d : Nat) {l k : List Nat} (hl : RW l) (hk : RW k) (w : World) : ∀ (is : List Nat), (∀ i ∈ is, i < 64) →
    (Op.eqItems (d + 1) 22 1 (uv l) (uv k) is).run Tryd.prog w = .ok (is.all fun i => decide (l.getD i 0 = k.getD i 0)) w
  | [], _ => by simp [Op.eqItems]
  | i :: is, h => by
    have hi := h i (by simp)
    have hx := uv_at hl i hi
    have hy := uv_at hk i hi
    generalize hx' : l.getD i 0 = x at *
    generalize hy' : k.getD i 0 = y at *
    have e : ((x : Int) == (y : Int)) = decide (x = y) := by rw [Bool.eq_iff_iff]; simp; omega
    have ih := run_eqItems_rows d hl hk w is fun j hj => h j (by simp [hj])
    simp only [Op.eqItems, Sem.run_bind, Nat.mul_one, run_part_word hx, run_part_word hy, Result.andThen_ok, run_equalIn_int w d _ .u64 .u64 _ _ Tryd.underlying22, e, List.all_cons, hx', hy']
    by_cases hxy : x = y
    · simp [hxy, ih]
    · simp [hxy]
theorem run_equalIn_rows (d : Nat) {l k : List Nat} (hl : RW l) (hk : RW k) (w : World) : (Op.equalIn (d + 2) 23 (.agg (uv l)) (.agg (uv k))).run Tryd.prog w = .ok (decide (l = k)) w := by
  obtain ⟨i, hi⟩ : ∃ i, Tryd.prog.info? 22 = some i := Option.isSome_iff_exists.1 (by kernel_rfl)
  rw [run_equalIn_array w (d + 1) (uv l) (uv k) Tryd.underlying23 hi, show Tryd.prog.cellsOf 22 = 1 by kernel_rfl, run_eqItems_rows d hl hk w _ fun j hj => by simpa using hj]
  congr 1
  rw [Bool.eq_iff_iff]
  simp only [List.all_eq_true, decide_eq_true_eq, List.mem_range]
  constructor
  · intro h
    refine List.ext_getElem (by rw [hl.1, hk.1]) fun j h1 h2 => ?_
    have := h j (by rw [hl.1] at h1; exact h1)
    rw [List.getD_eq_getElem?_getD, List.getD_eq_getElem?_getD, List.getElem?_eq_getElem h1, List.getElem?_eq_getElem h2] at this
    simpa using this
  · rintro rfl j _; rfl
/-- Equality of two relations' values, as a test. -/
def eqRel (n m : Int) (l k : List Nat) : Bool := decide (n = m) && decide (l = k)
theorem eqRel_true {n m : Int} {l k : List Nat} (h : n = m) (h2 : l = k) : eqRel n m l k = true := by simp [eqRel, h, h2]
theorem run_equalIn_rel (n m : Int) {l k : List Nat} (hl : RW l) (hk : RW k) (w : World) : (Op.equalIn 10000 25 (.agg (rv n l)) (.agg (rv m k))).run Tryd.prog w = .ok (eqRel n m l k) w := by
  rw [run_equalIn_agg w 9999 _ _ _ (by simp only [Program.fieldsOf, Tryd.underlying25]) Tryd.stoodInHeld25]
  have e : (n == m) = decide (n = m) := by rw [Bool.eq_iff_iff]; simp
  simp only [Program.fieldsOf, Tryd.underlying25, Op.eqFields, ne_eq, String.reduceEq, not_false_eq_true, if_true, Sem.run_bind,
    run_part_one (rv_0 n l), run_part_one (rv_0 m k), Result.andThen_ok, run_equalIn_int w 9998 _ .i64 .i64 _ _ Tryd.underlying3, e]
  unfold eqRel
  by_cases h1 : n = m
  · simp only [h1, decide_true, Bool.not_true, Bool.false_eq_true, if_false, Bool.true_and, run_part_rows, Nat.reduceAdd, rv_rows m hl, rv_rows m hk, Sem.run_bind, Result.andThen_ok, run_equalIn_rows 9997 hl hk]
    by_cases h2 : l = k <;> simp [h2]
  · simp [h1]
theorem run_eql_rel (n m : Int) {l k : List Nat} (hl : RW l) (hk : RW k) (w : World) : (binOp .eql 25 (.agg (rv n l)) (.agg (rv m k))).run Tryd.prog w = .ok (.bool (eqRel n m l k)) w := by
  rw [run_eql_struct, run_equalIn_rel n m hl hk w]; rfl
theorem run_neq_rel (n m : Int) {l k : List Nat} (hl : RW l) (hk : RW k) (w : World) : (binOp .neq 25 (.agg (rv n l)) (.agg (rv m k))).run Tryd.prog w = .ok (.bool (!eqRel n m l k)) w := by
  rw [run_neq_struct, run_equalIn_rel n m hl hk w]; rfl

/-- What a body hands back that keeps its result in memory. -/
theorem ret_rel {fn : Func} {p : Tmp} (hf : fn.results = #[.cell p 25]) (tmps : Array Value) (w : World) (g : Nat) (n : Int) (l : List Nat) (hl : RW l)
    (hp : tmps.getD p undef = .pointer (some ⟨g, 0, none⟩)) (hg : RelAt w g n l) : (results fn tmps).run Tryd.prog w = .ok (.agg (rv n l)) w :=
  results_cell_row hf tmps w g _ _ (0, 0) _ hp hg Tryd.underlying25 rfl (rinfo n hl)
theorem ret_rows {fn : Func} {p : Tmp} (hf : fn.results = #[.cell p 23]) (tmps : Array Value) (w : World) (g : Nat) (l : List Nat) (hl : RW l)
    (hp : tmps.getD p undef = .pointer (some ⟨g, 0, none⟩)) (hg : RowsAt w g l) : (results fn tmps).run Tryd.prog w = .ok (.agg (uv l)) w :=
  results_cell_row hf tmps w g _ _ (0, 0) _ hp hg Tryd.underlying23 rfl (uinfo hl)
end Go.Proofs.YtopckkdmldhmlaaDoor
