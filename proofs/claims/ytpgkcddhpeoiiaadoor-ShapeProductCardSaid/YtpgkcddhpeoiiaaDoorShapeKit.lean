/-
  Factors, shapes and elements as values and in memory: blocks of the call's own with given cells, reading and writing them. Conditions: none.
-/
import Derived.Test.YtpgkcddhpeoiiaaDoorShapeMath
import Derived.Deep.MidRow
namespace Go.Proofs.YtpgkcddhpeoiiaaDoor
open Go.RowKit RM

/-- A block whose cells are these. -/
def RowAt (w : World) (g : Nat) (t : TypeId) (cs : Array Value) : Prop := w.heap[g]? = some (.cells cs t (0, 0))
section
variable {w w' : World} {g q B : Nat} {t : TypeId} {cs : Array Value}
theorem RowAt.lt (h : RowAt w g t cs) : g < w.heap.size := (Array.getElem?_eq_some_iff.1 h).1
theorem RowAt.cell (h : RowAt w g t cs) (j : Nat) : w.cell? ⟨g, j, none⟩ = cs[j]? := cell_of_row w g j cs t (0, 0) h
theorem RowAt.free (h : RowAt w g t cs) (o : Nat) : w.frozen? ⟨g, o, none⟩ = false := by unfold RowAt at h; simp [World.frozen?, h]
theorem RowAt.new (w : World) (t : TypeId) (cs : Array Value) : RowAt (w.alloc (.cells cs t)) w.heap.size t cs := heap_alloc_new w _
theorem RowAt.alloc (h : RowAt w g t cs) (o : Obj) : RowAt (w.alloc o) g t cs := (heap_alloc_old w o h.lt).trans h
theorem RowAt.drewN (h : RowAt w g t cs) (k : Nat) : RowAt (w.drewN k) g t cs := h
theorem RowAt.drew (h : RowAt w g t cs) : RowAt w.drew g t cs := h
theorem RowAt.below (h : RowAt w g t cs) (hb : Below B w w') (hg : g < B) : RowAt w' g t cs := (hb.block g hg).trans h
theorem RowAt.grown {row : Option Nat} (h : RowAt w g t cs) (hb : w.grownBy w' row) (hg : row ≠ some g) : RowAt w' g t cs := (hb.block g h.lt (fun e => hg e.symm)).trans h
theorem RowAt.other (h : RowAt w q t cs) (he : Else g w w') (hq : q ≠ g) : RowAt w' q t cs := (he.block q hq).trans h
theorem RowAt.mut (h : RowAt w q t cs) (hm : Mut g w w') (hq : q ≠ g) : RowAt w' q t cs := (hm.block q h.lt hq).trans h
theorem RowAt.put (h : RowAt w g t cs) (i : Nat) (u : Value) : RowAt (w.setCell ⟨g, i, none⟩ u) g t (cs.setIfInBounds i u) := by
  unfold RowAt at h ⊢
  simp [World.setCell, Array.getElem?_modify, h]
theorem RowAt.far (h : RowAt w g t cs) {p : Addr} (hp : p.block ≠ g) (u : Value) : RowAt (w.setCell p u) g t cs := by
  unfold RowAt at h ⊢
  simp only [World.setCell, Array.getElem?_modify, if_neg hp]
  exact h
theorem RowAt.setRow (h : RowAt w g t cs) (ds : Array Value) : RowAt (w.setRow g ds) g t ds := setRow_heap w g _ _ _ _ h
theorem RowAt.range (h : RowAt w g t cs) (o : Nat) (ds : List Value) (hd : ∀ j u, ds[j]? = some u → cs[o + j]? = some u) : w.rangeAt g o ds := fun j v hv => (h.cell (o + j)).trans (hd j v hv)
theorem range_below {b o : Nat} {ds : List Value} (h : w.rangeAt b o ds) (hb : Below B w w') (hg : b < B) : w'.rangeAt b o ds := fun j v hv => (hb.cell (p := ⟨b, o + j, none⟩) hg).trans (h j v hv)
end

/-! Cells. -/
def rvl (n : Int) (l : List Nat) : List Value := Value.int .i64 n :: l.map fun x : Nat => Value.int .u64 (x : Int)
theorem rvl_array (n : Int) (l : List Nat) : (rvl n l).toArray = rv n l := rfl
theorem rvl_length (n : Int) {l : List Nat} (h : RW l) : (rvl n l).length = 65 := by simp [rvl, h.1]
def fcells (f : Fac) : List Value := .int .i64 f.kind :: .slice f.A f.names.length f.c :: rvl f.n f.l
def fv (f : Fac) : Array Value := (fcells f).toArray
theorem fcells_length (f : Fac) (h : RW f.l) : (fcells f).length = 67 := by simp [fcells, rvl_length f.n h]
theorem fv_size (f : Fac) (h : RW f.l) : (fv f).size = 67 := by simp [fv, fcells_length f h]
theorem fv_0 (f : Fac) : (fv f)[0]? = some (.int .i64 f.kind) := rfl
theorem fv_1 (f : Fac) : (fv f)[1]? = some (.slice f.A f.names.length f.c) := rfl
theorem fv_2 (f : Fac) : (fv f)[2]? = some (.int .i64 f.n) := rfl
theorem fv_one (f : Fac) : (fv f).all (·.oneCell') = true := by
  rw [Array.all_eq_true_iff_forall_mem]
  intro v hv
  simp only [fv, fcells, rvl, List.mem_toArray, List.mem_cons, List.mem_map] at hv
  rcases hv with rfl | rfl | rfl | ⟨x, _, rfl⟩ <;> rfl
theorem finfo (f : Fac) (h : RW f.l) : (Tryd.prog.info? 36).map (·.size) = some (fv f).size := by rw [fv_size f h]; kernel_rfl
theorem zero_fac_size : (Tryd.zeroCells36).size = 67 := by kernel_rfl
/-- The cells of a shape. -/
def sv (t : Bool) (A : Option Addr) (n c : Nat) : Array Value := #[.bool t, .slice A n c]
/-- The cells of many factors. -/
def fscells (fs : List Fac) : List Value := fs.flatMap fcells
theorem fscells_cons (f : Fac) (fs : List Fac) : fscells (f :: fs) = fcells f ++ fscells fs := by simp [fscells]
theorem fscells_append (fs gs : List Fac) : fscells (fs ++ gs) = fscells fs ++ fscells gs := by simp [fscells]
theorem fscells_length : ∀ (fs : List Fac), (∀ f ∈ fs, RW f.l) → (fscells fs).length = fs.length * 67
  | [], _ => rfl
  | f :: fs, h => by
    rw [fscells_cons, List.length_append, fcells_length f (h f (by simp)), fscells_length fs fun g hg => h g (by simp [hg]), List.length_cons]
    omega
theorem fscells_at : ∀ (fs : List Fac), (∀ f ∈ fs, RW f.l) → ∀ (i j : Nat), i < fs.length → j < 67 → (fscells fs)[i * 67 + j]? = (fcells (fs.getD i f0))[j]?
  | [], _, i, j, hi, _ => by simp at hi
  | f :: fs, h, 0, j, _, hj => by
    rw [fscells_cons, List.getElem?_append_left (by rw [fcells_length f (h f (by simp))]; omega)]
    simp
  | f :: fs, h, i + 1, j, hi, hj => by
    have h1 := fcells_length f (h f (by simp))
    rw [fscells_cons, List.getElem?_append_right (by rw [h1]; omega), h1, show (i + 1) * 67 + j - 67 = i * 67 + j by omega]
    exact fscells_at fs (fun g hg => h g (by simp [hg])) i j (by simpa using hi) hj
theorem fscells_one (fs : List Fac) : ∀ u ∈ fscells fs, u.oneCell' = true := fun u hu => by
  unfold fscells at hu
  obtain ⟨f, _, hf⟩ := List.mem_flatMap.1 hu
  have := fv_one f
  rw [Array.all_eq_true_iff_forall_mem] at this
  exact this u (by simpa [fv] using hf)

/-- What a factor's cells lead to. -/
structure FacOk (w : World) (f : Fac) : Prop where
  strs : Strs w f.A f.names
  rows : RW f.l
  nil : f.A = none → f.c = 0
  cap : f.names.length ≤ f.c
  max : f.c ≤ maxLen
theorem FacOk.below {w w' : World} {f : Fac} (h : FacOk w f) (hb : Below w.heap.size w w') : FacOk w' f := ⟨h.strs.below hb, h.rows, h.nil, h.cap, h.max⟩
/-- A slice of factors in memory. -/
structure Facs (w : World) (A : Option Addr) (fs : List Fac) : Prop where
  sl : Sl w w.heap.size A (fscells fs)
  ok : ∀ f ∈ fs, FacOk w f
section
variable {w w' : World} {A : Option Addr} {fs : List Fac}
theorem Facs.below (h : Facs w A fs) (hb : Below w.heap.size w w') : Facs w' A fs := ⟨(Sl.below h.sl hb).mono hb.size, fun f hf => (h.ok f hf).below hb⟩
theorem Facs.nil (w : World) (A : Option Addr) : Facs w A [] := ⟨Sl.nil _ _ _, fun f hf => by cases hf⟩
theorem getD_mem {fs : List Fac} {i : Nat} (hi : i < fs.length) : fs.getD i f0 ∈ fs := by
  rw [List.getD_eq_getElem?_getD, List.getElem?_eq_getElem hi]
  exact List.getElem_mem hi
theorem Facs.okAt (h : Facs w A fs) {i : Nat} (hi : i < fs.length) : FacOk w (fs.getD i f0) := h.ok _ (getD_mem hi)
theorem Facs.rw (h : Facs w A fs) : ∀ f ∈ fs, RW f.l := fun f hf => (h.ok f hf).rows
theorem Facs.at (h : Facs w A fs) {k : Nat} (hk : k < fs.length) : ∃ b o, A = some ⟨b, o, none⟩ ∧ b < w.heap.size ∧ ∀ i, i < fs.length → w.rangeAt b (o + i * 67) (fcells (fs.getD i f0)) := by
  obtain ⟨b, o, hA, hb, hc⟩ := Sl.at_ h.sl (fun e => by
    have := congrArg List.length e
    rw [fscells_length fs h.rw] at this
    simp only [List.length_nil] at this
    omega)
  refine ⟨b, o, hA, hb, fun i hi j u hu => ?_⟩
  have hj : j < 67 := by
    have := (List.getElem?_eq_some_iff.1 hu).1
    rw [fcells_length _ (h.okAt hi).rows] at this
    exact this
  rw [Nat.add_assoc]
  exact hc _ _ ((fscells_at fs h.rw i j hi hj).trans hu)
end

/-! Elements: values and equality. -/
theorem ev_size {e : List Nat} (h : EW e) : (uv e).size = 8 := by simp [uv, h.1]
theorem ev_at {e : List Nat} (h : EW e) (i : Nat) (hi : i < 8) : (uv e)[i]? = some (.int .u64 ((e.getD i 0 : Nat) : Int)) := by
  have : i < e.length := by rw [h.1]; exact hi
  simp [uv, List.getD_eq_getElem?_getD, List.getElem?_eq_getElem this]
theorem einfo {e : List Nat} (h : EW e) : (Tryd.prog.info? 40).map (·.size) = some (uv e).size := by rw [ev_size h]; kernel_rfl
theorem zero_elem : (#[.int .u64 0, .int .u64 0, .int .u64 0, .int .u64 0, .int .u64 0, .int .u64 0, .int .u64 0, .int .u64 0] : Array Value) = uv (List.replicate 8 0) := by kernel_rfl
theorem run_eqItems_elem (d : Nat) {l k : List Nat} (hl : EW l) (hk : EW k) (w : World) : ∀ (is : List Nat), (∀ i ∈ is, i < 8) →
    (Op.eqItems (d + 1) 31 1 (uv l) (uv k) is).run Tryd.prog w = .ok (is.all fun i => decide (l.getD i 0 = k.getD i 0)) w
  | [], _ => by simp [Op.eqItems]
  | i :: is, h => by
    have hi := h i (by simp)
    have hx := ev_at hl i hi
    have hy := ev_at hk i hi
    generalize hx' : l.getD i 0 = x at *
    generalize hy' : k.getD i 0 = y at *
    have e : ((x : Int) == (y : Int)) = decide (x = y) := by rw [Bool.eq_iff_iff]; simp; omega
    have ih := run_eqItems_elem d hl hk w is fun j hj => h j (by simp [hj])
    simp only [Op.eqItems, Sem.run_bind, Nat.mul_one, run_part_word hx, run_part_word hy, Result.andThen_ok, run_equalIn_int w d _ .u64 .u64 _ _ Tryd.underlying31, e, List.all_cons, hx', hy']
    by_cases hxy : x = y
    · simp [hxy, ih]
    · simp [hxy]
set_option maxRecDepth 100000 in
theorem run_equalIn_elem {l k : List Nat} (hl : EW l) (hk : EW k) (w : World) : (Op.equalIn 10000 40 (.agg (uv l)) (.agg (uv k))).run Tryd.prog w = .ok (decide (l = k)) w := by
  obtain ⟨i, hi⟩ : ∃ i, Tryd.prog.info? 31 = some i := Option.isSome_iff_exists.1 (by kernel_rfl)
  rw [run_equalIn_array w 9999 (uv l) (uv k) Tryd.underlying40 hi, show Tryd.prog.cellsOf 31 = 1 by kernel_rfl, run_eqItems_elem 9998 hl hk w _ fun j hj => by simpa using hj]
  congr 1
  rw [Bool.eq_iff_iff]
  simp only [List.all_eq_true, decide_eq_true_eq, List.mem_range]
  exact ⟨fun h => EW.ext hl hk h, fun h j _ => by rw [h]⟩
theorem run_eql_elem {l k : List Nat} (hl : EW l) (hk : EW k) (w : World) : (binOp .eql 40 (.agg (uv l)) (.agg (uv k))).run Tryd.prog w = .ok (.bool (decide (l = k))) w := by
  rw [run_eql_struct, run_equalIn_elem hl hk w]; rfl
theorem run_neq_elem {l k : List Nat} (hl : EW l) (hk : EW k) (w : World) : (binOp .neq 40 (.agg (uv l)) (.agg (uv k))).run Tryd.prog w = .ok (.bool (!decide (l = k))) w := by
  rw [run_neq_struct, run_equalIn_elem hl hk w]; rfl
theorem uv_set8 (l : List Nat) (i x : Nat) : (uv l).setIfInBounds i (.int .u64 (x : Int)) = uv (l.set i x) := uv_set l i x
theorem EW.set {e : List Nat} (h : EW e) (i x : Nat) (hx : x < 18446744073709551616) : EW (e.set i x) := ⟨by simp [h.1], fun y hy => by
  rcases List.mem_or_eq_of_mem_set hy with h2 | rfl
  · exact h.2 y h2
  · exact hx⟩

/-! The walk's laws. -/
section
variable {ops : Array Oper} {rest : List Oper} {o : Oper} {a : Act} {w : World} {Q : Exit → Act → World → Prop}
theorem wpList_loadFac (hgd : Region.wanted o (yielded ops a.tmps) = true) (x : Operand) (ho : o.op = .load 36 x) (g : Nat) (hx : a.eval x = .pointer (some ⟨g, 0, none⟩))
    (f : Fac) (hl : RW f.l) (hg : RowAt w g 36 (fv f)) (h : wpList Tryd.prog ops Q rest (a.put o.dst (.agg (fv f))) w) : wpList Tryd.prog ops Q (o :: rest) a w :=
  wpList_wanted hgd fun _ hK => wp_load_row _ x ho g hx _ _ (0, 0) _ hg Tryd.underlying36 rfl (finfo f hl) (hK _ _ h)
theorem wpList_loadFacIn (hgd : Region.wanted o (yielded ops a.tmps) = true) (x : Operand) (ho : o.op = .load 36 x) (b k : Nat) (hx : a.eval x = .pointer (some ⟨b, k, none⟩))
    (f : Fac) (hl : RW f.l) (hg : w.rangeAt b k (fcells f)) (h : wpList Tryd.prog ops Q rest (a.put o.dst (.agg (fv f))) w) : wpList Tryd.prog ops Q (o :: rest) a w :=
  wpList_wanted hgd fun _ hK => wp_load_mid _ x ho b k hx (fcells f) _ hg Tryd.underlying36 rfl (by rw [fcells_length f hl]; kernel_rfl) (hK _ _ h)
theorem wpList_loadRelIn (hgd : Region.wanted o (yielded ops a.tmps) = true) (x : Operand) (ho : o.op = .load 34 x) (b k : Nat) (hx : a.eval x = .pointer (some ⟨b, k, none⟩))
    (n : Int) (l : List Nat) (hl : RW l) (hg : w.rangeAt b k (rvl n l)) (h : wpList Tryd.prog ops Q rest (a.put o.dst (.agg (rv n l))) w) : wpList Tryd.prog ops Q (o :: rest) a w :=
  wpList_wanted hgd fun _ hK => wp_load_mid _ x ho b k hx (rvl n l) _ hg Tryd.underlying34 rfl (by rw [rvl_length n hl]; kernel_rfl) (hK _ _ h)
theorem wpList_storeFac (hgd : Region.wanted o (yielded ops a.tmps) = true) (x y : Operand) (ho : o.op = .store 36 x y) (g : Nat) (hx : a.eval x = .pointer (some ⟨g, 0, none⟩))
    (f : Fac) (hl : RW f.l) (hy : a.eval y = .agg (fv f)) (cs : Array Value) (hcs : cs.size = 67) (hg : RowAt w g 36 cs)
    (h : ∀ w', RowAt w' g 36 (fv f) → Else g w w' → wpList Tryd.prog ops Q rest (a.put o.dst undef) w') : wpList Tryd.prog ops Q (o :: rest) a w :=
  wpList_wanted hgd fun _ hK => wp_store_row _ x y ho g _ hx hy _ _ hg (finfo f hl) (by rw [fv_size f hl, hcs]) (fv_one f) (hK _ _ (h _ (hg.setRow (fv f)) (Else.setRow w g _)))
theorem wpList_loadElem (hgd : Region.wanted o (yielded ops a.tmps) = true) (x : Operand) (ho : o.op = .load 40 x) (g : Nat) (hx : a.eval x = .pointer (some ⟨g, 0, none⟩))
    (e : List Nat) (hl : EW e) (hg : RowAt w g 40 (uv e)) (h : wpList Tryd.prog ops Q rest (a.put o.dst (.agg (uv e))) w) : wpList Tryd.prog ops Q (o :: rest) a w :=
  wpList_wanted hgd fun _ hK => wp_load_row _ x ho g hx _ _ (0, 0) _ hg Tryd.underlying40 rfl (einfo hl) (hK _ _ h)
theorem wpList_storeElem (hgd : Region.wanted o (yielded ops a.tmps) = true) (x y : Operand) (ho : o.op = .store 40 x y) (g : Nat) (hx : a.eval x = .pointer (some ⟨g, 0, none⟩))
    (e : List Nat) (hl : EW e) (hy : a.eval y = .agg (uv e)) (k : List Nat) (hk : EW k) (hg : RowAt w g 40 (uv k))
    (h : ∀ w', RowAt w' g 40 (uv e) → Else g w w' → wpList Tryd.prog ops Q rest (a.put o.dst undef) w') : wpList Tryd.prog ops Q (o :: rest) a w :=
  wpList_wanted hgd fun _ hK => wp_store_row _ x y ho g _ hx hy _ _ hg (einfo hl) (by rw [ev_size hl, ev_size hk]) (uv_one e) (hK _ _ (h _ (hg.setRow (uv e)) (Else.setRow w g _)))
theorem wpList_loadShape (hgd : Region.wanted o (yielded ops a.tmps) = true) (x : Operand) (ho : o.op = .load 24 x) (g : Nat) (hx : a.eval x = .pointer (some ⟨g, 0, none⟩))
    (t : Bool) (A : Option Addr) (n c : Nat) (hg : RowAt w g 24 (sv t A n c)) (h : wpList Tryd.prog ops Q rest (a.put o.dst (.agg (sv t A n c))) w) : wpList Tryd.prog ops Q (o :: rest) a w :=
  wpList_wanted hgd fun _ hK => wp_load_row _ x ho g hx _ _ (0, 0) _ hg Tryd.underlying24 rfl (by kernel_rfl) (hK _ _ h)
theorem wpList_storeShape (hgd : Region.wanted o (yielded ops a.tmps) = true) (x y : Operand) (ho : o.op = .store 24 x y) (g : Nat) (hx : a.eval x = .pointer (some ⟨g, 0, none⟩))
    (t : Bool) (A : Option Addr) (n c : Nat) (hy : a.eval y = .agg (sv t A n c)) (cs : Array Value) (hcs : cs.size = 2) (hg : RowAt w g 24 cs)
    (h : ∀ w', RowAt w' g 24 (sv t A n c) → Else g w w' → wpList Tryd.prog ops Q rest (a.put o.dst undef) w') : wpList Tryd.prog ops Q (o :: rest) a w :=
  wpList_wanted hgd fun _ hK => wp_store_row _ x y ho g _ hx hy _ _ hg (by kernel_rfl) (by rw [hcs]; rfl) (by simp [sv, Value.oneCell']) (hK _ _ (h _ (hg.setRow (sv t A n c)) (Else.setRow w g _)))
end
section
variable {o : Oper} {a : Act} {S : World → Prop}
theorem take_loadFac (x : Operand) (ho : o.op = .load 36 x) (g : Nat) (hx : a.eval x = .pointer (some ⟨g, 0, none⟩)) (f : Fac) (hl : RW f.l) (hS : ∀ w, S w → RowAt w g 36 (fv f)) :
    ∀ w, S w → (execOp a.eval o).run Tryd.prog w = .ok (.value (.agg (fv f))) w := by
  intro w h
  unfold execOp
  simp only [ho, hx, Instr.loadAt, Instr.sureAddr, Sem.run_bind, Sem.run_pure, Result.andThen_ok, run_loadVar_row w g _ _ _ (0, 0) _ (hS w h) Tryd.underlying36 rfl (finfo f hl)]
theorem take_loadFacIn (x : Operand) (ho : o.op = .load 36 x) (b k : Nat) (hx : a.eval x = .pointer (some ⟨b, k, none⟩)) (f : Fac) (hl : RW f.l) (hS : ∀ w, S w → w.rangeAt b k (fcells f)) :
    ∀ w, S w → (execOp a.eval o).run Tryd.prog w = .ok (.value (.agg (fv f))) w := by
  intro w h
  unfold execOp
  simp only [ho, hx, Sem.run_bind, Sem.run_pure, Result.andThen_ok, run_loadAt_mid w b k _ _ _ (hS w h) Tryd.underlying36 rfl (by rw [fcells_length f hl]; kernel_rfl)]
  rfl
theorem take_loadRelIn (x : Operand) (ho : o.op = .load 34 x) (b k : Nat) (hx : a.eval x = .pointer (some ⟨b, k, none⟩)) (n : Int) (l : List Nat) (hl : RW l) (hS : ∀ w, S w → w.rangeAt b k (rvl n l)) :
    ∀ w, S w → (execOp a.eval o).run Tryd.prog w = .ok (.value (.agg (rv n l))) w := by
  intro w h
  unfold execOp
  simp only [ho, hx, Sem.run_bind, Sem.run_pure, Result.andThen_ok, run_loadAt_mid w b k _ _ _ (hS w h) Tryd.underlying34 rfl (by rw [rvl_length n hl]; kernel_rfl)]
  rfl
theorem take_loadElem (x : Operand) (ho : o.op = .load 40 x) (g : Nat) (hx : a.eval x = .pointer (some ⟨g, 0, none⟩)) (e : List Nat) (hl : EW e) (hS : ∀ w, S w → RowAt w g 40 (uv e)) :
    ∀ w, S w → (execOp a.eval o).run Tryd.prog w = .ok (.value (.agg (uv e))) w := by
  intro w h
  unfold execOp
  simp only [ho, hx, Instr.loadAt, Instr.sureAddr, Sem.run_bind, Sem.run_pure, Result.andThen_ok, run_loadVar_row w g _ _ _ (0, 0) _ (hS w h) Tryd.underlying40 rfl (einfo hl)]
theorem take_loadShape (x : Operand) (ho : o.op = .load 24 x) (g : Nat) (hx : a.eval x = .pointer (some ⟨g, 0, none⟩)) (t : Bool) (A : Option Addr) (n c : Nat) (hS : ∀ w, S w → RowAt w g 24 (sv t A n c)) :
    ∀ w, S w → (execOp a.eval o).run Tryd.prog w = .ok (.value (.agg (sv t A n c))) w := by
  intro w h
  unfold execOp
  simp only [ho, hx, Instr.loadAt, Instr.sureAddr, Sem.run_bind, Sem.run_pure, Result.andThen_ok, run_loadVar_row w g _ _ _ (0, 0) _ (hS w h) Tryd.underlying24 rfl (by kernel_rfl)]
theorem take_eqlElem (x y : Operand) (t : TypeId) (ho : o.op = .binOp .eql 40 x y t) (l k : List Nat) (hx : a.eval x = .agg (uv l)) (hy : a.eval y = .agg (uv k)) (hl : EW l) (hk : EW k) :
    ∀ w, S w → (execOp a.eval o).run Tryd.prog w = .ok (.value (.bool (decide (l = k)))) w := by
  intro w _
  unfold execOp
  simp only [ho, hx, hy, Sem.run_bind, Sem.run_pure, run_eqGuard_agg w _ _ _ _ _ _ Tryd.eqGuardType40, Result.andThen_ok, run_eql_elem hl hk w]
theorem take_neqElem (x y : Operand) (t : TypeId) (ho : o.op = .binOp .neq 40 x y t) (l k : List Nat) (hx : a.eval x = .agg (uv l)) (hy : a.eval y = .agg (uv k)) (hl : EW l) (hk : EW k) :
    ∀ w, S w → (execOp a.eval o).run Tryd.prog w = .ok (.value (.bool (!decide (l = k)))) w := by
  intro w _
  unfold execOp
  simp only [ho, hx, hy, Sem.run_bind, Sem.run_pure, run_eqGuard_agg w _ _ _ _ _ _ Tryd.eqGuardType40, Result.andThen_ok, run_neq_elem hl hk w]
end
theorem ret_elem {fn : Func} {p : Tmp} (hf : fn.results = #[.cell p 40]) (tmps : Array Value) (w : World) (g : Nat) (e : List Nat) (hl : EW e)
    (hp : tmps.getD p undef = .pointer (some ⟨g, 0, none⟩)) (hg : RowAt w g 40 (uv e)) : (results fn tmps).run Tryd.prog w = .ok (.agg (uv e)) w :=
  results_cell_row hf tmps w g _ _ (0, 0) _ hp hg Tryd.underlying40 rfl (einfo hl)
theorem ret_shape {fn : Func} {p : Tmp} (hf : fn.results = #[.cell p 24]) (tmps : Array Value) (w : World) (g : Nat) (t : Bool) (A : Option Addr) (n c : Nat)
    (hp : tmps.getD p undef = .pointer (some ⟨g, 0, none⟩)) (hg : RowAt w g 24 (sv t A n c)) : (results fn tmps).run Tryd.prog w = .ok (.agg (sv t A n c)) w :=
  results_cell_row hf tmps w g _ _ (0, 0) _ hp hg Tryd.underlying24 rfl (by kernel_rfl)
end Go.Proofs.YtpgkcddhpeoiiaaDoor
