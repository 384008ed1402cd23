/- Texts that all the claims need. Conditions: those that each states. -/

import Derived.Test.YtnfndapgcpdcpaaGreatDoorFa1
import Derived.Test.YtnfndapgcpdcpaaGreatDoorFa9
import Derived.Test.YtnfndapgcpdcpaaGreatDoorFa10
import Derived.Test.YtnfndapgcpdcpaaGreatDoorFa11
set_option linter.unusedSimpArgs false
set_option linter.unusedVariables false
set_option maxRecDepth 100000
set_option maxHeartbeats 40000000
namespace Go.Proofs.YtnfndapgcpdcpaaGreatDoor
section
open Go.RowKit RM
section
variable {a b c : Nat}
end
structure Fac where
 kind : Int
 A : Option Addr
 c : Nat
 names : List ByteArray
 n : Int
 l : List Nat
def namedB (xs : List ByteArray) : Bool := decide (1 ≤ xs.length) && decide (xs.length ≤ 64) && xs.all NM.right && decide (twc xs < 0)
def relB (kind n : Int) (l : List Nat) (len : Nat) : Bool :=
 if kind = 1 ∨ kind = 2 then decide (pts n = 0) else if kind = 3 then decide (n = (len : Int)) && rightB n l else if kind = 4 then decide (n = (len : Int)) && latB n l else false
def facB (f : Fac) : Bool := namedB f.names && relB f.kind f.n f.l f.names.length
def wordB (f : Fac) (w : Nat) : Bool := if f.kind = 1 then RG.lvB f.names.length w else if f.kind = 2 then MM.subN w (MM.belowN f.names.length) else if f.kind = 3 then gClosed f.n f.l w else (ptO f.n f.l w).isSome
def botW (f : Fac) : Nat := if f.kind = 4 then wordN f.n f.l (((bottomR f.n f.l).getD 0 : Nat) : Int) else 0
theorem botW_lt (f : Fac) : botW f < 18446744073709551616 := by
 unfold botW
 split
 ·exact wordN_lt _ _ _
 ·omega
theorem named_len {xs : List ByteArray} (h : namedB xs = true) : 1 ≤ xs.length ∧ xs.length ≤ 64 := by
 unfold namedB at h
 simp only [Bool.and_eq_true, decide_eq_true_eq] at h
 exact h.1.1
theorem facB_len {f : Fac} (h : facB f = true) : 1 ≤ f.names.length ∧ f.names.length ≤ 64 := by
 unfold facB at h
 rw [Bool.and_eq_true] at h
 exact named_len h.1
theorem facB_kind {f : Fac} (h : facB f = true) : f.kind = 1 ∨ f.kind = 2 ∨ (f.kind = 3 ∧ rightB f.n f.l = true) ∨ (f.kind = 4 ∧ latB f.n f.l = true) := by
 unfold facB relB at h
 rw [Bool.and_eq_true] at h
 have h2 := h.2
 by_cases e1 : f.kind = 1
 ·exact .inl e1
 ·by_cases e2 : f.kind = 2
  ·exact .inr (.inl e2)
  ·rw [if_neg (by omega)] at h2
   by_cases e3 : f.kind = 3
   ·rw [if_pos e3, Bool.and_eq_true] at h2
    exact .inr (.inr (.inl ⟨e3, h2.2⟩))
   ·rw [if_neg e3] at h2
    by_cases e4 : f.kind = 4
    ·rw [if_pos e4, Bool.and_eq_true] at h2
     exact .inr (.inr (.inr ⟨e4, h2.2⟩))
    ·rw [if_neg e4] at h2; cases h2
def EW (e : List Nat) : Prop := e.length = 8 ∧ ∀ x ∈ e, x < 18446744073709551616
theorem EW.lt {e : List Nat} (h : EW e) (i : Nat) : e.getD i 0 < 18446744073709551616 := by
 rw [List.getD_eq_getElem?_getD]
 cases hh : e[i]? with
 | none => simp
 | some x => exact h.2 x (List.mem_of_getElem? hh)
theorem EW.ext {a b : List Nat} (ha : EW a) (hb : EW b) (h : ∀ i, i < 8 → a.getD i 0 = b.getD i 0) : a = b :=
 List.ext_getElem (by rw [ha.1, hb.1]) fun i h1 h2 => by
  have := h i (by rw [← ha.1]; exact h1)
  rw [List.getD_eq_getElem?_getD, List.getD_eq_getElem?_getD, List.getElem?_eq_getElem h1, List.getElem?_eq_getElem h2] at this
  simpa using this
theorem EW.map {F : Nat → Nat} (h : ∀ i, F i < 18446744073709551616) : EW ((List.range 8).map F) := ⟨by simp, fun x hx => by
 obtain ⟨i, _, rfl⟩ := List.mem_map.1 hx
 exact h i⟩
def f0 : Fac := ⟨0, none, 0, [], 0, zs⟩
def rightS (t : Bool) (fs : List Fac) : Bool := decide (1 ≤ fs.length) && decide (fs.length ≤ 8) && (t || decide (fs.length = 1)) && fs.all facB
def slotB (fs : List Fac) (e : List Nat) (i : Nat) : Bool := if i < fs.length then wordB (fs.getD i f0) (e.getD i 0) else e.getD i 0 == 0
def fitsE (t : Bool) (fs : List Fac) (e : List Nat) : Bool := rightS t fs && (List.range 8).all (slotB fs e)
def leqE (a b : List Nat) : Bool := (List.range 8).all fun i => MM.subN (a.getD i 0) (b.getD i 0)
def endS (fs : List Fac) (F : Fac → Nat) (i : Nat) : Nat := if i < fs.length then F (fs.getD i f0) else 0
def endE (t : Bool) (fs : List Fac) (F : Fac → Nat) : List Nat := if rightS t fs then (List.range 8).map (endS fs F) else List.replicate 8 0
theorem EW.zeros : EW (List.replicate 8 0) := ⟨by simp, fun x hx => by rw [List.eq_of_mem_replicate hx]; omega⟩
theorem endE_ew (t : Bool) (fs : List Fac) {F : Fac → Nat} (hF : ∀ f, F f < 18446744073709551616) : EW (endE t fs F) := by
 unfold endE
 split
 ·refine EW.map fun i => ?_
  unfold endS
  split
  ·exact hF _
  ·omega
 ·exact EW.zeros
theorem fits_iff {t : Bool} {fs : List Fac} {e : List Nat} : fitsE t fs e = true ↔ rightS t fs = true ∧ ∀ i, i < 8 → slotB fs e i = true := by
 unfold fitsE
 rw [Bool.and_eq_true, List.all_eq_true]
 exact and_congr_right fun _ => ⟨fun h i hi => h i (List.mem_range.2 hi), fun h i hi => h i (List.mem_range.1 hi)⟩
theorem leq_iff {a b : List Nat} : leqE a b = true ↔ ∀ i, i < 8 → MM.subN (a.getD i 0) (b.getD i 0) = true := by
 unfold leqE
 rw [List.all_eq_true]
 exact ⟨fun h i hi => h i (List.mem_range.2 hi), fun h i hi => h i (List.mem_range.1 hi)⟩
theorem slot_in {fs : List Fac} {e : List Nat} {i : Nat} (h : i < fs.length) : slotB fs e i = wordB (fs.getD i f0) (e.getD i 0) := by unfold slotB; rw [if_pos h]
theorem slot_out {fs : List Fac} {e : List Nat} {i : Nat} (h : ¬ i < fs.length) : slotB fs e i = true ↔ e.getD i 0 = 0 := by unfold slotB; rw [if_neg h, beq_iff_eq]
theorem right_len {t : Bool} {fs : List Fac} (h : rightS t fs = true) : 1 ≤ fs.length ∧ fs.length ≤ 8 := by
 unfold rightS at h
 simp only [Bool.and_eq_true, decide_eq_true_eq] at h
 exact h.1.1
theorem right_fac {t : Bool} {fs : List Fac} (h : rightS t fs = true) {i : Nat} (hi : i < fs.length) : facB (fs.getD i f0) = true := by
 unfold rightS at h
 simp only [Bool.and_eq_true, List.all_eq_true] at h
 rw [List.getD_eq_getElem?_getD, List.getElem?_eq_getElem hi]
 exact h.2 _ (List.getElem_mem hi)
section
variable {t : Bool} {fs : List Fac} {a b c : List Nat}
end
section
variable {t : Bool} {fs : List Fac} {a b : List Nat}
end
end
section
open Go.RowKit RM
def rvl (n : Int) (l : List Nat) : List Value := Value.int .i64 n :: l.map fun x : Nat => Value.int .u64 (x : Int)
theorem rvl_length (n : Int) {l : List Nat} (h : RW l) : (rvl n l).length = 65 := by simp [rvl, h.1]
def fcells (f : Fac) : List Value := .int .i64 f.kind :: .slice f.A f.names.length f.c :: rvl f.n f.l
def fv (f : Fac) : Array Value := (fcells f).toArray
theorem fcells_length (f : Fac) (h : RW f.l) : (fcells f).length = 67 := by simp [fcells, rvl_length f.n h]
theorem fv_size (f : Fac) (h : RW f.l) : (fv f).size = 67 := by simp [fv, fcells_length f h]
theorem fv_0 (f : Fac) : (fv f)[0]? = some (.int .i64 f.kind) := rfl
theorem fv_1 (f : Fac) : (fv f)[1]? = some (.slice f.A f.names.length f.c) := rfl
theorem fv_2 (f : Fac) : (fv f)[2]? = some (.int .i64 f.n) := rfl
theorem fv_one (f : Fac) : (fv f).all (·.oneCell') = true := by
 rw [Array.all_eq_true_iff_forall_mem]
 intro v hv
 simp only [fv, fcells, rvl, List.mem_toArray, List.mem_cons, List.mem_map] at hv
 rcases hv with rfl | rfl | rfl | ⟨x, _, rfl⟩ <;> rfl
theorem finfo (f : Fac) (h : RW f.l) : (Tryz.prog.info? 64).map (·.size) = some (fv f).size := by rw [fv_size f h]; kernel_rfl
theorem zero_fac_size : (Tryz.zeroCells64).size = 67 := by kernel_rfl
def sv (t : Bool) (A : Option Addr) (n c : Nat) : Array Value := #[.bool t, .slice A n c]
def fscells (fs : List Fac) : List Value := fs.flatMap fcells
theorem fscells_cons (f : Fac) (fs : List Fac) : fscells (f :: fs) = fcells f ++ fscells fs := by simp [fscells]
theorem fscells_length : ∀ (fs : List Fac), (∀ f ∈ fs, RW f.l) → (fscells fs).length = fs.length * 67
 | [], _ => rfl
 | f :: fs, h => by
   rw [fscells_cons, zA7, fcells_length f (h f (by simp)), fscells_length fs fun g hg => h g (by simp [hg]), zA8]
   omega
theorem fscells_at : ∀ (fs : List Fac), (∀ f ∈ fs, RW f.l) → ∀ (i j : Nat), i < fs.length → j < 67 → (fscells fs)[i * 67 + j]? = (fcells (fs.getD i f0))[j]?
 | [], _, i, j, hi, _ => by simp at hi
 | f :: fs, h, 0, j, _, hj => by
   rw [fscells_cons, List.getElem?_append_left (by rw [fcells_length f (h f (by simp))]; omega)]
   simp
 | f :: fs, h, i + 1, j, hi, hj => by
   have h1 := fcells_length f (h f (by simp))
   rw [fscells_cons, List.getElem?_append_right (by rw [h1]; omega), h1, show (i + 1) * 67 + j - 67 = i * 67 + j by omega]
   exact fscells_at fs (fun g hg => h g (by simp [hg])) i j (by simpa using hi) hj
structure FacOk (w : World) (f : Fac) : Prop where
 strs : Strs w f.A f.names
 rows : RW f.l
 nil : f.A = none → f.c = 0
 cap : f.names.length ≤ f.c
 max : f.c ≤ maxLen
theorem FacOk.below {w w' : World} {f : Fac} (h : FacOk w f) (hb : Below w.heap.size w w') : FacOk w' f := ⟨h.strs.below hb, h.rows, h.nil, h.cap, h.max⟩
structure Facs (w : World) (A : Option Addr) (fs : List Fac) : Prop where
 sl : Sl w w.heap.size A (fscells fs)
 ok : ∀ f ∈ fs, FacOk w f
section
variable {w w' : World} {A : Option Addr} {fs : List Fac}
theorem Facs.below (h : Facs w A fs) (hb : Below w.heap.size w w') : Facs w' A fs := ⟨(Sl.below h.sl hb).mono hb.size, fun f hf => (h.ok f hf).below hb⟩
theorem Facs.nil (w : World) (A : Option Addr) : Facs w A [] := ⟨Sl.nil _ _ _, fun f hf => by cases hf⟩
theorem getD_memF {fs : List Fac} {i : Nat} (hi : i < fs.length) : fs.getD i f0 ∈ fs := by
 rw [List.getD_eq_getElem?_getD, List.getElem?_eq_getElem hi]
 exact List.getElem_mem hi
theorem Facs.okAt (h : Facs w A fs) {i : Nat} (hi : i < fs.length) : FacOk w (fs.getD i f0) := h.ok _ (getD_memF hi)
theorem Facs.rw (h : Facs w A fs) : ∀ f ∈ fs, RW f.l := fun f hf => (h.ok f hf).rows
theorem Facs.at (h : Facs w A fs) {k : Nat} (hk : k < fs.length) : ∃ b o, A = some ⟨b, o, none⟩ ∧ b < w.heap.size ∧ ∀ i, i < fs.length → w.rangeAt b (o + i * 67) (fcells (fs.getD i f0)) := by
 obtain ⟨b, o, hA, hb, hc⟩ := Sl.at_ h.sl (fun e => by
  have := congrArg List.length e
  rw [fscells_length fs h.rw] at this
  simp only [zA9] at this
  omega)
 refine ⟨b, o, hA, hb, fun i hi j u hu => ?_⟩
 have hj : j < 67 := by
  have := (List.getElem?_eq_some_iff.1 hu).1
  rw [fcells_length _ (h.okAt hi).rows] at this
  exact this
 rw [Nat.add_assoc]
 exact hc _ _ ((fscells_at fs h.rw i j hi hj).trans hu)
end
theorem ev_size {e : List Nat} (h : EW e) : (uv e).size = 8 := by simp [uv, h.1]
theorem ev_at {e : List Nat} (h : EW e) (i : Nat) (hi : i < 8) : (uv e)[i]? = some (.int .u64 ((e.getD i 0 : Nat) : Int)) := by
 have : i < e.length := by rw [h.1]; exact hi
 simp [uv, List.getD_eq_getElem?_getD, List.getElem?_eq_getElem this]
theorem einfo {e : List Nat} (h : EW e) : (Tryz.prog.info? 41).map (·.size) = some (uv e).size := by rw [ev_size h]; kernel_rfl
theorem zero_elem : (#[.int .u64 0, .int .u64 0, .int .u64 0, .int .u64 0, .int .u64 0, .int .u64 0, .int .u64 0, .int .u64 0] : Array Value) = uv (List.replicate 8 0) := by kernel_rfl
theorem run_eqItems_elem (d : Nat) {l k : List Nat} (hl : EW l) (hk : EW k) (w : World) : ∀ (is : List Nat), (∀ i ∈ is, i < 8) →
 (Op.eqItems (d + 1) 39 1 (uv l) (uv k) is).run Tryz.prog w = .ok (is.all fun i => decide (l.getD i 0 = k.getD i 0)) w
 | [], _ => by simp [Op.eqItems]
 | i :: is, h => by
   have hi := h i (by simp)
   have hx := ev_at hl i hi
   have hy := ev_at hk i hi
   generalize hx' : l.getD i 0 = x at *
   generalize hy' : k.getD i 0 = y at *
   have e : ((x : Int) == (y : Int)) = decide (x = y) := by rw [Bool.eq_iff_iff]; simp; omega
   have ih := run_eqItems_elem d hl hk w is fun j hj => h j (by simp [hj])
   simp only [Op.eqItems, Sem.run_bind, Nat.mul_one, run_part_word hx, run_part_word hy, Result.andThen_ok, run_equalIn_int w d _ .u64 .u64 _ _ Tryz.underlying39, e, List.all_cons, hx', hy']
   by_cases hxy : x = y
   ·simp [hxy, ih]
   ·simp [hxy]
theorem run_equalIn_elem {l k : List Nat} (hl : EW l) (hk : EW k) (w : World) : (Op.equalIn 10000 41 (.agg (uv l)) (.agg (uv k))).run Tryz.prog w = .ok (decide (l = k)) w := by
 obtain ⟨i, hi⟩ : ∃ i, Tryz.prog.info? 39 = some i := Option.isSome_iff_exists.1 (by kernel_rfl)
 rw [run_equalIn_array w 9999 (uv l) (uv k) Tryz.underlying41 hi, show Tryz.prog.cellsOf 39 = 1 by kernel_rfl, run_eqItems_elem 9998 hl hk w _ fun j hj => by simpa using hj]
 congr 1
 rw [Bool.eq_iff_iff]
 simp only [List.all_eq_true, decide_eq_true_eq, List.mem_range]
 exact ⟨fun h => EW.ext hl hk h, fun h j _ => by rw [h]⟩
theorem run_eql_elem {l k : List Nat} (hl : EW l) (hk : EW k) (w : World) : (binOp .eql 41 (.agg (uv l)) (.agg (uv k))).run Tryz.prog w = .ok (.bool (decide (l = k))) w := by
 rw [run_eql_struct, run_equalIn_elem hl hk w]; rfl
theorem EW.set {e : List Nat} (h : EW e) (i x : Nat) (hx : x < 18446744073709551616) : EW (e.set i x) := ⟨by simp [h.1], fun y hy => by
 rcases List.mem_or_eq_of_mem_set hy with h2 | rfl
 ·exact h.2 y h2
 ·exact hx⟩
section
variable {ops : Array Oper} {rest : List Oper} {o : Oper} {a : Act} {w : World} {Q : Exit → Act → World → Prop}
theorem wpList_loadFac (hgd : Region.wanted o (yielded ops a.tmps) = true) (x : Operand) (ho : o.op = .load 64 x) (g : Nat) (hx : a.eval x = .pointer (some ⟨g, 0, none⟩))
 (f : Fac) (hl : RW f.l) (hg : RowAt w g 64 (fv f)) (h : wpList Tryz.prog ops Q rest (a.put o.dst (.agg (fv f))) w) : wpList Tryz.prog ops Q (o :: rest) a w :=
 wpList_wanted hgd fun _ hK => wp_load_row _ x ho g hx _ _ (0, 0) _ hg Tryz.underlying64 rfl (finfo f hl) (hK _ _ h)
theorem wpList_loadFacIn (hgd : Region.wanted o (yielded ops a.tmps) = true) (x : Operand) (ho : o.op = .load 64 x) (b k : Nat) (hx : a.eval x = .pointer (some ⟨b, k, none⟩))
 (f : Fac) (hl : RW f.l) (hg : w.rangeAt b k (fcells f)) (h : wpList Tryz.prog ops Q rest (a.put o.dst (.agg (fv f))) w) : wpList Tryz.prog ops Q (o :: rest) a w :=
 wpList_wanted hgd fun _ hK => wp_load_mid _ x ho b k hx (fcells f) _ hg Tryz.underlying64 rfl (by rw [fcells_length f hl]; kernel_rfl) (hK _ _ h)
theorem wpList_loadRelIn (hgd : Region.wanted o (yielded ops a.tmps) = true) (x : Operand) (ho : o.op = .load 62 x) (b k : Nat) (hx : a.eval x = .pointer (some ⟨b, k, none⟩))
 (n : Int) (l : List Nat) (hl : RW l) (hg : w.rangeAt b k (rvl n l)) (h : wpList Tryz.prog ops Q rest (a.put o.dst (.agg (rv n l))) w) : wpList Tryz.prog ops Q (o :: rest) a w :=
 wpList_wanted hgd fun _ hK => wp_load_mid _ x ho b k hx (rvl n l) _ hg Tryz.underlying62 rfl (by rw [rvl_length n hl]; kernel_rfl) (hK _ _ h)
theorem wpList_storeFac (hgd : Region.wanted o (yielded ops a.tmps) = true) (x y : Operand) (ho : o.op = .store 64 x y) (g : Nat) (hx : a.eval x = .pointer (some ⟨g, 0, none⟩))
 (f : Fac) (hl : RW f.l) (hy : a.eval y = .agg (fv f)) (cs : Array Value) (hcs : cs.size = 67) (hg : RowAt w g 64 cs)
 (h : ∀ w', RowAt w' g 64 (fv f) → Else g w w' → wpList Tryz.prog ops Q rest (a.put o.dst undef) w') : wpList Tryz.prog ops Q (o :: rest) a w :=
 wpList_wanted hgd fun _ hK => wp_store_row _ x y ho g _ hx hy _ _ hg (finfo f hl) (by rw [fv_size f hl, hcs]) (fv_one f) (hK _ _ (h _ (hg.setRow (fv f)) (Else.setRow w g _)))
theorem wpList_loadElem (hgd : Region.wanted o (yielded ops a.tmps) = true) (x : Operand) (ho : o.op = .load 41 x) (g : Nat) (hx : a.eval x = .pointer (some ⟨g, 0, none⟩))
 (e : List Nat) (hl : EW e) (hg : RowAt w g 41 (uv e)) (h : wpList Tryz.prog ops Q rest (a.put o.dst (.agg (uv e))) w) : wpList Tryz.prog ops Q (o :: rest) a w :=
 wpList_wanted hgd fun _ hK => wp_load_row _ x ho g hx _ _ (0, 0) _ hg Tryz.underlying41 rfl (einfo hl) (hK _ _ h)
theorem wpList_storeElem (hgd : Region.wanted o (yielded ops a.tmps) = true) (x y : Operand) (ho : o.op = .store 41 x y) (g : Nat) (hx : a.eval x = .pointer (some ⟨g, 0, none⟩))
 (e : List Nat) (hl : EW e) (hy : a.eval y = .agg (uv e)) (k : List Nat) (hk : EW k) (hg : RowAt w g 41 (uv k))
 (h : ∀ w', RowAt w' g 41 (uv e) → Else g w w' → wpList Tryz.prog ops Q rest (a.put o.dst undef) w') : wpList Tryz.prog ops Q (o :: rest) a w :=
 wpList_wanted hgd fun _ hK => wp_store_row _ x y ho g _ hx hy _ _ hg (einfo hl) (by rw [ev_size hl, ev_size hk]) (uv_one e) (hK _ _ (h _ (hg.setRow (uv e)) (Else.setRow w g _)))
theorem wpList_loadShape (hgd : Region.wanted o (yielded ops a.tmps) = true) (x : Operand) (ho : o.op = .load 53 x) (g : Nat) (hx : a.eval x = .pointer (some ⟨g, 0, none⟩))
 (t : Bool) (A : Option Addr) (n c : Nat) (hg : RowAt w g 53 (sv t A n c)) (h : wpList Tryz.prog ops Q rest (a.put o.dst (.agg (sv t A n c))) w) : wpList Tryz.prog ops Q (o :: rest) a w :=
 wpList_wanted hgd fun _ hK => wp_load_row _ x ho g hx _ _ (0, 0) _ hg Tryz.underlying53 rfl (by kernel_rfl) (hK _ _ h)
end
section
variable {o : Oper} {a : Act} {S : World → Prop}
theorem take_loadFac (x : Operand) (ho : o.op = .load 64 x) (g : Nat) (hx : a.eval x = .pointer (some ⟨g, 0, none⟩)) (f : Fac) (hl : RW f.l) (hS : ∀ w, S w → RowAt w g 64 (fv f)) :
 ∀ w, S w → (execOp a.eval o).run Tryz.prog w = .ok (.value (.agg (fv f))) w := by
 intro w h
 unfold execOp
 simp only [ho, hx, Instr.loadAt, Instr.sureAddr, Sem.run_bind, Sem.run_pure, Result.andThen_ok, run_loadVar_row w g _ _ _ (0, 0) _ (hS w h) Tryz.underlying64 rfl (finfo f hl)]
theorem take_loadRelIn (x : Operand) (ho : o.op = .load 62 x) (b k : Nat) (hx : a.eval x = .pointer (some ⟨b, k, none⟩)) (n : Int) (l : List Nat) (hl : RW l) (hS : ∀ w, S w → w.rangeAt b k (rvl n l)) :
 ∀ w, S w → (execOp a.eval o).run Tryz.prog w = .ok (.value (.agg (rv n l))) w := by
 intro w h
 unfold execOp
 simp only [ho, hx, Sem.run_bind, Sem.run_pure, Result.andThen_ok, run_loadAt_mid w b k _ _ _ (hS w h) Tryz.underlying62 rfl (by rw [rvl_length n hl]; kernel_rfl)]
 rfl
end
theorem ret_elem {fn : Func} {p : Tmp} (hf : fn.results = #[.cell p 41]) (tmps : Array Value) (w : World) (g : Nat) (e : List Nat) (hl : EW e)
 (hp : tmps.getD p undef = .pointer (some ⟨g, 0, none⟩)) (hg : RowAt w g 41 (uv e)) : (results fn tmps).run Tryz.prog w = .ok (.agg (uv e)) w :=
 results_cell_row hf tmps w g _ _ (0, 0) _ hp hg Tryz.underlying41 rfl (einfo hl)
end
section
open Go.RowKit RM
theorem fac_cells {w : World} {g : Nat} {f : Fac} (h : RowAt w g 64 (fv f)) :
 w.cell? ⟨g, 0, none⟩ = some (.int .i64 f.kind) ∧ w.cell? ⟨g, 1, none⟩ = some (.slice f.A f.names.length f.c) ∧ w.cell? ⟨g, 2, none⟩ = some (.int .i64 f.n) ∧ w.rangeAt g 2 (rvl f.n f.l) :=
 ⟨(h.cell 0).trans (fv_0 f), (h.cell 1).trans (fv_1 f), (h.cell 2).trans (fv_2 f), h.range 2 (rvl f.n f.l) fun j u hu => by
   unfold fv fcells
   rw [Nat.add_comm 2 j]
   simpa using hu⟩
theorem named_low {xs : List ByteArray} (h : xs.length < 1) : namedB xs = false := by unfold namedB; rw [show decide (1 ≤ xs.length) = false from zF (by omega)]; rfl
theorem named_high {xs : List ByteArray} (h : 64 < xs.length) : namedB xs = false := by unfold namedB; rw [show decide (xs.length ≤ 64) = false from zF (by omega)]; simp
theorem named_bad {xs : List ByteArray} {k : Nat} (hk : k < xs.length) (h : NM.right (xs.getD k ⟨#[]⟩) = false) : namedB xs = false := by
 unfold namedB
 rw [show xs.all NM.right = false by
  rw [List.all_eq_false]
  refine ⟨xs[k], List.getElem_mem hk, ?_⟩
  rw [List.getD_eq_getElem?_getD, List.getElem?_eq_getElem hk] at h
  simpa using h]
 simp
theorem named_end {xs : List ByteArray} (h1 : 1 ≤ xs.length) (h2 : xs.length ≤ 64) (h : ∀ k, k < xs.length → NM.right (xs.getD k ⟨#[]⟩) = true) : namedB xs = decide (twc xs < 0) := by
 unfold namedB
 rw [show xs.all NM.right = true by
  rw [List.all_eq_true]
  intro x hx
  obtain ⟨k, hk, rfl⟩ := List.mem_iff_getElem.1 hx
  have := h k hk
  rw [List.getD_eq_getElem?_getD, List.getElem?_eq_getElem hk] at this
  simpa using this, zE h1, zE h2]
 simp
theorem right_size {x : ByteArray} (h : NM.right x = true) : x.size ≤ 4294967296 := by
 unfold NM.right at h
 simp only [Bool.and_eq_true, decide_eq_true_eq] at h
 omega
theorem rights_size {xs : List ByteArray} (h : ∀ k, k < xs.length → NM.right (xs.getD k ⟨#[]⟩) = true) : ∀ x ∈ xs, x.size ≤ 4294967296 := fun x hx => by
 obtain ⟨k, hk, rfl⟩ := List.mem_iff_getElem.1 hx
 have := h k hk
 rw [List.getD_eq_getElem?_getD, List.getElem?_eq_getElem hk] at this
 exact right_size (by simpa using this)
theorem named_any (A : Option Addr) (c : Nat) (xs : List ByteArray) (w : World) (hA : Strs w A xs) :
 Calls Tryz.prog 123 #[.slice A xs.length c] w fun e w' => e = .returned (.bool (namedB xs)) ∧ Below w.heap.size w w' := by
 have HB0 : Hid (Below w.heap.size w w) := zB _ _
 by_cases h1 : xs.length < 1
 ·rw [named_low h1]
  clear hA
  generalize xs.length = n at *
  go_enter Tryz.func123, Tryz.ntmps123
  go_wp2_with fail
  go_ret
  exact ⟨rfl, HB0.out⟩
 ·by_cases h2 : 64 < xs.length
  ·rw [named_high h2]
   have h3 : 1 ≤ xs.length := by omega
   clear hA h1
   generalize xs.length = n at *
   go_enter Tryz.func123, Tryz.ntmps123
   go_wp2_with fail
   go_ret
   exact ⟨rfl, HB0.out⟩
  ·have h3 : 1 ≤ xs.length := by omega
   have h4 : xs.length ≤ 64 := by omega
   have HA := zh hA; clear hA h1 h2
   have HBAD : Hid (∀ k, k < xs.length → NM.right (xs.getD k ⟨#[]⟩) = false → namedB xs = false) := fun k => named_bad
   have HEND : Hid ((∀ k, k < xs.length → NM.right (xs.getD k ⟨#[]⟩) = true) → namedB xs = decide (twc xs < 0)) := named_end h3 h4
   have HTW : Hid ((∀ k, k < xs.length → NM.right (xs.getD k ⟨#[]⟩) = true) → ∀ W, Strs W A xs → Calls Tryz.prog 162 #[.slice A xs.length c] W fun e w' => e = .returned (.int .i64 (twc xs)) ∧ Below W.heap.size W w') := fun h W hW => twice_any A c xs W (by omega) (rights_size h) hW
   generalize namedB xs = res at *
   generalize twc xs = tw at *
   generalize hn : xs.length = n at *
   have HN := zh hn; clear hn
   go_enter Tryz.func123, Tryz.ntmps123
   go_wp2_with fail
   go_loopw [4, 15] (fun _ kv wr => ∃ k : Nat, k ≤ n ∧ kv = .int .i64 k ∧ Hid (∀ j, j < k → NM.right (xs.getD j ⟨#[]⟩) = true) ∧ Hid (Below w.heap.size w wr)) (fun _ kv _ => n - (intOf kv).toNat)
   case atStart => exact ⟨0, by omega, rfl, fun j hj => by omega, HB0⟩
   case round =>
        obtain ⟨k, hk, rfl, HK, HB1⟩ := hrel
        clear HB0
        by_cases hlt : k < n
        ·obtain ⟨b, o, rfl, hc⟩ := (HA.out.below HB1.out).at (k := k) (by rw [HN.out]; exact hlt)
         have hck := hc k (by rw [HN.out]; exact hlt)
         clear hc
         have HKN : Hid (NM.right (xs.getD k ⟨#[]⟩) = true → ∀ j, j < k + 1 → NM.right (xs.getD j ⟨#[]⟩) = true) := fun h j hj => by
          by_cases e : j = k
          ·subst e; exact h
          ·exact HK.out j (by omega)
         have HR := zh (HBAD.out k hlt)
         generalize xs.getD k ⟨#[]⟩ = x at *
         go_wp2_with fail
         refine (right_any x _).mono ?_
         rintro e w2 ⟨rfl, hb⟩
         have HB2 := zh (HB1.out.trans (hb.mono HB1.out.size))
         clear hb  HB1
         cases hr : NM.right x with
         | false =>
           have HR2 := zh (HR.out hr)
           clear hr HR HKN
           go_wp2_with fail
           go_ret
           exact ⟨ret_eq (bool_eq HR2.out.symm), HB2.out⟩
         | true =>
           have HKN2 := zh (HKN.out hr)
           clear hr HR HKN
           go_wp2_with fail
           go_roundw
           case rel => exact ⟨k + 1, by omega, by go_num, HKN2, HB2⟩
           case measure => simp [intOf]; omega
        ·have e : k = n := by omega
         subst e
         have HT2 := zh (HTW.out HK.out _ (HA.out.below HB1.out))
         have HE2 := zh (HEND.out HK.out)
         go_wp2_with fail
         refine (HT2.out).mono ?_
         rintro e w2 ⟨rfl, hb⟩
         have HB2 := zh (HB1.out.trans (hb.mono HB1.out.size))
         clear hb  HB1
         go_wp2_with fail
         go_ret
         exact ⟨ret_eq (bool_eq HE2.out.symm), HB2.out⟩
theorem relB_12 {kd n : Int} {l : List Nat} {m : Nat} (h : kd = 1 ∨ kd = 2) : relB kd n l m = decide (pts n = 0) := by unfold relB; rw [if_pos h]
theorem relB_3 {n : Int} {l : List Nat} {m : Nat} : relB 3 n l m = (decide (pts n = m) && rightB n l) := by
 unfold relB
 rw [if_neg (by omega), if_pos rfl]
 cases h : rightB n l with
 | false => simp
 | true =>
   obtain ⟨p, h1, h2, hn, hp, _⟩ := right_has h
   rw [hp, hn, Bool.and_true, Bool.and_true, decide_eq_decide]
   omega
theorem relB_4 {n : Int} {l : List Nat} {m : Nat} : relB 4 n l m = (decide (pts n = m) && latB n l) := by
 unfold relB
 rw [if_neg (by omega), if_neg (by omega), if_pos rfl]
 cases h : latB n l with
 | false => simp
 | true =>
   obtain ⟨h1, h2⟩ := lat_n h
   have := pts_in (show 0 ≤ n by omega) h2
   rw [Bool.and_true, Bool.and_true, decide_eq_decide]
   omega
theorem relB_no {kd n : Int} {l : List Nat} {m : Nat} (h1 : ¬ kd = 1) (h2 : ¬ kd = 2) (h3 : ¬ kd = 3) (h4 : ¬ kd = 4) : relB kd n l m = false := by
 unfold relB
 rw [if_neg (by omega), if_neg h3, if_neg h4]
theorem pts_zero_eq (p : Nat) : ((p : Int) == 0) = decide (p = 0) := by rw [Bool.eq_iff_iff]; simp
theorem sfits_any (f : Fac) (x : Nat) (hx : x < 18446744073709551616) (w : World) (hT : Tab w) (hf : FacOk w f) :
 Calls Tryz.prog 71 #[.agg (fv f), .int .u64 (x : Int)] w fun e w' => e = .returned (.bool (wordB f x)) ∧ Below w.heap.size w w' := by
 have HRG : Hid (∀ w, Calls Tryz.prog 97 #[.int .i64 (f.names.length : Int), .int .u64 (x : Int)] w fun e w' => e = .returned (.bool (RG.lvB f.names.length x)) ∧ w = w') := rungRight_any _ x hx
 have HBL : Hid (∀ w, Calls Tryz.prog 98 #[.int .i64 (f.names.length : Int)] w fun e w' => e = .returned (.int .u64 (MM.belowN f.names.length : Int)) ∧ w = w') := below_any _
 have HSB : Hid (∀ w, Calls Tryz.prog 88 #[.int .u64 (x : Int), .int .u64 (MM.belowN f.names.length : Int)] w fun e w' => e = .returned (.bool (MM.subN x (MM.belowN f.names.length))) ∧ w = w') := sub_any _ _ hx (RG.rbelowN_lt _)
 have HGC : Hid (∀ w, Tab w → Calls Tryz.prog 99 #[.agg (rv f.n f.l), .int .u64 (x : Int)] w fun e w' => e = .returned (.bool (gClosed f.n f.l x)) ∧ Below w.heap.size w w') := fun w h => gclosed_any f.n f.l hf.rows x hx w h
 have HPT : Hid (∀ w, Calls Tryz.prog 100 #[.agg (rv f.n f.l), .int .u64 (x : Int)] w fun e w' => e = .returned (.tuple #[.int .i64 (((ptO f.n f.l x).getD 0 : Nat) : Int), .bool (ptO f.n f.l x).isSome]) ∧ Below w.heap.size w w') := fun w => hpoint_any f.n f.l hf.rows x w
 have hF : wordB f x = if f.kind = 1 then RG.lvB f.names.length x else if f.kind = 2 then MM.subN x (MM.belowN f.names.length) else if f.kind = 3 then gClosed f.n f.l x else (ptO f.n f.l x).isSome := rfl
 have HT := zh hT; clear hT
 have hl := hf.rows
 have r0 := RowAt.new w 64 (fv f)
 have HB0 : Hid (Below w.heap.size w (w.alloc (.cells (fv f) 64))) := (zB _ _).alloc (zL _) _
 have HC : Hid (∀ W, RowAt W w.heap.size 64 (fv f) → W.cell? ⟨w.heap.size, 0, none⟩ = some (.int .i64 f.kind) ∧ W.cell? ⟨w.heap.size, 1, none⟩ = some (.slice f.A f.names.length f.c) ∧ W.cell? ⟨w.heap.size, 2, none⟩ = some (.int .i64 f.n) ∧ W.rangeAt w.heap.size 2 (rvl f.n f.l)) := fun W h => fac_cells h
 rw [hF]
 clear hF hf
 generalize fv f = V at *
 generalize f.kind = kd at *
 generalize f.n = n at *
 generalize f.l = l at *
 generalize f.A = A at *
 generalize f.c = c at *
 generalize f.names = xs at *
 generalize RG.lvB xs.length x = b1 at *
 generalize MM.subN x (MM.belowN xs.length) = b2 at *
 generalize MM.belowN xs.length = bl at *
 generalize gClosed n l x = b3 at *
 generalize (ptO n l x).isSome = b4 at *
 generalize (ptO n l x).getD 0 = k4 at *
 generalize xs.length = m at *
 obtain ⟨c0, c1, c2, c3⟩ := HC.out _ r0
 by_cases e1 : kd = 1
 ·rw [if_pos e1]
  go_enter Tryz.func71, Tryz.ntmps71
  go_wp2_with fail
  refine (HRG.out _).mono ?_
  rintro e w1 ⟨rfl, rfl⟩
  go_wp2_with fail
  go_ret
  exact ⟨rfl, HB0.out⟩
 ·by_cases e2 : kd = 2
  ·rw [if_neg e1, if_pos e2]
   go_enter Tryz.func71, Tryz.ntmps71
   go_wp2_with fail
   refine (HBL.out _).mono ?_
   rintro e w1 ⟨rfl, rfl⟩
   go_wp2_with fail
   refine (HSB.out _).mono ?_
   rintro e w1 ⟨rfl, rfl⟩
   go_wp2_with fail
   go_ret
   exact ⟨rfl, HB0.out⟩
  ·by_cases e3 : kd = 3
   ·rw [if_neg e1, if_neg e2, if_pos e3]
    go_enter Tryz.func71, Tryz.ntmps71
    go_wp2_with (refine wpList_loadRelIn (by rfl) _ rfl w.heap.size 2 rfl n l hl c3 ?_)
    refine (HGC.out _ (HT.out.below HB0.out)).mono ?_
    rintro e w1 ⟨rfl, hb⟩
    have r1 := r0.below hb r0.lt
    have HB1 := zh (HB0.out.trans (hb.mono HB0.out.size))
    go_wp2_with fail
    go_ret
    exact ⟨rfl, HB1.out⟩
   ·rw [if_neg e1, if_neg e2, if_neg e3]
    go_enter Tryz.func71, Tryz.ntmps71
    go_wp2_with (refine wpList_loadRelIn (by rfl) _ rfl w.heap.size 2 rfl n l hl c3 ?_)
    refine (HPT.out _).mono ?_
    rintro e w1 ⟨rfl, hb⟩
    have r1 := r0.below hb r0.lt
    have HB1 := zh (HB0.out.trans (hb.mono HB0.out.size))
    go_wp2_with fail
    go_ret
    exact ⟨rfl, HB1.out⟩
end
section
open Go.RowKit RM
theorem sbottom_any (f : Fac) (w : World) (hT : Tab w) (hf : FacOk w f) :
 Calls Tryz.prog 76 #[.agg (fv f)] w fun e w' => e = .returned (.int .u64 ((botW f : Nat) : Int)) ∧ Below w.heap.size w w' := by
 have HBO : Hid (∀ w, Tab w → Calls Tryz.prog 105 #[.agg (rv f.n f.l)] w fun e w' => e = .returned (.tuple #[.int .i64 (((bottomR f.n f.l).getD 0 : Nat) : Int), .bool (bottomR f.n f.l).isSome]) ∧ Below w.heap.size w w') := fun w h => hbottom_any f.n f.l hf.rows w h
 have HWD : Hid (∀ w, Calls Tryz.prog 106 #[.agg (rv f.n f.l), .int .i64 (((bottomR f.n f.l).getD 0 : Nat) : Int)] w fun e w' => e = .returned (.int .u64 ((wordN f.n f.l (((bottomR f.n f.l).getD 0 : Nat) : Int) : Nat) : Int)) ∧ Below w.heap.size w w') := fun w => hword_any f.n f.l hf.rows _ w
 have hF : botW f = if f.kind = 4 then wordN f.n f.l (((bottomR f.n f.l).getD 0 : Nat) : Int) else 0 := rfl
 have HT := zh hT; clear hT
 have hl := hf.rows
 have r0 := RowAt.new w 64 (fv f)
 have HB0 : Hid (Below w.heap.size w (w.alloc (.cells (fv f) 64))) := (zB _ _).alloc (zL _) _
 have HC : Hid (∀ W, RowAt W w.heap.size 64 (fv f) → W.cell? ⟨w.heap.size, 0, none⟩ = some (.int .i64 f.kind) ∧ W.cell? ⟨w.heap.size, 1, none⟩ = some (.slice f.A f.names.length f.c) ∧ W.cell? ⟨w.heap.size, 2, none⟩ = some (.int .i64 f.n) ∧ W.rangeAt w.heap.size 2 (rvl f.n f.l)) := fun W h => fac_cells h
 rw [hF]
 clear hF hf
 generalize fv f = V at *
 generalize f.kind = kd at *
 generalize f.n = n at *
 generalize f.l = l at *
 generalize f.A = A at *
 generalize f.c = c at *
 generalize f.names = xs at *
 generalize wordN n l (((bottomR n l).getD 0 : Nat) : Int) = x at *
 generalize (bottomR n l).getD 0 = k at *
 generalize (bottomR n l).isSome = q at *
 obtain ⟨c0, c1, c2, c3⟩ := HC.out _ r0
 by_cases e4 : kd = 4
 ·rw [if_pos e4]
  go_enter Tryz.func76, Tryz.ntmps76
  go_wp2_with (refine wpList_loadRelIn (by rfl) _ rfl w.heap.size 2 rfl n l hl c3 ?_)
  refine (HBO.out _ (HT.out.below HB0.out)).mono ?_
  rintro e w1 ⟨rfl, hb⟩
  have r1 := r0.below hb r0.lt
  have HB1 := zh (HB0.out.trans (hb.mono HB0.out.size))
  clear c0 c1 c2 c3
  obtain ⟨c0, c1, c2, c3⟩ := HC.out _ r1
  go_wp2_with (refine wpList_loadRelIn (by rfl) _ rfl w.heap.size 2 rfl n l hl c3 ?_)
  refine (HWD.out _).mono ?_
  rintro e w2 ⟨rfl, hb⟩
  have r2 := r1.below hb r1.lt
  have HB2 := zh (HB1.out.trans (hb.mono HB1.out.size))
  go_wp2_with fail
  go_ret
  exact ⟨rfl, HB2.out⟩
 ·rw [if_neg e4]
  go_enter Tryz.func76, Tryz.ntmps76
  go_wp2_with fail
  go_ret
  exact ⟨rfl, HB0.out⟩
theorem rightS_low {t : Bool} {fs : List Fac} (h : fs.length < 1) : rightS t fs = false := by unfold rightS; rw [show decide (1 ≤ fs.length) = false from zF (by omega)]; rfl
theorem rightS_high {t : Bool} {fs : List Fac} (h : 8 < fs.length) : rightS t fs = false := by unfold rightS; rw [show decide (fs.length ≤ 8) = false from zF (by omega)]; simp
theorem rightS_one {fs : List Fac} (h : ¬ fs.length = 1) : rightS false fs = false := by unfold rightS; rw [zF h]; simp
theorem rightS_bad {t : Bool} {fs : List Fac} {k : Nat} (hk : k < fs.length) (h : facB (fs.getD k f0) = false) : rightS t fs = false := by
 unfold rightS
 rw [show fs.all facB = false by
  rw [List.all_eq_false]
  exact ⟨_, getD_memF hk, by rw [h]; simp⟩]
 simp
theorem rightS_end {t : Bool} {fs : List Fac} (h1 : 1 ≤ fs.length) (h2 : fs.length ≤ 8) (h3 : t = true ∨ fs.length = 1) (h : ∀ k, k < fs.length → facB (fs.getD k f0) = true) : rightS t fs = true := by
 unfold rightS
 rw [show fs.all facB = true by
  rw [List.all_eq_true]
  intro x hx
  obtain ⟨k, hk, rfl⟩ := List.mem_iff_getElem.1 hx
  have := h k hk
  rw [List.getD_eq_getElem?_getD, List.getElem?_eq_getElem hk] at this
  simpa using this, zE h1, zE h2]
 rcases h3 with rfl | h3
 ·rfl
 ·rw [zE h3]; simp
theorem shape_cells {w : World} {g : Nat} {t : Bool} {A : Option Addr} {n c : Nat} (h : RowAt w g 53 (sv t A n c)) :
 w.cell? ⟨g, 0, none⟩ = some (.bool t) ∧ w.cell? ⟨g, 1, none⟩ = some (.slice A n c) := ⟨h.cell 0, h.cell 1⟩
theorem below_made {B : Nat} {w wr w2 : World} {cs : Array Value} {t : TypeId} (hb : Below B w wr) (hB : B ≤ wr.heap.size) (he : Else wr.heap.size (wr.alloc (.cells cs t)) w2) : Below B w w2 :=
 (hb.alloc hB _).trans (he.below hB)
end
section
open Go.RowKit RM
def eZ (e : List Nat) : Nat → List Nat
 | 0 => e
 | k + 1 => (eZ e k).set k 0
theorem eZ_ew {e : List Nat} (h : EW e) : ∀ k, EW (eZ e k)
 | 0 => h
 | k + 1 => (eZ_ew h k).set k 0 (by omega)
theorem ew_set_at {e : List Nat} (h : EW e) (k x : Nat) {i : Nat} (hi : i < 8) : (e.set k x).getD i 0 = if k = i then x else e.getD i 0 := by
 have h1 := h.1
 rw [List.getD_eq_getElem?_getD, List.getElem?_set, List.getD_eq_getElem?_getD]
 by_cases e1 : k = i
 ·subst e1
  simp [h1, hi]
 ·simp [e1]
theorem eZ_at {e : List Nat} (h : EW e) {i : Nat} (hi : i < 8) : ∀ k, (eZ e k).getD i 0 = if i < k then 0 else e.getD i 0
 | 0 => by simp [eZ]
 | k + 1 => by
   show ((eZ e k).set k 0).getD i 0 = _
   rw [ew_set_at (eZ_ew h k) k 0 hi, eZ_at h hi k]
   by_cases e1 : k = i
   ·subst e1; simp
   ·rw [if_neg e1]
    by_cases e2 : i < k
    ·rw [if_pos e2, if_pos (by omega)]
    ·rw [if_neg e2, if_neg (by omega)]
theorem fits_no {t : Bool} {fs : List Fac} {e : List Nat} (h : rightS t fs = false) : fitsE t fs e = false := by unfold fitsE; rw [h]; rfl
theorem fits_bad {t : Bool} {fs : List Fac} {e : List Nat} {k : Nat} (hk : k < fs.length) (hl : fs.length ≤ 8) (h : wordB (fs.getD k f0) (e.getD k 0) = false) : fitsE t fs e = false := by
 unfold fitsE
 rw [show (List.range 8).all (slotB fs e) = false by
  rw [List.all_eq_false]
  exact ⟨k, List.mem_range.2 (by omega), by rw [slot_in hk, h]; simp⟩, Bool.and_false]
theorem fits_fin {t : Bool} {fs : List Fac} {e : List Nat} (he : EW e) (hr : rightS t fs = true) (h : ∀ k, k < fs.length → wordB (fs.getD k f0) (e.getD k 0) = true) :
 fitsE t fs e = decide (eZ e fs.length = List.replicate 8 0) := by
 have hl := right_len hr
 rw [Bool.eq_iff_iff, fits_iff, decide_eq_true_eq]
 constructor
 ·rintro ⟨_, h2⟩
  refine EW.ext (eZ_ew he _) EW.zeros fun i hi => ?_
  rw [eZ_at he hi]
  have e1 : (List.replicate 8 0).getD i 0 = 0 := by
   rw [List.getD_eq_getElem?_getD, List.getElem?_replicate]
   simp [hi]
  rw [e1]
  by_cases h3 : i < fs.length
  ·rw [if_pos h3]
  ·rw [if_neg h3]
   exact (slot_out h3).1 (h2 i hi)
 ·intro h2
  refine ⟨hr, fun i hi => ?_⟩
  by_cases h3 : i < fs.length
  ·rw [slot_in h3]; exact h i h3
  ·rw [slot_out h3]
   have := eZ_at he hi fs.length
   rw [h2, if_neg h3, List.getD_eq_getElem?_getD, List.getElem?_replicate] at this
   simpa [hi] using this.symm
end
section
open Go.RowKit RM
theorem endE_no {t : Bool} {fs : List Fac} {F : Fac → Nat} (h : rightS t fs = false) : endE t fs F = List.replicate 8 0 := by unfold endE; rw [h]; rfl
theorem endE_yes {t : Bool} {fs : List Fac} {F : Fac → Nat} (h : rightS t fs = true) : endE t fs F = sdTo (fun i => F (fs.getD i f0)) 8 fs.length := by
 unfold endE
 rw [h, if_pos rfl]; rfl
theorem sdTo_ew {F : Nat → Nat} (h : ∀ i, F i < 18446744073709551616) (k : Nat) : EW (sdTo F 8 k) := EW.map (F := fun i => if i < k then F i else 0) fun i => by
 show (if i < k then F i else 0) < _
 split
 ·exact h i
 ·omega
end
section
open Go.RowKit RM
theorem leq_bad {a b : List Nat} {k : Nat} (hk : k < 8) (h : MM.subN (a.getD k 0) (b.getD k 0) = false) : leqE a b = false := by
 unfold leqE
 rw [List.all_eq_false]
 exact ⟨k, List.mem_range.2 hk, by rw [h]; simp⟩
theorem sleq_any (a b : List Nat) (ha : EW a) (hb : EW b) (w : World) :
 Calls Tryz.prog 50 #[.agg (uv a), .agg (uv b)] w fun x w' => x = .returned (.bool (leqE a b)) ∧ Below w.heap.size w w' := by
 have r0 : RowAt ((w.alloc (.cells (uv a) 41)).alloc (.cells (uv b) 41)) w.heap.size 41 (uv a) := (RowAt.new w _ _).alloc _
 have q0 : RowAt ((w.alloc (.cells (uv a) 41)).alloc (.cells (uv b) 41)) (w.heap.size + 1) 41 (uv b) := by
  have := RowAt.new (w.alloc (.cells (uv a) 41)) 41 (uv b)
  simpa using this
 have HB0 : Hid (Below w.heap.size w ((w.alloc (.cells (uv a) 41)).alloc (.cells (uv b) 41))) := ((zB _ _).alloc (zL _) _).alloc (by simp) _
 have HBAD : Hid (∀ k, k < 8 → MM.subN (a.getD k 0) (b.getD k 0) = false → leqE a b = false) := fun k hk h => leq_bad hk h
 have HEND : Hid ((∀ k, k < 8 → MM.subN (a.getD k 0) (b.getD k 0) = true) → leqE a b = true) := fun h => leq_iff.2 h
 have HA : Hid (∀ k, k < 8 → (uv a)[k]? = some (.int .u64 ((a.getD k 0 : Nat) : Int))) := fun k hk => ev_at ha k hk
 have HC : Hid (∀ k, k < 8 → (uv b)[k]? = some (.int .u64 ((b.getD k 0 : Nat) : Int))) := fun k hk => ev_at hb k hk
 have HLA := zh ha.lt
 have HLB := zh hb.lt
 clear ha hb
 generalize leqE a b = res at *
 generalize uv a = U at *
 generalize uv b = V2 at *
 go_enter Tryz.func50, Tryz.ntmps50
 go_upto_region 1 with fail
 generalize (w.alloc (.cells U 41)).alloc (.cells V2 41) = w0 at *
 go_wp2_with fail
 go_loopw [5, 6] (fun _ kv wr => ∃ k : Nat, k ≤ 8 ∧ kv = .int .i64 k ∧ RowAt wr w.heap.size 41 U ∧ RowAt wr (w.heap.size + 1) 41 V2 ∧ Hid (∀ j, j < k → MM.subN (a.getD j 0) (b.getD j 0) = true) ∧ Hid (Below w.heap.size w wr)) (fun _ kv _ => 8 - (intOf kv).toNat)
 case atStart => exact ⟨0, by omega, rfl, r0, q0, fun j hj => by omega, HB0⟩
 case round =>
  clear r0 q0 HB0
  obtain ⟨k, hk, rfl, r1, q1, HK, HB1⟩ := hrel
  by_cases hlt : k < 8
  ·have hk8 : (k : Int) < 8 := by omega
   have HR := zh (HBAD.out k hlt)
   have HKN : Hid (MM.subN (a.getD k 0) (b.getD k 0) = true → ∀ j, j < k + 1 → MM.subN (a.getD j 0) (b.getD j 0) = true) := fun h j hj => by
        by_cases e : j = k
        ·subst e; exact h
        ·exact HK.out j (by omega)
   have hxa := HA.out k hlt
   have hxb := HC.out k hlt
   have h1 := HLA.out k
   have h2 := HLB.out k
   have HSB : Hid (∀ W, Calls Tryz.prog 88 #[.int .u64 ((a.getD k 0 : Nat) : Int), .int .u64 ((b.getD k 0 : Nat) : Int)] W fun x w' => x = .returned (.bool (MM.subN (a.getD k 0) (b.getD k 0))) ∧ W = w') := fun W => sub_any _ _ h1 h2 W
   clear h1 h2
   generalize MM.subN (a.getD k 0) (b.getD k 0) = bw at *
   generalize a.getD k 0 = x at *
   generalize b.getD k 0 = y at *
   obtain ⟨S, HS, pW, keepS⟩ := ex_gen wr
   have PR : Hid (∀ w', S w' → RowAt w' w.heap.size 41 U) := fun w' h => r1.below (pW w' h) r1.lt
   have PQ : Hid (∀ w', S w' → RowAt w' (w.heap.size + 1) 41 V2) := fun w' h => q1.below (pW w' h) q1.lt
   have cA : ∀ w', S w' → w'.cell? ⟨w.heap.size, k, none⟩ = some (.int .u64 (x : Int)) := fun w' h => ((PR.out w' h).cell k).trans hxa
   have cB : ∀ w', S w' → w'.cell? ⟨w.heap.size + 1, k, none⟩ = some (.int .u64 (y : Int)) := fun w' h => ((PQ.out w' h).cell k).trans hxb
   have PB : Hid (∀ w', S w' → Below w.heap.size w w') := fun w' h => HB1.out.trans ((pW w' h).mono HB1.out.size)
   clear pW r1 q1 HB1 hxa hxb
   go_wp2_with fail
   refine wp_region_ord S [(0, true), (1, true), (2, true), (3, true), (4, true), (5, true), (6, false), (7, true)] (by kernel_rfl) (by kernel_rfl) rfl (by kernel_rfl) HS.out ?_
   generalize wr.drew = V at HS ⊢
   iterate 6
        (refine wpOrd_step (zO rfl) ?_)
        (first
         | (refine wpOrd_skip (by rfl) ?_)
         | (refine wpOrd_take (v := ?_) (by rfl) ?_ ?_; rotate_left 1; (intro wx hSx; have hc_0 := cA wx hSx; have hc_1 := cB wx hSx; go_simp; try with_reducible rfl)))
        (try simp only [Act.put, zA4, zA5, zA6])
   (refine wpOrd_solo (zO rfl) ?_)
   intro K hK
   go_simp
   go_at_call 88
   refine (HSB.out _).mono ?_
   rintro e w' ⟨rfl, rfl⟩
   refine hK.out _ _ HS.out ?_
   clear hK K
   (try simp only [Act.put, zA4, zA5, zA6])
   iterate 1
        (refine wpOrd_step (zO rfl) ?_)
        (first
         | (refine wpOrd_skip (by rfl) ?_)
         | (refine wpOrd_take (v := ?_) (by rfl) ?_ ?_; rotate_left 1; (intro wx hSx; go_simp; try with_reducible rfl)))
        (try simp only [Act.put, zA4, zA5, zA6])
   refine wpOrd_done ?_
   have HB5 := zh (PB.out _ HS.out)
   have r5 := PR.out _ HS.out
   have q5 := PQ.out _ HS.out
   clear PR PQ cA cB PB HS keepS
   cases bw with
   | false =>
     have HR2 := zh (HR.out rfl)
     clear HR HKN
     go_wp2_with fail
     go_ret
     exact ⟨ret_eq (bool_eq HR2.out.symm), HB5.out⟩
   | true =>
     have HKN2 := zh (HKN.out rfl)
     clear HR HKN
     go_wp2_with fail
     go_roundw
     case rel => exact ⟨k + 1, by omega, by go_num, r5, q5, HKN2, HB5⟩
     case measure => simp [intOf]; omega
  ·have e1 : k = 8 := by omega
   subst e1
   have HE2 := zh (HEND.out HK.out)
   go_wp2_with fail
   go_ret
   exact ⟨ret_eq (bool_eq HE2.out.symm), HB1.out⟩
end
section
open Go.RowKit RM
theorem Facs.rng {w : World} {b o : Nat} {fs : List Fac} (h : Facs w (some ⟨b, o, none⟩) fs) {i : Nat} (hi : i < fs.length) : w.rangeAt b (o + i * 67) (fcells (fs.getD i f0)) := by
 obtain ⟨b2, o2, e, _, hr⟩ := h.at hi
 injection e with e
 injection e with e1 e2
 subst e1 e2
 exact hr i hi
end
end Go.Proofs.YtnfndapgcpdcpaaGreatDoor
