/- Texts that all the claims need. Conditions: those that each states. -/

import Derived.Test.YtdahllhbpdbknaaGreatDoorTc7
import Derived.Test.YtdahllhbpdbknaaGreatDoorTc8
import Derived.Test.YtdahllhbpdbknaaGreatDoorTc9
import Derived.Test.YtdahllhbpdbknaaGreatDoorTc10
set_option linter.unusedSimpArgs false
set_option linter.unusedVariables false
set_option maxRecDepth 100000
set_option maxHeartbeats 40000000
namespace Go.Proofs.YtdahllhbpdbknaaGreatDoor
section
open Go.RowKit RM
section
variable {a b c : Nat}
theorem subN_trans (h1 : MM.subN a b = true) (h2 : MM.subN b c = true) : MM.subN a c = true := subN_iff.2 fun i hi h => subN_iff.1 h2 i hi (subN_iff.1 h1 i hi h)
theorem subN_orL (a b : Nat) : MM.subN a (a ||| b) = true := subN_iff.2 fun i _ h => by rw [Nat.testBit_or, h]; rfl
theorem subN_orR (a b : Nat) : MM.subN b (a ||| b) = true := subN_iff.2 fun i _ h => by rw [Nat.testBit_or, h, Bool.or_true]
theorem subN_or (h1 : MM.subN a c = true) (h2 : MM.subN b c = true) : MM.subN (a ||| b) c = true := subN_iff.2 fun i hi h => by
 rw [Nat.testBit_or, Bool.or_eq_true] at h
 rcases h with h | h
 ·exact subN_iff.1 h1 i hi h
 ·exact subN_iff.1 h2 i hi h
theorem or_lt (ha : a < 18446744073709551616) (hb : b < 18446744073709551616) : a ||| b < 18446744073709551616 := Nat.or_lt_two_pow (n := 64) ha hb
theorem and_lt (b : Nat) (ha : a < 18446744073709551616) : a &&& b < 18446744073709551616 := Nat.lt_of_le_of_lt Nat.and_le_left ha
end
structure Fac where
 kind : Int
 A : Option Addr
 c : Nat
 names : List ByteArray
 n : Int
 l : List Nat
def namedB (xs : List ByteArray) : Bool := decide (1 ≤ xs.length) && decide (xs.length ≤ 64) && xs.all NM.right && decide (twc xs < 0)
def relB (kind n : Int) (l : List Nat) (len : Nat) : Bool :=
 if kind = 1 ∨ kind = 2 then decide (pts n = 0) else if kind = 3 then decide (n = (len : Int)) && rightB n l else if kind = 4 then decide (n = (len : Int)) && latB n l else false
def facB (f : Fac) : Bool := namedB f.names && relB f.kind f.n f.l f.names.length
def joinW (f : Fac) (a b : Nat) : Nat := if f.kind = 4 then raiseN f.n f.l a b else a ||| b
theorem raiseN_lt (n : Int) (l : List Nat) {a b : Nat} (ha : a < 18446744073709551616) (hb : b < 18446744073709551616) : raiseN n l a b < 18446744073709551616 := by
 unfold raiseN raiseF
 split
 ·exact wordN_lt _ _ _
 ·exact or_lt ha hb
theorem joinW_lt (f : Fac) {a b : Nat} (ha : a < 18446744073709551616) (hb : b < 18446744073709551616) : joinW f a b < 18446744073709551616 := by
 unfold joinW
 split
 ·exact raiseN_lt _ _ ha hb
 ·exact or_lt ha hb
theorem facB_kind {f : Fac} (h : facB f = true) : f.kind = 1 ∨ f.kind = 2 ∨ (f.kind = 3 ∧ rightB f.n f.l = true) ∨ (f.kind = 4 ∧ latB f.n f.l = true) := by
 unfold facB relB at h
 rw [Bool.and_eq_true] at h
 have h2 := h.2
 by_cases e1 : f.kind = 1
 ·exact .inl e1
 ·by_cases e2 : f.kind = 2
  ·exact .inr (.inl e2)
  ·rw [if_neg (by omega)] at h2
   by_cases e3 : f.kind = 3
   ·rw [if_pos e3, Bool.and_eq_true] at h2
    exact .inr (.inr (.inl ⟨e3, h2.2⟩))
   ·rw [if_neg e3] at h2
    by_cases e4 : f.kind = 4
    ·rw [if_pos e4, Bool.and_eq_true] at h2
     exact .inr (.inr (.inr ⟨e4, h2.2⟩))
    ·rw [if_neg e4] at h2; cases h2
def EW (e : List Nat) : Prop := e.length = 8 ∧ ∀ x ∈ e, x < 18446744073709551616
theorem EW.lt {e : List Nat} (h : EW e) (i : Nat) : e.getD i 0 < 18446744073709551616 := by
 rw [List.getD_eq_getElem?_getD]
 cases hh : e[i]? with
 | none => simp
 | some x => exact h.2 x (List.mem_of_getElem? hh)
theorem EW.ext {a b : List Nat} (ha : EW a) (hb : EW b) (h : ∀ i, i < 8 → a.getD i 0 = b.getD i 0) : a = b :=
 List.ext_getElem (by rw [ha.1, hb.1]) fun i h1 h2 => by
  have := h i (by rw [← ha.1]; exact h1)
  rw [List.getD_eq_getElem?_getD, List.getD_eq_getElem?_getD, List.getElem?_eq_getElem h1, List.getElem?_eq_getElem h2] at this
  simpa using this
theorem EW.map {F : Nat → Nat} (h : ∀ i, F i < 18446744073709551616) : EW ((List.range 8).map F) := ⟨by simp, fun x hx => by
 obtain ⟨i, _, rfl⟩ := List.mem_map.1 hx
 exact h i⟩
def f0 : Fac := ⟨0, none, 0, [], 0, zs⟩
def rightS (t : Bool) (fs : List Fac) : Bool := decide (1 ≤ fs.length) && decide (fs.length ≤ 8) && (t || decide (fs.length = 1)) && fs.all facB
def leqE (a b : List Nat) : Bool := (List.range 8).all fun i => MM.subN (a.getD i 0) (b.getD i 0)
def joinS (fs : List Fac) (i x y : Nat) : Nat := if i < fs.length then joinW (fs.getD i f0) x y else x ||| y
def joinE (fs : List Fac) (a b : List Nat) : List Nat := (List.range 8).map fun i => joinS fs i (a.getD i 0) (b.getD i 0)
def meetE (a b : List Nat) : List Nat := (List.range 8).map fun i => a.getD i 0 &&& b.getD i 0
theorem joinS_lt (fs : List Fac) (i : Nat) {x y : Nat} (hx : x < 18446744073709551616) (hy : y < 18446744073709551616) : joinS fs i x y < 18446744073709551616 := by
 unfold joinS
 split
 ·exact joinW_lt _ hx hy
 ·exact or_lt hx hy
theorem joinE_ew (fs : List Fac) {a b : List Nat} (ha : EW a) (hb : EW b) : EW (joinE fs a b) := EW.map fun i => joinS_lt fs i (ha.lt i) (hb.lt i)
theorem meetE_ew {a : List Nat} (b : List Nat) (ha : EW a) : EW (meetE a b) := EW.map fun i => and_lt _ (ha.lt i)
theorem EW.zeros : EW (List.replicate 8 0) := ⟨by simp, fun x hx => by rw [List.eq_of_mem_replicate hx]; omega⟩
theorem leq_iff {a b : List Nat} : leqE a b = true ↔ ∀ i, i < 8 → MM.subN (a.getD i 0) (b.getD i 0) = true := by
 unfold leqE
 rw [List.all_eq_true]
 exact ⟨fun h i hi => h i (List.mem_range.2 hi), fun h i hi => h i (List.mem_range.1 hi)⟩
theorem joinS_in {fs : List Fac} {i x y : Nat} (h : i < fs.length) : joinS fs i x y = joinW (fs.getD i f0) x y := by unfold joinS; rw [if_pos h]
theorem joinS_out {fs : List Fac} {i x y : Nat} (h : ¬ i < fs.length) : joinS fs i x y = x ||| y := by unfold joinS; rw [if_neg h]
section
variable {t : Bool} {fs : List Fac} {a b c : List Nat}
end
section
variable {t : Bool} {fs : List Fac} {a b : List Nat}
end
end
section
open Go.RowKit RM
def rvl (n : Int) (l : List Nat) : List Value := Value.int .i64 n :: l.map fun x : Nat => Value.int .u64 (x : Int)
theorem rvl_length (n : Int) {l : List Nat} (h : RW l) : (rvl n l).length = 65 := by simp [rvl, h.1]
def fcells (f : Fac) : List Value := .int .i64 f.kind :: .slice f.A f.names.length f.c :: rvl f.n f.l
def fv (f : Fac) : Array Value := (fcells f).toArray
theorem fcells_length (f : Fac) (h : RW f.l) : (fcells f).length = 67 := by simp [fcells, rvl_length f.n h]
theorem fv_size (f : Fac) (h : RW f.l) : (fv f).size = 67 := by simp [fv, fcells_length f h]
theorem fv_0 (f : Fac) : (fv f)[0]? = some (.int .i64 f.kind) := rfl
theorem fv_1 (f : Fac) : (fv f)[1]? = some (.slice f.A f.names.length f.c) := rfl
theorem fv_2 (f : Fac) : (fv f)[2]? = some (.int .i64 f.n) := rfl
theorem fv_one (f : Fac) : (fv f).all (·.oneCell') = true := by
 rw [Array.all_eq_true_iff_forall_mem]
 intro v hv
 simp only [fv, fcells, rvl, List.mem_toArray, List.mem_cons, List.mem_map] at hv
 rcases hv with rfl | rfl | rfl | ⟨x, _, rfl⟩ <;> rfl
theorem finfo (f : Fac) (h : RW f.l) : (Tryz.prog.info? 61).map (·.size) = some (fv f).size := by rw [fv_size f h]; kernel_rfl
theorem zero_fac_size : (Tryz.zeroCells61).size = 67 := by kernel_rfl
def sv (t : Bool) (A : Option Addr) (n c : Nat) : Array Value := #[.bool t, .slice A n c]
def fscells (fs : List Fac) : List Value := fs.flatMap fcells
theorem fscells_cons (f : Fac) (fs : List Fac) : fscells (f :: fs) = fcells f ++ fscells fs := by simp [fscells]
theorem fscells_append (fs gs : List Fac) : fscells (fs ++ gs) = fscells fs ++ fscells gs := by simp [fscells]
theorem fscells_length : ∀ (fs : List Fac), (∀ f ∈ fs, RW f.l) → (fscells fs).length = fs.length * 67
 | [], _ => rfl
 | f :: fs, h => by
   rw [fscells_cons, zA7, fcells_length f (h f (by simp)), fscells_length fs fun g hg => h g (by simp [hg]), zA8]
   omega
theorem fscells_at : ∀ (fs : List Fac), (∀ f ∈ fs, RW f.l) → ∀ (i j : Nat), i < fs.length → j < 67 → (fscells fs)[i * 67 + j]? = (fcells (fs.getD i f0))[j]?
 | [], _, i, j, hi, _ => by simp at hi
 | f :: fs, h, 0, j, _, hj => by
   rw [fscells_cons, List.getElem?_append_left (by rw [fcells_length f (h f (by simp))]; omega)]
   simp
 | f :: fs, h, i + 1, j, hi, hj => by
   have h1 := fcells_length f (h f (by simp))
   rw [fscells_cons, List.getElem?_append_right (by rw [h1]; omega), h1, show (i + 1) * 67 + j - 67 = i * 67 + j by omega]
   exact fscells_at fs (fun g hg => h g (by simp [hg])) i j (by simpa using hi) hj
theorem fscells_one (fs : List Fac) : ∀ u ∈ fscells fs, u.oneCell' = true := fun u hu => by
 unfold fscells at hu
 obtain ⟨f, _, hf⟩ := List.mem_flatMap.1 hu
 have := fv_one f
 rw [Array.all_eq_true_iff_forall_mem] at this
 exact this u (by simpa [fv] using hf)
structure FacOk (w : World) (f : Fac) : Prop where
 strs : Strs w f.A f.names
 rows : RW f.l
 nil : f.A = none → f.c = 0
 cap : f.names.length ≤ f.c
 max : f.c ≤ maxLen
theorem FacOk.below {w w' : World} {f : Fac} (h : FacOk w f) (hb : Below w.heap.size w w') : FacOk w' f := ⟨h.strs.below hb, h.rows, h.nil, h.cap, h.max⟩
structure Facs (w : World) (A : Option Addr) (fs : List Fac) : Prop where
 sl : Sl w w.heap.size A (fscells fs)
 ok : ∀ f ∈ fs, FacOk w f
section
variable {w w' : World} {A : Option Addr} {fs : List Fac}
theorem Facs.below (h : Facs w A fs) (hb : Below w.heap.size w w') : Facs w' A fs := ⟨(Sl.below h.sl hb).mono hb.size, fun f hf => (h.ok f hf).below hb⟩
theorem Facs.nil (w : World) (A : Option Addr) : Facs w A [] := ⟨Sl.nil _ _ _, fun f hf => by cases hf⟩
theorem getD_memF {fs : List Fac} {i : Nat} (hi : i < fs.length) : fs.getD i f0 ∈ fs := by
 rw [List.getD_eq_getElem?_getD, List.getElem?_eq_getElem hi]
 exact List.getElem_mem hi
theorem Facs.okAt (h : Facs w A fs) {i : Nat} (hi : i < fs.length) : FacOk w (fs.getD i f0) := h.ok _ (getD_memF hi)
theorem Facs.rw (h : Facs w A fs) : ∀ f ∈ fs, RW f.l := fun f hf => (h.ok f hf).rows
theorem Facs.at (h : Facs w A fs) {k : Nat} (hk : k < fs.length) : ∃ b o, A = some ⟨b, o, none⟩ ∧ b < w.heap.size ∧ ∀ i, i < fs.length → w.rangeAt b (o + i * 67) (fcells (fs.getD i f0)) := by
 obtain ⟨b, o, hA, hb, hc⟩ := Sl.at_ h.sl (fun e => by
  have := congrArg List.length e
  rw [fscells_length fs h.rw] at this
  simp only [zA9] at this
  omega)
 refine ⟨b, o, hA, hb, fun i hi j u hu => ?_⟩
 have hj : j < 67 := by
  have := (List.getElem?_eq_some_iff.1 hu).1
  rw [fcells_length _ (h.okAt hi).rows] at this
  exact this
 rw [Nat.add_assoc]
 exact hc _ _ ((fscells_at fs h.rw i j hi hj).trans hu)
end
theorem ev_size {e : List Nat} (h : EW e) : (uv e).size = 8 := by simp [uv, h.1]
theorem ev_at {e : List Nat} (h : EW e) (i : Nat) (hi : i < 8) : (uv e)[i]? = some (.int .u64 ((e.getD i 0 : Nat) : Int)) := by
 have : i < e.length := by rw [h.1]; exact hi
 simp [uv, List.getD_eq_getElem?_getD, List.getElem?_eq_getElem this]
theorem einfo {e : List Nat} (h : EW e) : (Tryz.prog.info? 40).map (·.size) = some (uv e).size := by rw [ev_size h]; kernel_rfl
theorem zero_elem : (#[.int .u64 0, .int .u64 0, .int .u64 0, .int .u64 0, .int .u64 0, .int .u64 0, .int .u64 0, .int .u64 0] : Array Value) = uv (List.replicate 8 0) := by kernel_rfl
theorem run_eqItems_elem (d : Nat) {l k : List Nat} (hl : EW l) (hk : EW k) (w : World) : ∀ (is : List Nat), (∀ i ∈ is, i < 8) →
 (Op.eqItems (d + 1) 38 1 (uv l) (uv k) is).run Tryz.prog w = .ok (is.all fun i => decide (l.getD i 0 = k.getD i 0)) w
 | [], _ => by simp [Op.eqItems]
 | i :: is, h => by
   have hi := h i (by simp)
   have hx := ev_at hl i hi
   have hy := ev_at hk i hi
   generalize hx' : l.getD i 0 = x at *
   generalize hy' : k.getD i 0 = y at *
   have e : ((x : Int) == (y : Int)) = decide (x = y) := by rw [Bool.eq_iff_iff]; simp; omega
   have ih := run_eqItems_elem d hl hk w is fun j hj => h j (by simp [hj])
   simp only [Op.eqItems, Sem.run_bind, Nat.mul_one, run_part_word hx, run_part_word hy, Result.andThen_ok, run_equalIn_int w d _ .u64 .u64 _ _ Tryz.underlying38, e, List.all_cons, hx', hy']
   by_cases hxy : x = y
   ·simp [hxy, ih]
   ·simp [hxy]
theorem run_equalIn_elem {l k : List Nat} (hl : EW l) (hk : EW k) (w : World) : (Op.equalIn 10000 40 (.agg (uv l)) (.agg (uv k))).run Tryz.prog w = .ok (decide (l = k)) w := by
 obtain ⟨i, hi⟩ : ∃ i, Tryz.prog.info? 38 = some i := Option.isSome_iff_exists.1 (by kernel_rfl)
 rw [run_equalIn_array w 9999 (uv l) (uv k) Tryz.underlying40 hi, show Tryz.prog.cellsOf 38 = 1 by kernel_rfl, run_eqItems_elem 9998 hl hk w _ fun j hj => by simpa using hj]
 congr 1
 rw [Bool.eq_iff_iff]
 simp only [List.all_eq_true, decide_eq_true_eq, List.mem_range]
 exact ⟨fun h => EW.ext hl hk h, fun h j _ => by rw [h]⟩
theorem run_eql_elem {l k : List Nat} (hl : EW l) (hk : EW k) (w : World) : (binOp .eql 40 (.agg (uv l)) (.agg (uv k))).run Tryz.prog w = .ok (.bool (decide (l = k))) w := by
 rw [run_eql_struct, run_equalIn_elem hl hk w]; rfl
theorem EW.set {e : List Nat} (h : EW e) (i x : Nat) (hx : x < 18446744073709551616) : EW (e.set i x) := ⟨by simp [h.1], fun y hy => by
 rcases List.mem_or_eq_of_mem_set hy with h2 | rfl
 ·exact h.2 y h2
 ·exact hx⟩
section
variable {ops : Array Oper} {rest : List Oper} {o : Oper} {a : Act} {w : World} {Q : Exit → Act → World → Prop}
theorem wpList_loadFac (hgd : Region.wanted o (yielded ops a.tmps) = true) (x : Operand) (ho : o.op = .load 61 x) (g : Nat) (hx : a.eval x = .pointer (some ⟨g, 0, none⟩))
 (f : Fac) (hl : RW f.l) (hg : RowAt w g 61 (fv f)) (h : wpList Tryz.prog ops Q rest (a.put o.dst (.agg (fv f))) w) : wpList Tryz.prog ops Q (o :: rest) a w :=
 wpList_wanted hgd fun _ hK => wp_load_row _ x ho g hx _ _ (0, 0) _ hg Tryz.underlying61 rfl (finfo f hl) (hK _ _ h)
theorem wpList_loadFacIn (hgd : Region.wanted o (yielded ops a.tmps) = true) (x : Operand) (ho : o.op = .load 61 x) (b k : Nat) (hx : a.eval x = .pointer (some ⟨b, k, none⟩))
 (f : Fac) (hl : RW f.l) (hg : w.rangeAt b k (fcells f)) (h : wpList Tryz.prog ops Q rest (a.put o.dst (.agg (fv f))) w) : wpList Tryz.prog ops Q (o :: rest) a w :=
 wpList_wanted hgd fun _ hK => wp_load_mid _ x ho b k hx (fcells f) _ hg Tryz.underlying61 rfl (by rw [fcells_length f hl]; kernel_rfl) (hK _ _ h)
theorem wpList_loadRelIn (hgd : Region.wanted o (yielded ops a.tmps) = true) (x : Operand) (ho : o.op = .load 59 x) (b k : Nat) (hx : a.eval x = .pointer (some ⟨b, k, none⟩))
 (n : Int) (l : List Nat) (hl : RW l) (hg : w.rangeAt b k (rvl n l)) (h : wpList Tryz.prog ops Q rest (a.put o.dst (.agg (rv n l))) w) : wpList Tryz.prog ops Q (o :: rest) a w :=
 wpList_wanted hgd fun _ hK => wp_load_mid _ x ho b k hx (rvl n l) _ hg Tryz.underlying59 rfl (by rw [rvl_length n hl]; kernel_rfl) (hK _ _ h)
theorem wpList_storeFac (hgd : Region.wanted o (yielded ops a.tmps) = true) (x y : Operand) (ho : o.op = .store 61 x y) (g : Nat) (hx : a.eval x = .pointer (some ⟨g, 0, none⟩))
 (f : Fac) (hl : RW f.l) (hy : a.eval y = .agg (fv f)) (cs : Array Value) (hcs : cs.size = 67) (hg : RowAt w g 61 cs)
 (h : ∀ w', RowAt w' g 61 (fv f) → Else g w w' → wpList Tryz.prog ops Q rest (a.put o.dst undef) w') : wpList Tryz.prog ops Q (o :: rest) a w :=
 wpList_wanted hgd fun _ hK => wp_store_row _ x y ho g _ hx hy _ _ hg (finfo f hl) (by rw [fv_size f hl, hcs]) (fv_one f) (hK _ _ (h _ (hg.setRow (fv f)) (Else.setRow w g _)))
theorem wpList_loadElem (hgd : Region.wanted o (yielded ops a.tmps) = true) (x : Operand) (ho : o.op = .load 40 x) (g : Nat) (hx : a.eval x = .pointer (some ⟨g, 0, none⟩))
 (e : List Nat) (hl : EW e) (hg : RowAt w g 40 (uv e)) (h : wpList Tryz.prog ops Q rest (a.put o.dst (.agg (uv e))) w) : wpList Tryz.prog ops Q (o :: rest) a w :=
 wpList_wanted hgd fun _ hK => wp_load_row _ x ho g hx _ _ (0, 0) _ hg Tryz.underlying40 rfl (einfo hl) (hK _ _ h)
theorem wpList_storeElem (hgd : Region.wanted o (yielded ops a.tmps) = true) (x y : Operand) (ho : o.op = .store 40 x y) (g : Nat) (hx : a.eval x = .pointer (some ⟨g, 0, none⟩))
 (e : List Nat) (hl : EW e) (hy : a.eval y = .agg (uv e)) (k : List Nat) (hk : EW k) (hg : RowAt w g 40 (uv k))
 (h : ∀ w', RowAt w' g 40 (uv e) → Else g w w' → wpList Tryz.prog ops Q rest (a.put o.dst undef) w') : wpList Tryz.prog ops Q (o :: rest) a w :=
 wpList_wanted hgd fun _ hK => wp_store_row _ x y ho g _ hx hy _ _ hg (einfo hl) (by rw [ev_size hl, ev_size hk]) (uv_one e) (hK _ _ (h _ (hg.setRow (uv e)) (Else.setRow w g _)))
theorem wpList_loadShape (hgd : Region.wanted o (yielded ops a.tmps) = true) (x : Operand) (ho : o.op = .load 24 x) (g : Nat) (hx : a.eval x = .pointer (some ⟨g, 0, none⟩))
 (t : Bool) (A : Option Addr) (n c : Nat) (hg : RowAt w g 24 (sv t A n c)) (h : wpList Tryz.prog ops Q rest (a.put o.dst (.agg (sv t A n c))) w) : wpList Tryz.prog ops Q (o :: rest) a w :=
 wpList_wanted hgd fun _ hK => wp_load_row _ x ho g hx _ _ (0, 0) _ hg Tryz.underlying24 rfl (by kernel_rfl) (hK _ _ h)
theorem wpList_storeShape (hgd : Region.wanted o (yielded ops a.tmps) = true) (x y : Operand) (ho : o.op = .store 24 x y) (g : Nat) (hx : a.eval x = .pointer (some ⟨g, 0, none⟩))
 (t : Bool) (A : Option Addr) (n c : Nat) (hy : a.eval y = .agg (sv t A n c)) (cs : Array Value) (hcs : cs.size = 2) (hg : RowAt w g 24 cs)
 (h : ∀ w', RowAt w' g 24 (sv t A n c) → Else g w w' → wpList Tryz.prog ops Q rest (a.put o.dst undef) w') : wpList Tryz.prog ops Q (o :: rest) a w :=
 wpList_wanted hgd fun _ hK => wp_store_row _ x y ho g _ hx hy _ _ hg (by kernel_rfl) (by rw [hcs]; rfl) (by simp [sv, Value.oneCell']) (hK _ _ (h _ (hg.setRow (sv t A n c)) (Else.setRow w g _)))
end
section
variable {o : Oper} {a : Act} {S : World → Prop}
theorem take_loadRelIn (x : Operand) (ho : o.op = .load 59 x) (b k : Nat) (hx : a.eval x = .pointer (some ⟨b, k, none⟩)) (n : Int) (l : List Nat) (hl : RW l) (hS : ∀ w, S w → w.rangeAt b k (rvl n l)) :
 ∀ w, S w → (execOp a.eval o).run Tryz.prog w = .ok (.value (.agg (rv n l))) w := by
 intro w h
 unfold execOp
 simp only [ho, hx, Sem.run_bind, Sem.run_pure, Result.andThen_ok, run_loadAt_mid w b k _ _ _ (hS w h) Tryz.underlying59 rfl (by rw [rvl_length n hl]; kernel_rfl)]
 rfl
end
theorem ret_elem {fn : Func} {p : Tmp} (hf : fn.results = #[.cell p 40]) (tmps : Array Value) (w : World) (g : Nat) (e : List Nat) (hl : EW e)
 (hp : tmps.getD p undef = .pointer (some ⟨g, 0, none⟩)) (hg : RowAt w g 40 (uv e)) : (results fn tmps).run Tryz.prog w = .ok (.agg (uv e)) w :=
 results_cell_row hf tmps w g _ _ (0, 0) _ hp hg Tryz.underlying40 rfl (einfo hl)
theorem ret_shape {fn : Func} {p : Tmp} (hf : fn.results = #[.cell p 24]) (tmps : Array Value) (w : World) (g : Nat) (t : Bool) (A : Option Addr) (n c : Nat)
 (hp : tmps.getD p undef = .pointer (some ⟨g, 0, none⟩)) (hg : RowAt w g 24 (sv t A n c)) : (results fn tmps).run Tryz.prog w = .ok (.agg (sv t A n c)) w :=
 results_cell_row hf tmps w g _ _ (0, 0) _ hp hg Tryz.underlying24 rfl (by kernel_rfl)
end
section
open Go.RowKit RM
theorem fac_cells {w : World} {g : Nat} {f : Fac} (h : RowAt w g 61 (fv f)) :
 w.cell? ⟨g, 0, none⟩ = some (.int .i64 f.kind) ∧ w.cell? ⟨g, 1, none⟩ = some (.slice f.A f.names.length f.c) ∧ w.cell? ⟨g, 2, none⟩ = some (.int .i64 f.n) ∧ w.rangeAt g 2 (rvl f.n f.l) :=
 ⟨(h.cell 0).trans (fv_0 f), (h.cell 1).trans (fv_1 f), (h.cell 2).trans (fv_2 f), h.range 2 (rvl f.n f.l) fun j u hu => by
   unfold fv fcells
   rw [Nat.add_comm 2 j]
   simpa using hu⟩
theorem named_low {xs : List ByteArray} (h : xs.length < 1) : namedB xs = false := by unfold namedB; rw [show decide (1 ≤ xs.length) = false from zF (by omega)]; rfl
theorem named_high {xs : List ByteArray} (h : 64 < xs.length) : namedB xs = false := by unfold namedB; rw [show decide (xs.length ≤ 64) = false from zF (by omega)]; simp
theorem named_bad {xs : List ByteArray} {k : Nat} (hk : k < xs.length) (h : NM.right (xs.getD k ⟨#[]⟩) = false) : namedB xs = false := by
 unfold namedB
 rw [show xs.all NM.right = false by
  rw [List.all_eq_false]
  refine ⟨xs[k], List.getElem_mem hk, ?_⟩
  rw [List.getD_eq_getElem?_getD, List.getElem?_eq_getElem hk] at h
  simpa using h]
 simp
theorem named_end {xs : List ByteArray} (h1 : 1 ≤ xs.length) (h2 : xs.length ≤ 64) (h : ∀ k, k < xs.length → NM.right (xs.getD k ⟨#[]⟩) = true) : namedB xs = decide (twc xs < 0) := by
 unfold namedB
 rw [show xs.all NM.right = true by
  rw [List.all_eq_true]
  intro x hx
  obtain ⟨k, hk, rfl⟩ := List.mem_iff_getElem.1 hx
  have := h k hk
  rw [List.getD_eq_getElem?_getD, List.getElem?_eq_getElem hk] at this
  simpa using this, zE h1, zE h2]
 simp
theorem right_size {x : ByteArray} (h : NM.right x = true) : x.size ≤ 4294967296 := by
 unfold NM.right at h
 simp only [Bool.and_eq_true, decide_eq_true_eq] at h
 omega
theorem rights_size {xs : List ByteArray} (h : ∀ k, k < xs.length → NM.right (xs.getD k ⟨#[]⟩) = true) : ∀ x ∈ xs, x.size ≤ 4294967296 := fun x hx => by
 obtain ⟨k, hk, rfl⟩ := List.mem_iff_getElem.1 hx
 have := h k hk
 rw [List.getD_eq_getElem?_getD, List.getElem?_eq_getElem hk] at this
 exact right_size (by simpa using this)
theorem named_any (A : Option Addr) (c : Nat) (xs : List ByteArray) (w : World) (hA : Strs w A xs) :
 Calls Tryz.prog 88 #[.slice A xs.length c] w fun e w' => e = .returned (.bool (namedB xs)) ∧ Below w.heap.size w w' := by
 have HB0 : Hid (Below w.heap.size w w) := zB _ _
 by_cases h1 : xs.length < 1
 ·rw [named_low h1]
  clear hA
  generalize xs.length = n at *
  go_enter Tryz.func88, Tryz.ntmps88
  go_wp2_with fail
  go_ret
  exact ⟨rfl, HB0.out⟩
 ·by_cases h2 : 64 < xs.length
  ·rw [named_high h2]
   have h3 : 1 ≤ xs.length := by omega
   clear hA h1
   generalize xs.length = n at *
   go_enter Tryz.func88, Tryz.ntmps88
   go_wp2_with fail
   go_ret
   exact ⟨rfl, HB0.out⟩
  ·have h3 : 1 ≤ xs.length := by omega
   have h4 : xs.length ≤ 64 := by omega
   have HA := zh hA; clear hA h1 h2
   have HBAD : Hid (∀ k, k < xs.length → NM.right (xs.getD k ⟨#[]⟩) = false → namedB xs = false) := fun k => named_bad
   have HEND : Hid ((∀ k, k < xs.length → NM.right (xs.getD k ⟨#[]⟩) = true) → namedB xs = decide (twc xs < 0)) := named_end h3 h4
   have HTW : Hid ((∀ k, k < xs.length → NM.right (xs.getD k ⟨#[]⟩) = true) → ∀ W, Strs W A xs → Calls Tryz.prog 100 #[.slice A xs.length c] W fun e w' => e = .returned (.int .i64 (twc xs)) ∧ Below W.heap.size W w') := fun h W hW => twice_any A c xs W (by omega) (rights_size h) hW
   generalize namedB xs = res at *
   generalize twc xs = tw at *
   generalize hn : xs.length = n at *
   have HN := zh hn; clear hn
   go_enter Tryz.func88, Tryz.ntmps88
   go_wp2_with fail
   go_loopw [4, 15] (fun _ kv wr => ∃ k : Nat, k ≤ n ∧ kv = .int .i64 k ∧ Hid (∀ j, j < k → NM.right (xs.getD j ⟨#[]⟩) = true) ∧ Hid (Below w.heap.size w wr)) (fun _ kv _ => n - (intOf kv).toNat)
   case atStart => exact ⟨0, by omega, rfl, fun j hj => by omega, HB0⟩
   case round =>
        obtain ⟨k, hk, rfl, HK, HB1⟩ := hrel
        clear HB0
        by_cases hlt : k < n
        ·obtain ⟨b, o, rfl, hc⟩ := (HA.out.below HB1.out).at (k := k) (by rw [HN.out]; exact hlt)
         have hck := hc k (by rw [HN.out]; exact hlt)
         clear hc
         have HKN : Hid (NM.right (xs.getD k ⟨#[]⟩) = true → ∀ j, j < k + 1 → NM.right (xs.getD j ⟨#[]⟩) = true) := fun h j hj => by
          by_cases e : j = k
          ·subst e; exact h
          ·exact HK.out j (by omega)
         have HR := zh (HBAD.out k hlt)
         generalize xs.getD k ⟨#[]⟩ = x at *
         go_wp2_with fail
         refine (right_any x _).mono ?_
         rintro e w2 ⟨rfl, hb⟩
         have HB2 := zh (HB1.out.trans (hb.mono HB1.out.size))
         clear hb  HB1
         cases hr : NM.right x with
         | false =>
           have HR2 := zh (HR.out hr)
           clear hr HR HKN
           go_wp2_with fail
           go_ret
           exact ⟨ret_eq (bool_eq HR2.out.symm), HB2.out⟩
         | true =>
           have HKN2 := zh (HKN.out hr)
           clear hr HR HKN
           go_wp2_with fail
           go_roundw
           case rel => exact ⟨k + 1, by omega, by go_num, HKN2, HB2⟩
           case measure => simp [intOf]; omega
        ·have e : k = n := by omega
         subst e
         have HT2 := zh (HTW.out HK.out _ (HA.out.below HB1.out))
         have HE2 := zh (HEND.out HK.out)
         go_wp2_with fail
         refine (HT2.out).mono ?_
         rintro e w2 ⟨rfl, hb⟩
         have HB2 := zh (HB1.out.trans (hb.mono HB1.out.size))
         clear hb  HB1
         go_wp2_with fail
         go_ret
         exact ⟨ret_eq (bool_eq HE2.out.symm), HB2.out⟩
theorem relB_12 {kd n : Int} {l : List Nat} {m : Nat} (h : kd = 1 ∨ kd = 2) : relB kd n l m = decide (pts n = 0) := by unfold relB; rw [if_pos h]
theorem relB_3 {n : Int} {l : List Nat} {m : Nat} : relB 3 n l m = (decide (pts n = m) && rightB n l) := by
 unfold relB
 rw [if_neg (by omega), if_pos rfl]
 cases h : rightB n l with
 | false => simp
 | true =>
   obtain ⟨p, h1, h2, hn, hp, _⟩ := right_has h
   rw [hp, hn, Bool.and_true, Bool.and_true, decide_eq_decide]
   omega
theorem relB_4 {n : Int} {l : List Nat} {m : Nat} : relB 4 n l m = (decide (pts n = m) && latB n l) := by
 unfold relB
 rw [if_neg (by omega), if_neg (by omega), if_pos rfl]
 cases h : latB n l with
 | false => simp
 | true =>
   obtain ⟨h1, h2⟩ := lat_n h
   have := pts_in (show 0 ≤ n by omega) h2
   rw [Bool.and_true, Bool.and_true, decide_eq_decide]
   omega
theorem relB_no {kd n : Int} {l : List Nat} {m : Nat} (h1 : ¬ kd = 1) (h2 : ¬ kd = 2) (h3 : ¬ kd = 3) (h4 : ¬ kd = 4) : relB kd n l m = false := by
 unfold relB
 rw [if_neg (by omega), if_neg h3, if_neg h4]
theorem pts_zero_eq (p : Nat) : ((p : Int) == 0) = decide (p = 0) := by rw [Bool.eq_iff_iff]; simp
end
section
open Go.RowKit RM
theorem rightS_low {t : Bool} {fs : List Fac} (h : fs.length < 1) : rightS t fs = false := by unfold rightS; rw [show decide (1 ≤ fs.length) = false from zF (by omega)]; rfl
theorem rightS_high {t : Bool} {fs : List Fac} (h : 8 < fs.length) : rightS t fs = false := by unfold rightS; rw [show decide (fs.length ≤ 8) = false from zF (by omega)]; simp
theorem rightS_one {fs : List Fac} (h : ¬ fs.length = 1) : rightS false fs = false := by unfold rightS; rw [zF h]; simp
theorem rightS_bad {t : Bool} {fs : List Fac} {k : Nat} (hk : k < fs.length) (h : facB (fs.getD k f0) = false) : rightS t fs = false := by
 unfold rightS
 rw [show fs.all facB = false by
  rw [List.all_eq_false]
  exact ⟨_, getD_memF hk, by rw [h]; simp⟩]
 simp
theorem rightS_end {t : Bool} {fs : List Fac} (h1 : 1 ≤ fs.length) (h2 : fs.length ≤ 8) (h3 : t = true ∨ fs.length = 1) (h : ∀ k, k < fs.length → facB (fs.getD k f0) = true) : rightS t fs = true := by
 unfold rightS
 rw [show fs.all facB = true by
  rw [List.all_eq_true]
  intro x hx
  obtain ⟨k, hk, rfl⟩ := List.mem_iff_getElem.1 hx
  have := h k hk
  rw [List.getD_eq_getElem?_getD, List.getElem?_eq_getElem hk] at this
  simpa using this, zE h1, zE h2]
 rcases h3 with rfl | h3
 ·rfl
 ·rw [zE h3]; simp
theorem shape_cells {w : World} {g : Nat} {t : Bool} {A : Option Addr} {n c : Nat} (h : RowAt w g 24 (sv t A n c)) :
 w.cell? ⟨g, 0, none⟩ = some (.bool t) ∧ w.cell? ⟨g, 1, none⟩ = some (.slice A n c) := ⟨h.cell 0, h.cell 1⟩
theorem below_made {B : Nat} {w wr w2 : World} {cs : Array Value} {t : TypeId} (hb : Below B w wr) (hB : B ≤ wr.heap.size) (he : Else wr.heap.size (wr.alloc (.cells cs t)) w2) : Below B w w2 :=
 (hb.alloc hB _).trans (he.below hB)
end
section
open Go.RowKit RM
end
section
open Go.RowKit RM
theorem sdTo_ew {F : Nat → Nat} (h : ∀ i, F i < 18446744073709551616) (k : Nat) : EW (sdTo F 8 k) := EW.map (F := fun i => if i < k then F i else 0) fun i => by
 show (if i < k then F i else 0) < _
 split
 ·exact h i
 ·omega
end
section
open Go.RowKit RM
theorem leq_bad {a b : List Nat} {k : Nat} (hk : k < 8) (h : MM.subN (a.getD k 0) (b.getD k 0) = false) : leqE a b = false := by
 unfold leqE
 rw [List.all_eq_false]
 exact ⟨k, List.mem_range.2 hk, by rw [h]; simp⟩
theorem four_rows (w : World) (c1 c2 c3 c4 : Array Value) (t1 t2 t3 t4 : TypeId) :
 RowAt ((((w.alloc (.cells c1 t1)).alloc (.cells c2 t2)).alloc (.cells c3 t3)).alloc (.cells c4 t4)) w.heap.size t1 c1 ∧
 RowAt ((((w.alloc (.cells c1 t1)).alloc (.cells c2 t2)).alloc (.cells c3 t3)).alloc (.cells c4 t4)) (w.heap.size + 1) t2 c2 ∧
 RowAt ((((w.alloc (.cells c1 t1)).alloc (.cells c2 t2)).alloc (.cells c3 t3)).alloc (.cells c4 t4)) (w.heap.size + 2) t3 c3 ∧
 RowAt ((((w.alloc (.cells c1 t1)).alloc (.cells c2 t2)).alloc (.cells c3 t3)).alloc (.cells c4 t4)) (w.heap.size + 3) t4 c4 ∧
 Below w.heap.size w ((((w.alloc (.cells c1 t1)).alloc (.cells c2 t2)).alloc (.cells c3 t3)).alloc (.cells c4 t4)) := by
 have h1 := RowAt.new w t1 c1
 have h2 := RowAt.new (w.alloc (.cells c1 t1)) t2 c2
 have h3 := RowAt.new ((w.alloc (.cells c1 t1)).alloc (.cells c2 t2)) t3 c3
 have h4 := RowAt.new (((w.alloc (.cells c1 t1)).alloc (.cells c2 t2)).alloc (.cells c3 t3)) t4 c4
 simp only [World.size_alloc] at h2 h3 h4
 exact ⟨((h1.alloc _).alloc _).alloc _, (h2.alloc _).alloc _, h3.alloc _, h4, ((((zB _ w).alloc (zL _) _).alloc (by simp) _).alloc (by simp; omega) _).alloc (by simp; omega) _⟩
theorem sleq_any (a b : List Nat) (ha : EW a) (hb : EW b) (w : World) :
 Calls Tryz.prog 21 #[.agg (uv a), .agg (uv b)] w fun x w' => x = .returned (.bool (leqE a b)) ∧ Below w.heap.size w w' := by
 have r0 : RowAt ((w.alloc (.cells (uv a) 40)).alloc (.cells (uv b) 40)) w.heap.size 40 (uv a) := (RowAt.new w _ _).alloc _
 have q0 : RowAt ((w.alloc (.cells (uv a) 40)).alloc (.cells (uv b) 40)) (w.heap.size + 1) 40 (uv b) := by
  have := RowAt.new (w.alloc (.cells (uv a) 40)) 40 (uv b)
  simpa using this
 have HB0 : Hid (Below w.heap.size w ((w.alloc (.cells (uv a) 40)).alloc (.cells (uv b) 40))) := ((zB _ _).alloc (zL _) _).alloc (by simp) _
 have HBAD : Hid (∀ k, k < 8 → MM.subN (a.getD k 0) (b.getD k 0) = false → leqE a b = false) := fun k hk h => leq_bad hk h
 have HEND : Hid ((∀ k, k < 8 → MM.subN (a.getD k 0) (b.getD k 0) = true) → leqE a b = true) := fun h => leq_iff.2 h
 have HA : Hid (∀ k, k < 8 → (uv a)[k]? = some (.int .u64 ((a.getD k 0 : Nat) : Int))) := fun k hk => ev_at ha k hk
 have HC : Hid (∀ k, k < 8 → (uv b)[k]? = some (.int .u64 ((b.getD k 0 : Nat) : Int))) := fun k hk => ev_at hb k hk
 have HLA := zh ha.lt
 have HLB := zh hb.lt
 clear ha hb
 generalize leqE a b = res at *
 generalize uv a = U at *
 generalize uv b = V2 at *
 go_enter Tryz.func21, Tryz.ntmps21
 go_upto_region 1 with fail
 generalize (w.alloc (.cells U 40)).alloc (.cells V2 40) = w0 at *
 go_wp2_with fail
 go_loopw [5, 6] (fun _ kv wr => ∃ k : Nat, k ≤ 8 ∧ kv = .int .i64 k ∧ RowAt wr w.heap.size 40 U ∧ RowAt wr (w.heap.size + 1) 40 V2 ∧ Hid (∀ j, j < k → MM.subN (a.getD j 0) (b.getD j 0) = true) ∧ Hid (Below w.heap.size w wr)) (fun _ kv _ => 8 - (intOf kv).toNat)
 case atStart => exact ⟨0, by omega, rfl, r0, q0, fun j hj => by omega, HB0⟩
 case round =>
  clear r0 q0 HB0
  obtain ⟨k, hk, rfl, r1, q1, HK, HB1⟩ := hrel
  by_cases hlt : k < 8
  ·have hk8 : (k : Int) < 8 := by omega
   have HR := zh (HBAD.out k hlt)
   have HKN : Hid (MM.subN (a.getD k 0) (b.getD k 0) = true → ∀ j, j < k + 1 → MM.subN (a.getD j 0) (b.getD j 0) = true) := fun h j hj => by
        by_cases e : j = k
        ·subst e; exact h
        ·exact HK.out j (by omega)
   have hxa := HA.out k hlt
   have hxb := HC.out k hlt
   have h1 := HLA.out k
   have h2 := HLB.out k
   have HSB : Hid (∀ W, Calls Tryz.prog 40 #[.int .u64 ((a.getD k 0 : Nat) : Int), .int .u64 ((b.getD k 0 : Nat) : Int)] W fun x w' => x = .returned (.bool (MM.subN (a.getD k 0) (b.getD k 0))) ∧ W = w') := fun W => sub_any _ _ h1 h2 W
   clear h1 h2
   generalize MM.subN (a.getD k 0) (b.getD k 0) = bw at *
   generalize a.getD k 0 = x at *
   generalize b.getD k 0 = y at *
   obtain ⟨S, HS, pW, keepS⟩ := ex_gen wr
   have PR : Hid (∀ w', S w' → RowAt w' w.heap.size 40 U) := fun w' h => r1.below (pW w' h) r1.lt
   have PQ : Hid (∀ w', S w' → RowAt w' (w.heap.size + 1) 40 V2) := fun w' h => q1.below (pW w' h) q1.lt
   have cA : ∀ w', S w' → w'.cell? ⟨w.heap.size, k, none⟩ = some (.int .u64 (x : Int)) := fun w' h => ((PR.out w' h).cell k).trans hxa
   have cB : ∀ w', S w' → w'.cell? ⟨w.heap.size + 1, k, none⟩ = some (.int .u64 (y : Int)) := fun w' h => ((PQ.out w' h).cell k).trans hxb
   have PB : Hid (∀ w', S w' → Below w.heap.size w w') := fun w' h => HB1.out.trans ((pW w' h).mono HB1.out.size)
   clear pW r1 q1 HB1 hxa hxb
   go_wp2_with fail
   refine wp_region_ord S [(0, true), (1, true), (2, true), (3, true), (4, true), (5, true), (6, false), (7, true)] (by kernel_rfl) (by kernel_rfl) rfl (by kernel_rfl) HS.out ?_
   generalize wr.drew = V at HS ⊢
   iterate 6
        (refine wpOrd_step (zO rfl) ?_)
        (first
         | (refine wpOrd_skip (by rfl) ?_)
         | (refine wpOrd_take (v := ?_) (by rfl) ?_ ?_; rotate_left 1; (intro wx hSx; have hc_0 := cA wx hSx; have hc_1 := cB wx hSx; go_simp; try with_reducible rfl)))
        (try simp only [Act.put, zA4, zA5, zA6])
   (refine wpOrd_solo (zO rfl) ?_)
   intro K hK
   go_simp
   go_at_call 40
   refine (HSB.out _).mono ?_
   rintro e w' ⟨rfl, rfl⟩
   refine hK.out _ _ HS.out ?_
   clear hK K
   (try simp only [Act.put, zA4, zA5, zA6])
   iterate 1
        (refine wpOrd_step (zO rfl) ?_)
        (first
         | (refine wpOrd_skip (by rfl) ?_)
         | (refine wpOrd_take (v := ?_) (by rfl) ?_ ?_; rotate_left 1; (intro wx hSx; go_simp; try with_reducible rfl)))
        (try simp only [Act.put, zA4, zA5, zA6])
   refine wpOrd_done ?_
   have HB5 := zh (PB.out _ HS.out)
   have r5 := PR.out _ HS.out
   have q5 := PQ.out _ HS.out
   clear PR PQ cA cB PB HS keepS
   cases bw with
   | false =>
     have HR2 := zh (HR.out rfl)
     clear HR HKN
     go_wp2_with fail
     go_ret
     exact ⟨ret_eq (bool_eq HR2.out.symm), HB5.out⟩
   | true =>
     have HKN2 := zh (HKN.out rfl)
     clear HR HKN
     go_wp2_with fail
     go_roundw
     case rel => exact ⟨k + 1, by omega, by go_num, r5, q5, HKN2, HB5⟩
     case measure => simp [intOf]; omega
  ·have e1 : k = 8 := by omega
   subst e1
   have HE2 := zh (HEND.out HK.out)
   go_wp2_with fail
   go_ret
   exact ⟨ret_eq (bool_eq HE2.out.symm), HB1.out⟩
theorem smeet_any (a b : List Nat) (ha : EW a) (hb : EW b) (w : World) :
 Calls Tryz.prog 39 #[.agg (uv a), .agg (uv b)] w fun x w' => x = .returned (.agg (uv (meetE a b))) ∧ Below w.heap.size w w' := by
 have z8 := EW.zeros
 obtain ⟨r0, q0, p0, s0, hb0⟩ := four_rows w (uv a) (uv b) (uv (List.replicate 8 0)) (uv (List.replicate 8 0)) 40 40 40 40
 have HB0 := zh hb0; clear hb0
 have HA : Hid (∀ k, k < 8 → (uv a)[k]? = some (.int .u64 ((a.getD k 0 : Nat) : Int))) := fun k hk => ev_at ha k hk
 have HC : Hid (∀ k, k < 8 → (uv b)[k]? = some (.int .u64 ((b.getD k 0 : Nat) : Int))) := fun k hk => ev_at hb k hk
 have HLA := zh ha.lt
 have HLB := zh hb.lt
 have hG : meetE a b = sdTo (fun i => a.getD i 0 &&& b.getD i 0) 8 8 := (sdTo_end (fun i => a.getD i 0 &&& b.getD i 0) 8).symm
 rw [hG]
 have HEW : Hid (∀ k, EW (sdTo (fun i => a.getD i 0 &&& b.getD i 0) 8 k)) := sdTo_ew fun i => and_lt _ (ha.lt i)
 have HZ : Hid (sdTo (fun i => a.getD i 0 &&& b.getD i 0) 8 0 = List.replicate 8 0) := sdTo_zero _ 8
 have HNX : Hid (∀ k, (uv (sdTo (fun i => a.getD i 0 &&& b.getD i 0) 8 k)).setIfInBounds k (.int .u64 ((a.getD k 0 &&& b.getD k 0 : Nat) : Int)) = uv (sdTo (fun i => a.getD i 0 &&& b.getD i 0) 8 (k + 1))) := fun k => by rw [uv_set, ← sdTo_set]
 clear ha hb hG
 generalize sdTo (fun i => a.getD i 0 &&& b.getD i 0) 8 = G at *
 generalize uv a = U at *
 generalize uv b = V2 at *
 rw [← zero_elem] at r0 q0 p0 s0 HB0
 go_enter Tryz.func39, Tryz.ntmps39
 go_upto_region 2 with fail
 rw [zero_elem] at r0 q0 p0 s0 HB0 ⊢
 generalize (((w.alloc (.cells U 40)).alloc (.cells V2 40)).alloc (.cells (uv (List.replicate 8 0)) 40)).alloc (.cells (uv (List.replicate 8 0)) 40) = w0 at *
 have n1 : w.heap.size ≠ w.heap.size + 3 := by omega
 have n2 : w.heap.size + 1 ≠ w.heap.size + 3 := by omega
 have n3 : w.heap.size + 2 ≠ w.heap.size + 3 := by omega
 have n4 : w.heap.size ≤ w.heap.size + 3 := by omega
 have n5 : w.heap.size ≤ w.heap.size + 2 := by omega
 rw [← HZ.out] at s0
 generalize hgE : w.heap.size + 3 = gE at *
 generalize hgR : w.heap.size + 2 = gR at *
 rw [← HZ.out] at p0
 rw [HZ.out] at p0
 go_wp2_with fail
 go_loopw [6, 7] (fun _ kv wr => ∃ k : Nat, k ≤ 8 ∧ kv = .int .i64 k ∧ RowAt wr w.heap.size 40 U ∧ RowAt wr (w.heap.size + 1) 40 V2 ∧ RowAt wr gR 40 (uv (List.replicate 8 0)) ∧ RowAt wr gE 40 (uv (G k)) ∧ Hid (Below w.heap.size w wr)) (fun _ kv _ => 8 - (intOf kv).toNat)
 case atStart => exact ⟨0, by omega, rfl, r0, q0, p0, s0, HB0⟩
 case round =>
  clear r0 q0 p0 s0 HB0
  obtain ⟨k, hk, rfl, r1, q1, p1, s1, HB1⟩ := hrel
  by_cases hlt : k < 8
  ·have hk8 : (k : Int) < 8 := by omega
   have hxa := HA.out k hlt
   have hxb := HC.out k hlt
   have hor := u64_and_nat (a.getD k 0) (b.getD k 0) (HLA.out k) (HLB.out k)
   have hce0 := ev_at (HEW.out k) k hlt
   have hnx := HNX.out k
   generalize (G k).getD k 0 = x0 at *
   generalize a.getD k 0 &&& b.getD k 0 = z at *
   generalize a.getD k 0 = x at *
   generalize b.getD k 0 = y at *
   have HNX2 := zh hnx; clear hnx
   obtain ⟨S, HS, pM, keepS, SI⟩ := ex_mut gE wr
   have PM := zh pM
   have PR : Hid (∀ w', S w' → RowAt w' w.heap.size 40 U) := fun w' h => r1.mut (pM w' h) n1
   have PQ : Hid (∀ w', S w' → RowAt w' (w.heap.size + 1) 40 V2) := fun w' h => q1.mut (pM w' h) n2
   have PP : Hid (∀ w', S w' → RowAt w' gR 40 (uv (List.replicate 8 0))) := fun w' h => p1.mut (pM w' h) n3
   have cA : ∀ w', S w' → w'.cell? ⟨w.heap.size, k, none⟩ = some (.int .u64 (x : Int)) := fun w' h => ((PR.out w' h).cell k).trans hxa
   have cB : ∀ w', S w' → w'.cell? ⟨w.heap.size + 1, k, none⟩ = some (.int .u64 (y : Int)) := fun w' h => ((PQ.out w' h).cell k).trans hxb
   have PB : Hid (∀ w', S w' → Below w.heap.size w w') := fun w' h => HB1.out.trans ((pM w' h).below n4 HB1.out.size)
   have s2 := s1.drew
   have hce := (s2.cell k).trans hce0
   have hfe := s2.free k
   have HCF := zh (And.intro hce hfe)
   clear pM r1 q1 p1 s1 HB1 hxa hxb hce0 hce hfe
   go_wp2_with fail
   refine wp_region_ord S [(0, true), (1, true), (2, true), (3, true), (4, true), (5, true), (6, true), (7, true), (8, true), (9, false)] (by kernel_rfl) (by kernel_rfl) rfl (by kernel_rfl) HS.out ?_
   generalize wr.drew = V at HS s2 HCF ⊢
   iterate 9
        (refine wpOrd_step (zO rfl) ?_)
        (first
         | (refine wpOrd_skip (by rfl) ?_)
         | (refine wpOrd_take (v := ?_) (by rfl) ?_ ?_; rotate_left 1; (intro wx hSx; have hc_0 := cA wx hSx; have hc_1 := cB wx hSx; go_simp; try with_reducible rfl)))
        (try simp only [Act.put, zA4, zA5, zA6])
   obtain ⟨hce, hfe⟩ := HCF.out
   (refine wpOrd_solo (zO rfl) ?_)
   intro K hK
   go_simp
   have HM5 := zh ((PM.out _ HS.out).trans (Mut.of_set V gE k (.int .u64 ((z : Nat) : Int))))
   have p5 := s2.put k (.int .u64 ((z : Nat) : Int))
   rw [HNX2.out] at p5
   refine hK.out _ _ (SI.out _ HM5.out) ?_
   clear hK K
   (try simp only [Act.put, zA4, zA5, zA6])
   refine wpOrd_done ?_
   have HB5 := zh (PB.out _ (SI.out _ HM5.out))
   have r5 := PR.out _ (SI.out _ HM5.out)
   have q5 := PQ.out _ (SI.out _ HM5.out)
   have p6 := PP.out _ (SI.out _ HM5.out)
   clear PR PQ PP PM cA cB PB HS keepS SI HM5 hce hfe HCF hor s2
   go_wp2_with fail
   go_roundw
   case rel => exact ⟨k + 1, by omega, by go_num, r5, q5, p6, p5, HB5⟩
   case measure => simp [intOf]; omega
  ·have e1 : k = 8 := by omega
   subst e1
   have hew := HEW.out 8
   go_wp2_with (first | (refine wpList_loadElem (by rfl) _ rfl gE rfl _ hew s1 ?_) | (refine wpList_storeElem (by rfl) _ _ rfl gR rfl _ hew rfl _ z8 p1 ?_; intro w7 q7 he))
   exact bodyPost_ret (ret_elem rfl _ _ gR _ hew rfl q7) rfl ⟨rfl, HB1.out.trans (he.below n5)⟩
end
section
open Go.RowKit RM
theorem five_rows (w : World) (c1 c2 c3 c4 c5 : Array Value) (t1 t2 t3 t4 t5 : TypeId) :
 RowAt (((((w.alloc (.cells c1 t1)).alloc (.cells c2 t2)).alloc (.cells c3 t3)).alloc (.cells c4 t4)).alloc (.cells c5 t5)) w.heap.size t1 c1 ∧
 RowAt (((((w.alloc (.cells c1 t1)).alloc (.cells c2 t2)).alloc (.cells c3 t3)).alloc (.cells c4 t4)).alloc (.cells c5 t5)) (w.heap.size + 1) t2 c2 ∧
 RowAt (((((w.alloc (.cells c1 t1)).alloc (.cells c2 t2)).alloc (.cells c3 t3)).alloc (.cells c4 t4)).alloc (.cells c5 t5)) (w.heap.size + 2) t3 c3 ∧
 RowAt (((((w.alloc (.cells c1 t1)).alloc (.cells c2 t2)).alloc (.cells c3 t3)).alloc (.cells c4 t4)).alloc (.cells c5 t5)) (w.heap.size + 3) t4 c4 ∧
 RowAt (((((w.alloc (.cells c1 t1)).alloc (.cells c2 t2)).alloc (.cells c3 t3)).alloc (.cells c4 t4)).alloc (.cells c5 t5)) (w.heap.size + 4) t5 c5 ∧
 Below w.heap.size w (((((w.alloc (.cells c1 t1)).alloc (.cells c2 t2)).alloc (.cells c3 t3)).alloc (.cells c4 t4)).alloc (.cells c5 t5)) := by
 obtain ⟨h1, h2, h3, h4, hb⟩ := four_rows w c1 c2 c3 c4 t1 t2 t3 t4
 have h5 := RowAt.new ((((w.alloc (.cells c1 t1)).alloc (.cells c2 t2)).alloc (.cells c3 t3)).alloc (.cells c4 t4)) t5 c5
 simp only [World.size_alloc] at h5
 exact ⟨h1.alloc _, h2.alloc _, h3.alloc _, h4.alloc _, h5, hb.alloc (by simp; omega) _⟩
theorem Facs.rng {w : World} {b o : Nat} {fs : List Fac} (h : Facs w (some ⟨b, o, none⟩) fs) {i : Nat} (hi : i < fs.length) : w.rangeAt b (o + i * 67) (fcells (fs.getD i f0)) := by
 obtain ⟨b2, o2, e, _, hr⟩ := h.at hi
 injection e with e
 injection e with e1 e2
 subst e1 e2
 exact hr i hi
theorem fac_kind {w : World} {b k : Nat} {f : Fac} (h : w.rangeAt b k (fcells f)) : w.cell? ⟨b, k, none⟩ = some (.int .i64 f.kind) := h 0 _ rfl
theorem fac_rel {w : World} {b k : Nat} {f : Fac} (h : w.rangeAt b k (fcells f)) : w.rangeAt b (k + 2) (rvl f.n f.l) := fun j v hv => by
 have := h (2 + j) v (by unfold fcells; rw [Nat.add_comm 2 j]; simpa using hv)
 rw [← Nat.add_assoc] at this
 exact this
theorem sjoin_any (t : Bool) (A : Option Addr) (c : Nat) (fs : List Fac) (a b : List Nat) (ha : EW a) (hb : EW b) (w : World) (hT : Tab w) (hF : Facs w A fs) :
 Calls Tryz.prog 37 #[.agg (sv t A fs.length c), .agg (uv a), .agg (uv b)] w fun x w' => x = .returned (.agg (uv (joinE fs a b))) ∧ Below w.heap.size w w' := by
 have z8 := EW.zeros
 have HT := zh hT; clear hT
 obtain ⟨r0, q0, t0, p0, s0, hb0⟩ := five_rows w (sv t A fs.length c) (uv a) (uv b) (uv (List.replicate 8 0)) (uv (List.replicate 8 0)) 24 40 40 40 40
 have HB0 := zh hb0; clear hb0
 have HA : Hid (∀ k, k < 8 → (uv a)[k]? = some (.int .u64 ((a.getD k 0 : Nat) : Int))) := fun k hk => ev_at ha k hk
 have HC : Hid (∀ k, k < 8 → (uv b)[k]? = some (.int .u64 ((b.getD k 0 : Nat) : Int))) := fun k hk => ev_at hb k hk
 have HLA := zh ha.lt
 have HLB := zh hb.lt
 have HS1 : Hid (∀ W, RowAt W w.heap.size 24 (sv t A fs.length c) → W.cell? ⟨w.heap.size, 0, none⟩ = some (.bool t) ∧ W.cell? ⟨w.heap.size, 1, none⟩ = some (.slice A fs.length c)) := fun W h => shape_cells h
 have HF : Hid (∀ W, Below w.heap.size w W → Facs W A fs) := fun W h => hF.below h
 have hG : joinE fs a b = sdTo (fun i => joinS fs i (a.getD i 0) (b.getD i 0)) 8 8 := (sdTo_end (fun i => joinS fs i (a.getD i 0) (b.getD i 0)) 8).symm
 rw [hG]
 have HEW : Hid (∀ k, EW (sdTo (fun i => joinS fs i (a.getD i 0) (b.getD i 0)) 8 k)) := sdTo_ew fun i => joinS_lt fs i (ha.lt i) (hb.lt i)
 have HZ : Hid (sdTo (fun i => joinS fs i (a.getD i 0) (b.getD i 0)) 8 0 = List.replicate 8 0) := sdTo_zero _ 8
 have HNX : Hid (∀ k, (uv (sdTo (fun i => joinS fs i (a.getD i 0) (b.getD i 0)) 8 k)).setIfInBounds k (.int .u64 ((joinS fs k (a.getD k 0) (b.getD k 0) : Nat) : Int)) = uv (sdTo (fun i => joinS fs i (a.getD i 0) (b.getD i 0)) 8 (k + 1))) := fun k => by rw [uv_set, ← sdTo_set]
 clear ha hb hG hF
 generalize sdTo (fun i => joinS fs i (a.getD i 0) (b.getD i 0)) 8 = G at *
 generalize hn : fs.length = n at *
 have HN := zh hn; clear hn
 generalize uv a = U at *
 generalize uv b = V2 at *
 generalize sv t A n c = V at *
 rw [← zero_elem] at r0 q0 t0 p0 s0 HB0
 go_enter Tryz.func37, Tryz.ntmps37
 go_upto_region 2 with fail
 rw [zero_elem] at r0 q0 t0 p0 s0 HB0 ⊢
 generalize ((((w.alloc (.cells V 24)).alloc (.cells U 40)).alloc (.cells V2 40)).alloc (.cells (uv (List.replicate 8 0)) 40)).alloc (.cells (uv (List.replicate 8 0)) 40) = w0 at *
 have n1 : w.heap.size ≠ w.heap.size + 4 := by omega
 have n2 : w.heap.size + 1 ≠ w.heap.size + 4 := by omega
 have n3 : w.heap.size + 2 ≠ w.heap.size + 4 := by omega
 have n4 : w.heap.size ≤ w.heap.size + 4 := by omega
 have n5 : w.heap.size + 3 ≠ w.heap.size + 4 := by omega
 have n6 : w.heap.size ≤ w.heap.size + 3 := by omega
 generalize hgE : w.heap.size + 4 = gE at *
 generalize hgR : w.heap.size + 3 = gR at *
 rw [← HZ.out] at s0
 go_wp2_with fail
 go_loopw [8, 9] (fun _ kv wr => ∃ k : Nat, k ≤ 8 ∧ kv = .int .i64 k ∧ RowAt wr w.heap.size 24 V ∧ RowAt wr (w.heap.size + 1) 40 U ∧ RowAt wr (w.heap.size + 2) 40 V2 ∧ RowAt wr gR 40 (uv (List.replicate 8 0)) ∧ RowAt wr gE 40 (uv (G k)) ∧ Hid (Below w.heap.size w wr)) (fun _ kv _ => 8 - (intOf kv).toNat)
 case atStart => exact ⟨0, by omega, rfl, r0, q0, t0, p0, s0, HB0⟩
 case round =>
  clear r0 q0 t0 p0 s0 HB0
  obtain ⟨k, hk, rfl, r1, q1, t1, p1, s1, HB1⟩ := hrel
  by_cases h8 : k < 8
  ·have hk8 : (k : Int) < 8 := by omega
   have HXA := zh (HA.out k h8)
   have HXB := zh (HC.out k h8)
   have hx := HLA.out k
   have hy := HLB.out k
   have hor := u64_or_nat (a.getD k 0) (b.getD k 0) hx hy
   have hce0 := ev_at (HEW.out k) k h8
   have HCE0 := zh hce0; clear hce0
   have hnx := HNX.out k
   generalize (G k).getD k 0 = x0 at *
   generalize a.getD k 0 = x at *
   generalize b.getD k 0 = y at *
   obtain ⟨c0, c1⟩ := HS1.out _ r1
   by_cases hlt : k < n
   ·have hFk := HF.out _ HB1.out
    obtain ⟨b, o, rfl, _, hr⟩ := hFk.at (k := k) (by rw [HN.out]; exact hlt)
    have hrg := hr k (by rw [HN.out]; exact hlt)
    have hck := fac_kind hrg
    have hl := (hFk.okAt (i := k) (by rw [HN.out]; exact hlt)).rows
    have HRG : Hid (∀ W, Below w.heap.size w W → W.rangeAt b (o + k * 67 + 2) (rvl (fs.getD k f0).n (fs.getD k f0).l)) := fun W h => fac_rel ((HF.out W h).rng (by rw [HN.out]; exact hlt))
    rw [joinS_in (by rw [HN.out]; exact hlt)] at hnx
    clear hr hFk hrg
    by_cases e4 : (fs.getD k f0).kind = 4
    ·have hJ : joinW (fs.getD k f0) x y = raiseN (fs.getD k f0).n (fs.getD k f0).l x y := by unfold joinW; rw [if_pos e4]
     have HRS : Hid (∀ W, Tab W → Calls Tryz.prog 58 #[.agg (rv (fs.getD k f0).n (fs.getD k f0).l), .int .u64 (x : Int), .int .u64 (y : Int)] W fun e w' => e = .returned (.int .u64 ((raiseN (fs.getD k f0).n (fs.getD k f0).l x y : Nat) : Int)) ∧ Below W.heap.size W w') := fun W h => hraise_any _ _ hl x y hx hy W h
     rw [hJ] at hnx
     clear hJ
     have HNX2 := zh hnx; clear hnx hx hy
     generalize raiseN (fs.getD k f0).n (fs.getD k f0).l x y = z at *
     generalize (fs.getD k f0).n = nf at *
     generalize (fs.getD k f0).l = lf at *
     generalize (fs.getD k f0).kind = kd at *
     go_wp2_with fail
     obtain ⟨S, HS, pM, keepS, SI⟩ := ex_mut gE wr
     have PM := zh pM
     have PR : Hid (∀ w', S w' → RowAt w' w.heap.size 24 V) := fun w' h => r1.mut (pM w' h) n1
     have PQ : Hid (∀ w', S w' → RowAt w' (w.heap.size + 1) 40 U) := fun w' h => q1.mut (pM w' h) n2
     have PT : Hid (∀ w', S w' → RowAt w' (w.heap.size + 2) 40 V2) := fun w' h => t1.mut (pM w' h) n3
     have PP : Hid (∀ w', S w' → RowAt w' gR 40 (uv (List.replicate 8 0))) := fun w' h => p1.mut (pM w' h) n5
     have cS : ∀ w', S w' → w'.cell? ⟨w.heap.size, 1, none⟩ = some (.slice (some ⟨b, o, none⟩) n c) := fun w' h => (HS1.out _ (PR.out w' h)).2
     have cA : ∀ w', S w' → w'.cell? ⟨w.heap.size + 1, k, none⟩ = some (.int .u64 (x : Int)) := fun w' h => ((PQ.out w' h).cell k).trans HXA.out
     have cB : ∀ w', S w' → w'.cell? ⟨w.heap.size + 2, k, none⟩ = some (.int .u64 (y : Int)) := fun w' h => ((PT.out w' h).cell k).trans HXB.out
     have PB : Hid (∀ w', S w' → Below w.heap.size w w') := fun w' h => HB1.out.trans ((pM w' h).below n4 HB1.out.size)
     have s2 := s1.drew
     clear pM r1 q1 t1 p1 s1 HB1
     have pR : ∀ w', S w' → w'.rangeAt b (o + k * 67 + 2) (rvl nf lf) := fun w' h => HRG.out w' (PB.out w' h)
     refine wp_region_ord S [(0, true), (1, true), (2, true), (3, true), (4, true), (5, true), (6, true), (7, true), (8, true), (9, true), (10, true), (11, true), (12, true), (13, false), (14, true), (15, false)] (by kernel_rfl) (by kernel_rfl) rfl (by kernel_rfl) HS.out ?_
     generalize wr.drew = VV at HS s2 ⊢
     iterate 13
      (refine wpOrd_step (zO rfl) ?_)
      (first
       | (refine wpOrd_skip (by rfl) ?_)
       | (refine wpOrd_take (by rfl) (take_loadRelIn _ rfl _ _ rfl _ _ hl pR) ?_)
       | (refine wpOrd_take (v := ?_) (by rfl) ?_ ?_; rotate_left 1; (intro wx hSx; have hc_0 := cS wx hSx; have hc_1 := cA wx hSx; have hc_2 := cB wx hSx; go_simp; try with_reducible rfl)))
      (try simp only [Act.put, zA4, zA5, zA6])
     (refine wpOrd_solo (zO rfl) ?_)
     intro K hK
     go_simp
     go_at_call 58
     refine (HRS.out _ (HT.out.below (PB.out _ HS.out))).mono ?_
     rintro e w4 ⟨rfl, hb⟩; have s4 := s2.below hb s2.lt; clear s2
     have hS := keepS _ _ HS.out hb
     clear HS
     have HS := zh hS; clear hS hb
     refine hK.out _ _ HS.out ?_
     clear hK K
     (try simp only [Act.put, zA4, zA5, zA6])
     iterate 1
      (refine wpOrd_step (zO rfl) ?_)
      (first
       | (refine wpOrd_skip (by rfl) ?_)
       | (refine wpOrd_take (v := ?_) (by rfl) ?_ ?_; rotate_left 1; (intro wx hSx; go_simp; try with_reducible rfl)))
      (try simp only [Act.put, zA4, zA5, zA6])
     have hce := (s4.cell k).trans HCE0.out
     have hfe := s4.free k
     (refine wpOrd_solo (zO rfl) ?_)
     intro K hK
     go_simp
     have HM5 := zh ((PM.out _ HS.out).trans (Mut.of_set w4 gE k (.int .u64 ((z : Nat) : Int))))
     have p5 := s4.put k (.int .u64 ((z : Nat) : Int))
     rw [HNX2.out] at p5
     refine hK.out _ _ (SI.out _ HM5.out) ?_
     clear hK K
     (try simp only [Act.put, zA4, zA5, zA6])
     refine wpOrd_done ?_
     have HB5 := zh (PB.out _ (SI.out _ HM5.out))
     have r5 := PR.out _ (SI.out _ HM5.out)
     have q5 := PQ.out _ (SI.out _ HM5.out)
     have t5 := PT.out _ (SI.out _ HM5.out)
     have p6 := PP.out _ (SI.out _ HM5.out)
     clear PR PQ PT PP PM cS cA cB PB HS keepS SI HM5 hce hfe
     clear pR s4
     go_wp2_with fail
     go_roundw
     case rel => exact ⟨k + 1, by omega, by go_num, r5, q5, t5, p6, p5, HB5⟩
     case measure => simp [intOf]; omega
    ·have hJ : joinW (fs.getD k f0) x y = x ||| y := by unfold joinW; rw [if_neg e4]
     rw [hJ] at hnx
     clear hJ
     have HNX2 := zh hnx; clear hnx hx hy HRG hl
     generalize x ||| y = zo at *
     generalize (fs.getD k f0).kind = kd at *
     obtain ⟨S, HS, pM, keepS, SI⟩ := ex_mut gE wr
     have PM := zh pM
     have PR : Hid (∀ w', S w' → RowAt w' w.heap.size 24 V) := fun w' h => r1.mut (pM w' h) n1
     have PQ : Hid (∀ w', S w' → RowAt w' (w.heap.size + 1) 40 U) := fun w' h => q1.mut (pM w' h) n2
     have PT : Hid (∀ w', S w' → RowAt w' (w.heap.size + 2) 40 V2) := fun w' h => t1.mut (pM w' h) n3
     have PP : Hid (∀ w', S w' → RowAt w' gR 40 (uv (List.replicate 8 0))) := fun w' h => p1.mut (pM w' h) n5
     have cS : ∀ w', S w' → w'.cell? ⟨w.heap.size, 1, none⟩ = some (.slice (some ⟨b, o, none⟩) n c) := fun w' h => (HS1.out _ (PR.out w' h)).2
     have cA : ∀ w', S w' → w'.cell? ⟨w.heap.size + 1, k, none⟩ = some (.int .u64 (x : Int)) := fun w' h => ((PQ.out w' h).cell k).trans HXA.out
     have cB : ∀ w', S w' → w'.cell? ⟨w.heap.size + 2, k, none⟩ = some (.int .u64 (y : Int)) := fun w' h => ((PT.out w' h).cell k).trans HXB.out
     have PB : Hid (∀ w', S w' → Below w.heap.size w w') := fun w' h => HB1.out.trans ((pM w' h).below n4 HB1.out.size)
     have s2 := s1.drew
     clear pM r1 q1 t1 p1 s1 HB1
     have hce := (s2.cell k).trans HCE0.out
     have hfe := s2.free k
     have HCF := zh (And.intro hce hfe)
     clear hce hfe
     go_wp2_with fail
     refine wp_region_ord S [(0, true), (1, true), (2, true), (3, true), (4, true), (5, true), (6, true), (7, true), (8, true), (9, false)] (by kernel_rfl) (by kernel_rfl) rfl (by kernel_rfl) HS.out ?_
     generalize wr.drew = VV at HS s2 HCF ⊢
     iterate 9
      (refine wpOrd_step (zO rfl) ?_)
      (first
       | (refine wpOrd_skip (by rfl) ?_)
       | (refine wpOrd_take (v := ?_) (by rfl) ?_ ?_; rotate_left 1; (intro wx hSx; have hc_0 := cA wx hSx; have hc_1 := cB wx hSx; go_simp; try with_reducible rfl)))
      (try simp only [Act.put, zA4, zA5, zA6])
     obtain ⟨hce, hfe⟩ := HCF.out
     (refine wpOrd_solo (zO rfl) ?_)
     intro K hK
     go_simp
     have HM5 := zh ((PM.out _ HS.out).trans (Mut.of_set VV gE k (.int .u64 ((zo : Nat) : Int))))
     have p5 := s2.put k (.int .u64 ((zo : Nat) : Int))
     rw [HNX2.out] at p5
     refine hK.out _ _ (SI.out _ HM5.out) ?_
     clear hK K
     (try simp only [Act.put, zA4, zA5, zA6])
     refine wpOrd_done ?_
     have HB5 := zh (PB.out _ (SI.out _ HM5.out))
     have r5 := PR.out _ (SI.out _ HM5.out)
     have q5 := PQ.out _ (SI.out _ HM5.out)
     have t5 := PT.out _ (SI.out _ HM5.out)
     have p6 := PP.out _ (SI.out _ HM5.out)
     clear PR PQ PT PP PM cS cA cB PB HS keepS SI HM5 hce hfe
     clear HCF s2
     go_wp2_with fail
     go_roundw
     case rel => exact ⟨k + 1, by omega, by go_num, r5, q5, t5, p6, p5, HB5⟩
     case measure => simp [intOf]; omega
   ·rw [joinS_out (by rw [HN.out]; exact hlt)] at hnx
    have HNX2 := zh hnx; clear hnx hx hy
    generalize x ||| y = zo at *
    obtain ⟨S, HS, pM, keepS, SI⟩ := ex_mut gE wr
    have PM := zh pM
    have PR : Hid (∀ w', S w' → RowAt w' w.heap.size 24 V) := fun w' h => r1.mut (pM w' h) n1
    have PQ : Hid (∀ w', S w' → RowAt w' (w.heap.size + 1) 40 U) := fun w' h => q1.mut (pM w' h) n2
    have PT : Hid (∀ w', S w' → RowAt w' (w.heap.size + 2) 40 V2) := fun w' h => t1.mut (pM w' h) n3
    have PP : Hid (∀ w', S w' → RowAt w' gR 40 (uv (List.replicate 8 0))) := fun w' h => p1.mut (pM w' h) n5
    have cS : ∀ w', S w' → w'.cell? ⟨w.heap.size, 1, none⟩ = some (.slice A n c) := fun w' h => (HS1.out _ (PR.out w' h)).2
    have cA : ∀ w', S w' → w'.cell? ⟨w.heap.size + 1, k, none⟩ = some (.int .u64 (x : Int)) := fun w' h => ((PQ.out w' h).cell k).trans HXA.out
    have cB : ∀ w', S w' → w'.cell? ⟨w.heap.size + 2, k, none⟩ = some (.int .u64 (y : Int)) := fun w' h => ((PT.out w' h).cell k).trans HXB.out
    have PB : Hid (∀ w', S w' → Below w.heap.size w w') := fun w' h => HB1.out.trans ((pM w' h).below n4 HB1.out.size)
    have s2 := s1.drew
    clear pM r1 q1 t1 p1 s1 HB1
    have hce := (s2.cell k).trans HCE0.out
    have hfe := s2.free k
    have HCF := zh (And.intro hce hfe)
    clear hce hfe
    go_wp2_with fail
    refine wp_region_ord S [(0, true), (1, true), (2, true), (3, true), (4, true), (5, true), (6, true), (7, true), (8, true), (9, false)] (by kernel_rfl) (by kernel_rfl) rfl (by kernel_rfl) HS.out ?_
    generalize wr.drew = VV at HS s2 HCF ⊢
    iterate 9
     (refine wpOrd_step (zO rfl) ?_)
     (first
      | (refine wpOrd_skip (by rfl) ?_)
      | (refine wpOrd_take (v := ?_) (by rfl) ?_ ?_; rotate_left 1; (intro wx hSx; have hc_0 := cA wx hSx; have hc_1 := cB wx hSx; go_simp; try with_reducible rfl)))
     (try simp only [Act.put, zA4, zA5, zA6])
    obtain ⟨hce, hfe⟩ := HCF.out
    (refine wpOrd_solo (zO rfl) ?_)
    intro K hK
    go_simp
    have HM5 := zh ((PM.out _ HS.out).trans (Mut.of_set VV gE k (.int .u64 ((zo : Nat) : Int))))
    have p5 := s2.put k (.int .u64 ((zo : Nat) : Int))
    rw [HNX2.out] at p5
    refine hK.out _ _ (SI.out _ HM5.out) ?_
    clear hK K
    (try simp only [Act.put, zA4, zA5, zA6])
    refine wpOrd_done ?_
    have HB5 := zh (PB.out _ (SI.out _ HM5.out))
    have r5 := PR.out _ (SI.out _ HM5.out)
    have q5 := PQ.out _ (SI.out _ HM5.out)
    have t5 := PT.out _ (SI.out _ HM5.out)
    have p6 := PP.out _ (SI.out _ HM5.out)
    clear PR PQ PT PP PM cS cA cB PB HS keepS SI HM5 hce hfe
    clear HCF s2
    go_wp2_with fail
    go_roundw
    case rel => exact ⟨k + 1, by omega, by go_num, r5, q5, t5, p6, p5, HB5⟩
    case measure => simp [intOf]; omega
  ·have e1 : k = 8 := by omega
   subst e1
   have hew := HEW.out 8
   go_wp2_with (first | (refine wpList_loadElem (by rfl) _ rfl gE rfl _ hew s1 ?_) | (refine wpList_storeElem (by rfl) _ _ rfl gR rfl _ hew rfl _ z8 p1 ?_; intro w7 q7 he))
   exact bodyPost_ret (ret_elem rfl _ _ gR _ hew rfl q7) rfl ⟨rfl, HB1.out.trans (he.below n6)⟩
end
section
open Go.RowKit RM
def leT (xs : List Nat) (s : Nat) : Nat → Nat
 | 0 => 18446744073709551615
 | k + 1 => if MM.subN s (xs.getD k 0) then leT xs s k &&& xs.getD k 0 else leT xs s k
theorem leT_lt (xs : List Nat) (s : Nat) : ∀ k, leT xs s k < 18446744073709551616
 | 0 => by unfold leT; omega
 | k + 1 => by
   unfold leT
   split
   ·exact and_lt _ (leT_lt xs s k)
   ·exact leT_lt xs s k
theorem ones_bit (v : Nat) : (18446744073709551615 : Nat).testBit v = decide (v < 64) := by
 have := Nat.testBit_two_pow_sub_one 64 v
 simpa using this
theorem leT_bit (xs : List Nat) (s v : Nat) : ∀ k, (leT xs s k).testBit v = true ↔ v < 64 ∧ ∀ j, j < k → MM.subN s (xs.getD j 0) = true → (xs.getD j 0).testBit v = true
 | 0 => by
   unfold leT
   rw [ones_bit, decide_eq_true_eq]
   exact ⟨fun h => ⟨h, fun j hj => by omega⟩, fun h => h.1⟩
 | k + 1 => by
   have ih := leT_bit xs s v k
   unfold leT
   split
   ·rename_i hs
    rw [Nat.testBit_and, Bool.and_eq_true, ih]
    constructor
    ·rintro ⟨⟨h1, h2⟩, h3⟩
     refine ⟨h1, fun j hj hsj => ?_⟩
     by_cases e : j = k
     ·subst e; exact h3
     ·exact h2 j (by omega) hsj
    ·rintro ⟨h1, h2⟩
     exact ⟨⟨h1, fun j hj hsj => h2 j (by omega) hsj⟩, h2 k (by omega) hs⟩
   ·rename_i hs
    rw [ih]
    constructor
    ·rintro ⟨h1, h2⟩
     refine ⟨h1, fun j hj hsj => ?_⟩
     by_cases e : j = k
     ·subst e; exact absurd hsj hs
     ·exact h2 j (by omega) hsj
    ·rintro ⟨h1, h2⟩
     exact ⟨h1, fun j hj hsj => h2 j (by omega) hsj⟩
def wds (n : Int) (l : List Nat) : List Nat := (List.range (pts n)).map fun i : Nat => wordN n l (i : Int)
theorem wds_len (n : Int) (l : List Nat) : (wds n l).length = pts n := by simp [wds]
theorem wds_at (n : Int) (l : List Nat) {i : Nat} (h : i < pts n) : (wds n l).getD i 0 = wordN n l (i : Int) := map_getD (fun i : Nat => wordN n l (i : Int)) _ _ h
theorem wds_lt (n : Int) (l : List Nat) (i : Nat) : (wds n l).getD i 0 < 18446744073709551616 := by
 by_cases h : i < pts n
 ·rw [wds_at n l h]; exact wordN_lt _ _ _
 ·rw [List.getD_eq_getElem?_getD, List.getElem?_eq_none (by rw [wds_len]; omega)]
  exact Nat.zero_lt_succ _
section
variable {n : Int} {l : List Nat}
theorem least_join (L : Lat (pts n) (hasR n l)) {a b : Nat} (ha : a < pts n) (hb : b < pts n) : leT (wds n l) (wordN n l a ||| wordN n l b) (pts n) = wordN n l ((joinR n l a b).getD 0 : Nat) := by
 obtain ⟨k1, k2, k3, k4⟩ := bJ_spec L ha hb
 have hp := pts_le n
 change _ = wordN n l (bJ (pts n) (hasR n l) a b : Nat)
 have hsub : ∀ j, j < pts n → (MM.subN (wordN n l a ||| wordN n l b) ((wds n l).getD j 0) = true ↔ hasR n l a j = true ∧ hasR n l b j = true) := fun j hj => by
  rw [wds_at n l hj, ← word_sub L ha hj, ← word_sub L hb hj]
  exact ⟨fun h => ⟨subN_trans (subN_orL _ _) h, subN_trans (subN_orR _ _) h⟩, fun h => subN_or h.1 h.2⟩
 refine MM.ext64 (leT_lt _ _ _) (wordN_lt _ _ _) fun v hv => ?_
 rw [Bool.eq_iff_iff, leT_bit, wordN_bit, Bool.and_eq_true, decide_eq_true_eq]
 constructor
 ·rintro ⟨_, h2⟩
  have := h2 _ k1 ((hsub _ k1).2 ⟨k2, k3⟩)
  rw [wds_at n l k1, wordN_bit, Bool.and_eq_true, decide_eq_true_eq] at this
  exact this
 ·rintro ⟨h1, h2⟩
  refine ⟨hv, fun j hj hs => ?_⟩
  obtain ⟨h3, h4⟩ := (hsub j hj).1 hs
  rw [wds_at n l hj, wordN_bit, L.trans _ _ _ h1 k1 hj h2 (k4 j hj h3 h4)]
  simp [h1]
end
def ptI (n : Int) (l : List Nat) : Nat → Nat → Int
 | 0, _ => -1
 | k + 1, w => if w = wordN n l (k : Int) then (k : Int) else ptI n l k w
theorem ptI_bd (n : Int) (l : List Nat) (w : Nat) : ∀ k, -1 ≤ ptI n l k w ∧ ptI n l k w < k
 | 0 => by unfold ptI; omega
 | k + 1 => by
   have := ptI_bd n l w k
   unfold ptI
   split <;> omega
theorem ptI_hit {n : Int} {l : List Nat} (L : Lat (pts n) (hasR n l)) {i : Nat} (hi : i < pts n) : ∀ k, k ≤ pts n → i < k → ptI n l k (wordN n l i) = (i : Int)
 | 0, _, h => by omega
 | k + 1, hk, h => by
   unfold ptI
   by_cases e : i = k
   ·subst e; rw [if_pos rfl]
   ·rw [if_neg (fun h2 => e (word_inj L hi (by omega) h2))]
    exact ptI_hit L hi k (by omega) (by omega)
theorem ptI_miss {n : Int} {l : List Nat} {w : Nat} : ∀ k, (∀ i : Nat, i < k → w ≠ wordN n l i) → ptI n l k w = -1
 | 0, _ => rfl
 | k + 1, h => by
   unfold ptI
   rw [if_neg (h k (by omega))]
   exact ptI_miss k fun i hi => h i (by omega)
def tblW (n : Int) (l : List Nat) (a b : Nat) : Nat :=
 if 0 ≤ ptI n l (pts n) a ∧ 0 ≤ ptI n l (pts n) b then leT (wds n l) ((wds n l).getD (ptI n l (pts n) a).toNat 0 ||| (wds n l).getD (ptI n l (pts n) b).toNat 0) (pts n) else a ||| b
theorem pt_none {n : Int} {l : List Nat} {w : Nat} (h : ptO n l w = none) : ∀ i : Nat, i < pts n → w ≠ wordN n l i := fun i hi e => by
 have := fnd_ex (P := ptT n l w) hi (by unfold ptT; rw [e]; exact beq_self_eq_true _)
 unfold ptO at h
 rw [h] at this
 cases this
theorem pt_some {n : Int} {l : List Nat} {w i : Nat} (h : ptO n l w = some i) : i < pts n ∧ w = wordN n l i := by
 obtain ⟨h1, h2⟩ := fnd_some h
 unfold ptT at h2
 exact ⟨h1, (beq_iff_eq.1 h2).symm⟩
theorem tbl_raise {n : Int} {l : List Nat} (h : latB n l = true) (a b : Nat) : tblW n l a b = raiseN n l a b := by
 have L := lat_of h
 unfold tblW
 cases ea : ptO n l a with
 | none =>
   rw [ptI_miss _ (pt_none ea), if_neg (by omega)]
   unfold raiseN raiseF
   rw [ea]; rfl
 | some i =>
   obtain ⟨hi, rfl⟩ := pt_some ea
   cases eb : ptO n l b with
   | none =>
     rw [ptI_miss _ (pt_none eb), if_neg (by omega)]
     unfold raiseN raiseF
     rw [ea, eb]; rfl
   | some j =>
     obtain ⟨hj, rfl⟩ := pt_some eb
     rw [ptI_hit L hi _ (zL _) hi, ptI_hit L hj _ (zL _) hj, if_pos ⟨by omega, by omega⟩, Int.toNat_natCast, Int.toNat_natCast, wds_at n l hi, wds_at n l hj, least_join L hi hj, word_raise L hi hj]
end
end Go.Proofs.YtdahllhbpdbknaaGreatDoor
