/- Texts that all the claims need. Conditions: those that each states. -/

import Derived.Test.YteachpfpcceamaaGreatDoorSl1
import Derived.Test.YteachpfpcceamaaGreatDoorSl10
import Derived.Test.YteachpfpcceamaaGreatDoorSl11
import Derived.Test.YteachpfpcceamaaGreatDoorSl12
set_option linter.unusedSimpArgs false
set_option linter.unusedVariables false
set_option maxRecDepth 100000
set_option maxHeartbeats 40000000
namespace Go.Proofs.YteachpfpcceamaaGreatDoor
section
open Go.RowKit RM
section
variable {a b c : Nat}
end
structure Fac where
 kind : Int
 A : Option Addr
 c : Nat
 names : List ByteArray
 n : Int
 l : List Nat
def namedB (xs : List ByteArray) : Bool := decide (1 ≤ xs.length) && decide (xs.length ≤ 64) && xs.all NM.right && decide (twc xs < 0)
def relB (kind n : Int) (l : List Nat) (len : Nat) : Bool :=
 if kind = 1 ∨ kind = 2 then decide (pts n = 0) else if kind = 3 then decide (n = (len : Int)) && rightB n l else if kind = 4 then decide (n = (len : Int)) && latB n l else false
def facB (f : Fac) : Bool := namedB f.names && relB f.kind f.n f.l f.names.length
theorem named_len {xs : List ByteArray} (h : namedB xs = true) : 1 ≤ xs.length ∧ xs.length ≤ 64 := by
 unfold namedB at h
 simp only [Bool.and_eq_true, decide_eq_true_eq] at h
 exact h.1.1
def EW (e : List Nat) : Prop := e.length = 8 ∧ ∀ x ∈ e, x < 18446744073709551616
theorem EW.lt {e : List Nat} (h : EW e) (i : Nat) : e.getD i 0 < 18446744073709551616 := by
 rw [List.getD_eq_getElem?_getD]
 cases hh : e[i]? with
 | none => simp
 | some x => exact h.2 x (List.mem_of_getElem? hh)
theorem EW.map {F : Nat → Nat} (h : ∀ i, F i < 18446744073709551616) : EW ((List.range 8).map F) := ⟨by simp, fun x hx => by
 obtain ⟨i, _, rfl⟩ := List.mem_map.1 hx
 exact h i⟩
def f0 : Fac := ⟨0, none, 0, [], 0, zs⟩
def rightS (t : Bool) (fs : List Fac) : Bool := decide (1 ≤ fs.length) && decide (fs.length ≤ 8) && (t || decide (fs.length = 1)) && fs.all facB
section
variable {t : Bool} {fs : List Fac} {a b c : List Nat}
end
section
variable {t : Bool} {fs : List Fac} {a b : List Nat}
end
end
section
open Go.RowKit RM
def rvl (n : Int) (l : List Nat) : List Value := Value.int .i64 n :: l.map fun x : Nat => Value.int .u64 (x : Int)
theorem rvl_length (n : Int) {l : List Nat} (h : RW l) : (rvl n l).length = 65 := by simp [rvl, h.1]
def fcells (f : Fac) : List Value := .int .i64 f.kind :: .slice f.A f.names.length f.c :: rvl f.n f.l
def fv (f : Fac) : Array Value := (fcells f).toArray
theorem fcells_length (f : Fac) (h : RW f.l) : (fcells f).length = 67 := by simp [fcells, rvl_length f.n h]
theorem fv_size (f : Fac) (h : RW f.l) : (fv f).size = 67 := by simp [fv, fcells_length f h]
theorem fv_0 (f : Fac) : (fv f)[0]? = some (.int .i64 f.kind) := rfl
theorem fv_1 (f : Fac) : (fv f)[1]? = some (.slice f.A f.names.length f.c) := rfl
theorem fv_2 (f : Fac) : (fv f)[2]? = some (.int .i64 f.n) := rfl
theorem fv_one (f : Fac) : (fv f).all (·.oneCell') = true := by
 rw [Array.all_eq_true_iff_forall_mem]
 intro v hv
 simp only [fv, fcells, rvl, List.mem_toArray, List.mem_cons, List.mem_map] at hv
 rcases hv with rfl | rfl | rfl | ⟨x, _, rfl⟩ <;> rfl
theorem finfo (f : Fac) (h : RW f.l) : (Tryz.prog.info? 100).map (·.size) = some (fv f).size := by rw [fv_size f h]; kernel_rfl
theorem zero_fac_size : (Tryz.zeroCells100).size = 67 := by kernel_rfl
def sv (t : Bool) (A : Option Addr) (n c : Nat) : Array Value := #[.bool t, .slice A n c]
def fscells (fs : List Fac) : List Value := fs.flatMap fcells
theorem fscells_cons (f : Fac) (fs : List Fac) : fscells (f :: fs) = fcells f ++ fscells fs := by simp [fscells]
theorem fscells_append (fs gs : List Fac) : fscells (fs ++ gs) = fscells fs ++ fscells gs := by simp [fscells]
theorem fscells_length : ∀ (fs : List Fac), (∀ f ∈ fs, RW f.l) → (fscells fs).length = fs.length * 67
 | [], _ => rfl
 | f :: fs, h => by
   rw [fscells_cons, zA7, fcells_length f (h f (by simp)), fscells_length fs fun g hg => h g (by simp [hg]), zA8]
   omega
theorem fscells_at : ∀ (fs : List Fac), (∀ f ∈ fs, RW f.l) → ∀ (i j : Nat), i < fs.length → j < 67 → (fscells fs)[i * 67 + j]? = (fcells (fs.getD i f0))[j]?
 | [], _, i, j, hi, _ => by simp at hi
 | f :: fs, h, 0, j, _, hj => by
   rw [fscells_cons, List.getElem?_append_left (by rw [fcells_length f (h f (by simp))]; omega)]
   simp
 | f :: fs, h, i + 1, j, hi, hj => by
   have h1 := fcells_length f (h f (by simp))
   rw [fscells_cons, List.getElem?_append_right (by rw [h1]; omega), h1, show (i + 1) * 67 + j - 67 = i * 67 + j by omega]
   exact fscells_at fs (fun g hg => h g (by simp [hg])) i j (by simpa using hi) hj
theorem fscells_one (fs : List Fac) : ∀ u ∈ fscells fs, u.oneCell' = true := fun u hu => by
 unfold fscells at hu
 obtain ⟨f, _, hf⟩ := List.mem_flatMap.1 hu
 have := fv_one f
 rw [Array.all_eq_true_iff_forall_mem] at this
 exact this u (by simpa [fv] using hf)
structure FacOk (w : World) (f : Fac) : Prop where
 strs : Strs w f.A f.names
 rows : RW f.l
 nil : f.A = none → f.c = 0
 cap : f.names.length ≤ f.c
 max : f.c ≤ maxLen
theorem FacOk.below {w w' : World} {f : Fac} (h : FacOk w f) (hb : Below w.heap.size w w') : FacOk w' f := ⟨h.strs.below hb, h.rows, h.nil, h.cap, h.max⟩
structure Facs (w : World) (A : Option Addr) (fs : List Fac) : Prop where
 sl : Sl w w.heap.size A (fscells fs)
 ok : ∀ f ∈ fs, FacOk w f
section
variable {w w' : World} {A : Option Addr} {fs : List Fac}
theorem Facs.below (h : Facs w A fs) (hb : Below w.heap.size w w') : Facs w' A fs := ⟨(Sl.below h.sl hb).mono hb.size, fun f hf => (h.ok f hf).below hb⟩
theorem Facs.nil (w : World) (A : Option Addr) : Facs w A [] := ⟨Sl.nil _ _ _, fun f hf => by cases hf⟩
theorem getD_memF {fs : List Fac} {i : Nat} (hi : i < fs.length) : fs.getD i f0 ∈ fs := by
 rw [List.getD_eq_getElem?_getD, List.getElem?_eq_getElem hi]
 exact List.getElem_mem hi
theorem Facs.okAt (h : Facs w A fs) {i : Nat} (hi : i < fs.length) : FacOk w (fs.getD i f0) := h.ok _ (getD_memF hi)
theorem Facs.rw (h : Facs w A fs) : ∀ f ∈ fs, RW f.l := fun f hf => (h.ok f hf).rows
theorem Facs.at (h : Facs w A fs) {k : Nat} (hk : k < fs.length) : ∃ b o, A = some ⟨b, o, none⟩ ∧ b < w.heap.size ∧ ∀ i, i < fs.length → w.rangeAt b (o + i * 67) (fcells (fs.getD i f0)) := by
 obtain ⟨b, o, hA, hb, hc⟩ := Sl.at_ h.sl (fun e => by
  have := congrArg List.length e
  rw [fscells_length fs h.rw] at this
  simp only [zA9] at this
  omega)
 refine ⟨b, o, hA, hb, fun i hi j u hu => ?_⟩
 have hj : j < 67 := by
  have := (List.getElem?_eq_some_iff.1 hu).1
  rw [fcells_length _ (h.okAt hi).rows] at this
  exact this
 rw [Nat.add_assoc]
 exact hc _ _ ((fscells_at fs h.rw i j hi hj).trans hu)
end
theorem EW.set {e : List Nat} (h : EW e) (i x : Nat) (hx : x < 18446744073709551616) : EW (e.set i x) := ⟨by simp [h.1], fun y hy => by
 rcases List.mem_or_eq_of_mem_set hy with h2 | rfl
 ·exact h.2 y h2
 ·exact hx⟩
section
variable {ops : Array Oper} {rest : List Oper} {o : Oper} {a : Act} {w : World} {Q : Exit → Act → World → Prop}
theorem wpList_loadFac (hgd : Region.wanted o (yielded ops a.tmps) = true) (x : Operand) (ho : o.op = .load 100 x) (g : Nat) (hx : a.eval x = .pointer (some ⟨g, 0, none⟩))
 (f : Fac) (hl : RW f.l) (hg : RowAt w g 100 (fv f)) (h : wpList Tryz.prog ops Q rest (a.put o.dst (.agg (fv f))) w) : wpList Tryz.prog ops Q (o :: rest) a w :=
 wpList_wanted hgd fun _ hK => wp_load_row _ x ho g hx _ _ (0, 0) _ hg Tryz.underlying100 rfl (finfo f hl) (hK _ _ h)
theorem wpList_loadFacIn (hgd : Region.wanted o (yielded ops a.tmps) = true) (x : Operand) (ho : o.op = .load 100 x) (b k : Nat) (hx : a.eval x = .pointer (some ⟨b, k, none⟩))
 (f : Fac) (hl : RW f.l) (hg : w.rangeAt b k (fcells f)) (h : wpList Tryz.prog ops Q rest (a.put o.dst (.agg (fv f))) w) : wpList Tryz.prog ops Q (o :: rest) a w :=
 wpList_wanted hgd fun _ hK => wp_load_mid _ x ho b k hx (fcells f) _ hg Tryz.underlying100 rfl (by rw [fcells_length f hl]; kernel_rfl) (hK _ _ h)
theorem wpList_loadRelIn (hgd : Region.wanted o (yielded ops a.tmps) = true) (x : Operand) (ho : o.op = .load 92 x) (b k : Nat) (hx : a.eval x = .pointer (some ⟨b, k, none⟩))
 (n : Int) (l : List Nat) (hl : RW l) (hg : w.rangeAt b k (rvl n l)) (h : wpList Tryz.prog ops Q rest (a.put o.dst (.agg (rv n l))) w) : wpList Tryz.prog ops Q (o :: rest) a w :=
 wpList_wanted hgd fun _ hK => wp_load_mid _ x ho b k hx (rvl n l) _ hg Tryz.underlying92 rfl (by rw [rvl_length n hl]; kernel_rfl) (hK _ _ h)
theorem wpList_storeFac (hgd : Region.wanted o (yielded ops a.tmps) = true) (x y : Operand) (ho : o.op = .store 100 x y) (g : Nat) (hx : a.eval x = .pointer (some ⟨g, 0, none⟩))
 (f : Fac) (hl : RW f.l) (hy : a.eval y = .agg (fv f)) (cs : Array Value) (hcs : cs.size = 67) (hg : RowAt w g 100 cs)
 (h : ∀ w', RowAt w' g 100 (fv f) → Else g w w' → wpList Tryz.prog ops Q rest (a.put o.dst undef) w') : wpList Tryz.prog ops Q (o :: rest) a w :=
 wpList_wanted hgd fun _ hK => wp_store_row _ x y ho g _ hx hy _ _ hg (finfo f hl) (by rw [fv_size f hl, hcs]) (fv_one f) (hK _ _ (h _ (hg.setRow (fv f)) (Else.setRow w g _)))
theorem wpList_loadShape (hgd : Region.wanted o (yielded ops a.tmps) = true) (x : Operand) (ho : o.op = .load 49 x) (g : Nat) (hx : a.eval x = .pointer (some ⟨g, 0, none⟩))
 (t : Bool) (A : Option Addr) (n c : Nat) (hg : RowAt w g 49 (sv t A n c)) (h : wpList Tryz.prog ops Q rest (a.put o.dst (.agg (sv t A n c))) w) : wpList Tryz.prog ops Q (o :: rest) a w :=
 wpList_wanted hgd fun _ hK => wp_load_row _ x ho g hx _ _ (0, 0) _ hg Tryz.underlying49 rfl (by kernel_rfl) (hK _ _ h)
theorem wpList_storeShape (hgd : Region.wanted o (yielded ops a.tmps) = true) (x y : Operand) (ho : o.op = .store 49 x y) (g : Nat) (hx : a.eval x = .pointer (some ⟨g, 0, none⟩))
 (t : Bool) (A : Option Addr) (n c : Nat) (hy : a.eval y = .agg (sv t A n c)) (cs : Array Value) (hcs : cs.size = 2) (hg : RowAt w g 49 cs)
 (h : ∀ w', RowAt w' g 49 (sv t A n c) → Else g w w' → wpList Tryz.prog ops Q rest (a.put o.dst undef) w') : wpList Tryz.prog ops Q (o :: rest) a w :=
 wpList_wanted hgd fun _ hK => wp_store_row _ x y ho g _ hx hy _ _ hg (by kernel_rfl) (by rw [hcs]; rfl) (by simp [sv, Value.oneCell']) (hK _ _ (h _ (hg.setRow (sv t A n c)) (Else.setRow w g _)))
end
section
variable {o : Oper} {a : Act} {S : World → Prop}
end
theorem ret_shape {fn : Func} {p : Tmp} (hf : fn.results = #[.cell p 49]) (tmps : Array Value) (w : World) (g : Nat) (t : Bool) (A : Option Addr) (n c : Nat)
 (hp : tmps.getD p undef = .pointer (some ⟨g, 0, none⟩)) (hg : RowAt w g 49 (sv t A n c)) : (results fn tmps).run Tryz.prog w = .ok (.agg (sv t A n c)) w :=
 results_cell_row hf tmps w g _ _ (0, 0) _ hp hg Tryz.underlying49 rfl (by kernel_rfl)
end
section
open Go.RowKit RM
theorem fac_cells {w : World} {g : Nat} {f : Fac} (h : RowAt w g 100 (fv f)) :
 w.cell? ⟨g, 0, none⟩ = some (.int .i64 f.kind) ∧ w.cell? ⟨g, 1, none⟩ = some (.slice f.A f.names.length f.c) ∧ w.cell? ⟨g, 2, none⟩ = some (.int .i64 f.n) ∧ w.rangeAt g 2 (rvl f.n f.l) :=
 ⟨(h.cell 0).trans (fv_0 f), (h.cell 1).trans (fv_1 f), (h.cell 2).trans (fv_2 f), h.range 2 (rvl f.n f.l) fun j u hu => by
   unfold fv fcells
   rw [Nat.add_comm 2 j]
   simpa using hu⟩
theorem named_low {xs : List ByteArray} (h : xs.length < 1) : namedB xs = false := by unfold namedB; rw [show decide (1 ≤ xs.length) = false from zF (by omega)]; rfl
theorem named_high {xs : List ByteArray} (h : 64 < xs.length) : namedB xs = false := by unfold namedB; rw [show decide (xs.length ≤ 64) = false from zF (by omega)]; simp
theorem named_bad {xs : List ByteArray} {k : Nat} (hk : k < xs.length) (h : NM.right (xs.getD k ⟨#[]⟩) = false) : namedB xs = false := by
 unfold namedB
 rw [show xs.all NM.right = false by
  rw [List.all_eq_false]
  refine ⟨xs[k], List.getElem_mem hk, ?_⟩
  rw [List.getD_eq_getElem?_getD, List.getElem?_eq_getElem hk] at h
  simpa using h]
 simp
theorem named_end {xs : List ByteArray} (h1 : 1 ≤ xs.length) (h2 : xs.length ≤ 64) (h : ∀ k, k < xs.length → NM.right (xs.getD k ⟨#[]⟩) = true) : namedB xs = decide (twc xs < 0) := by
 unfold namedB
 rw [show xs.all NM.right = true by
  rw [List.all_eq_true]
  intro x hx
  obtain ⟨k, hk, rfl⟩ := List.mem_iff_getElem.1 hx
  have := h k hk
  rw [List.getD_eq_getElem?_getD, List.getElem?_eq_getElem hk] at this
  simpa using this, zE h1, zE h2]
 simp
theorem right_size {x : ByteArray} (h : NM.right x = true) : x.size ≤ 4294967296 := by
 unfold NM.right at h
 simp only [Bool.and_eq_true, decide_eq_true_eq] at h
 omega
theorem rights_size {xs : List ByteArray} (h : ∀ k, k < xs.length → NM.right (xs.getD k ⟨#[]⟩) = true) : ∀ x ∈ xs, x.size ≤ 4294967296 := fun x hx => by
 obtain ⟨k, hk, rfl⟩ := List.mem_iff_getElem.1 hx
 have := h k hk
 rw [List.getD_eq_getElem?_getD, List.getElem?_eq_getElem hk] at this
 exact right_size (by simpa using this)
theorem named_any (A : Option Addr) (c : Nat) (xs : List ByteArray) (w : World) (hA : Strs w A xs) :
 Calls Tryz.prog 105 #[.slice A xs.length c] w fun e w' => e = .returned (.bool (namedB xs)) ∧ Below w.heap.size w w' := by
 have HB0 : Hid (Below w.heap.size w w) := zB _ _
 by_cases h1 : xs.length < 1
 ·rw [named_low h1]
  clear hA
  generalize xs.length = n at *
  go_enter Tryz.func105, Tryz.ntmps105
  go_wp2_with fail
  go_ret
  exact ⟨rfl, HB0.out⟩
 ·by_cases h2 : 64 < xs.length
  ·rw [named_high h2]
   have h3 : 1 ≤ xs.length := by omega
   clear hA h1
   generalize xs.length = n at *
   go_enter Tryz.func105, Tryz.ntmps105
   go_wp2_with fail
   go_ret
   exact ⟨rfl, HB0.out⟩
  ·have h3 : 1 ≤ xs.length := by omega
   have h4 : xs.length ≤ 64 := by omega
   have HA := zh hA; clear hA h1 h2
   have HBAD : Hid (∀ k, k < xs.length → NM.right (xs.getD k ⟨#[]⟩) = false → namedB xs = false) := fun k => named_bad
   have HEND : Hid ((∀ k, k < xs.length → NM.right (xs.getD k ⟨#[]⟩) = true) → namedB xs = decide (twc xs < 0)) := named_end h3 h4
   have HTW : Hid ((∀ k, k < xs.length → NM.right (xs.getD k ⟨#[]⟩) = true) → ∀ W, Strs W A xs → Calls Tryz.prog 31 #[.slice A xs.length c] W fun e w' => e = .returned (.int .i64 (twc xs)) ∧ Below W.heap.size W w') := fun h W hW => twice_any A c xs W (by omega) (rights_size h) hW
   generalize namedB xs = res at *
   generalize twc xs = tw at *
   generalize hn : xs.length = n at *
   have HN := zh hn; clear hn
   go_enter Tryz.func105, Tryz.ntmps105
   go_wp2_with fail
   go_loopw [4, 15] (fun _ kv wr => ∃ k : Nat, k ≤ n ∧ kv = .int .i64 k ∧ Hid (∀ j, j < k → NM.right (xs.getD j ⟨#[]⟩) = true) ∧ Hid (Below w.heap.size w wr)) (fun _ kv _ => n - (intOf kv).toNat)
   case atStart => exact ⟨0, by omega, rfl, fun j hj => by omega, HB0⟩
   case round =>
        obtain ⟨k, hk, rfl, HK, HB1⟩ := hrel
        clear HB0
        by_cases hlt : k < n
        ·obtain ⟨b, o, rfl, hc⟩ := (HA.out.below HB1.out).at (k := k) (by rw [HN.out]; exact hlt)
         have hck := hc k (by rw [HN.out]; exact hlt)
         clear hc
         have HKN : Hid (NM.right (xs.getD k ⟨#[]⟩) = true → ∀ j, j < k + 1 → NM.right (xs.getD j ⟨#[]⟩) = true) := fun h j hj => by
          by_cases e : j = k
          ·subst e; exact h
          ·exact HK.out j (by omega)
         have HR := zh (HBAD.out k hlt)
         generalize xs.getD k ⟨#[]⟩ = x at *
         go_wp2_with fail
         refine (right_any x _).mono ?_
         rintro e w2 ⟨rfl, hb⟩
         have HB2 := zh (HB1.out.trans (hb.mono HB1.out.size))
         clear hb  HB1
         cases hr : NM.right x with
         | false =>
           have HR2 := zh (HR.out hr)
           clear hr HR HKN
           go_wp2_with fail
           go_ret
           exact ⟨ret_eq (bool_eq HR2.out.symm), HB2.out⟩
         | true =>
           have HKN2 := zh (HKN.out hr)
           clear hr HR HKN
           go_wp2_with fail
           go_roundw
           case rel => exact ⟨k + 1, by omega, by go_num, HKN2, HB2⟩
           case measure => simp [intOf]; omega
        ·have e : k = n := by omega
         subst e
         have HT2 := zh (HTW.out HK.out _ (HA.out.below HB1.out))
         have HE2 := zh (HEND.out HK.out)
         go_wp2_with fail
         refine (HT2.out).mono ?_
         rintro e w2 ⟨rfl, hb⟩
         have HB2 := zh (HB1.out.trans (hb.mono HB1.out.size))
         clear hb  HB1
         go_wp2_with fail
         go_ret
         exact ⟨ret_eq (bool_eq HE2.out.symm), HB2.out⟩
theorem relB_12 {kd n : Int} {l : List Nat} {m : Nat} (h : kd = 1 ∨ kd = 2) : relB kd n l m = decide (pts n = 0) := by unfold relB; rw [if_pos h]
theorem relB_3 {n : Int} {l : List Nat} {m : Nat} : relB 3 n l m = (decide (pts n = m) && rightB n l) := by
 unfold relB
 rw [if_neg (by omega), if_pos rfl]
 cases h : rightB n l with
 | false => simp
 | true =>
   obtain ⟨p, h1, h2, hn, hp, _⟩ := right_has h
   rw [hp, hn, Bool.and_true, Bool.and_true, decide_eq_decide]
   omega
theorem relB_4 {n : Int} {l : List Nat} {m : Nat} : relB 4 n l m = (decide (pts n = m) && latB n l) := by
 unfold relB
 rw [if_neg (by omega), if_neg (by omega), if_pos rfl]
 cases h : latB n l with
 | false => simp
 | true =>
   obtain ⟨h1, h2⟩ := lat_n h
   have := pts_in (show 0 ≤ n by omega) h2
   rw [Bool.and_true, Bool.and_true, decide_eq_decide]
   omega
theorem relB_no {kd n : Int} {l : List Nat} {m : Nat} (h1 : ¬ kd = 1) (h2 : ¬ kd = 2) (h3 : ¬ kd = 3) (h4 : ¬ kd = 4) : relB kd n l m = false := by
 unfold relB
 rw [if_neg (by omega), if_neg h3, if_neg h4]
theorem pts_zero_eq (p : Nat) : ((p : Int) == 0) = decide (p = 0) := by rw [Bool.eq_iff_iff]; simp
end
section
open Go.RowKit RM
theorem rightS_low {t : Bool} {fs : List Fac} (h : fs.length < 1) : rightS t fs = false := by unfold rightS; rw [show decide (1 ≤ fs.length) = false from zF (by omega)]; rfl
theorem rightS_high {t : Bool} {fs : List Fac} (h : 8 < fs.length) : rightS t fs = false := by unfold rightS; rw [show decide (fs.length ≤ 8) = false from zF (by omega)]; simp
theorem rightS_one {fs : List Fac} (h : ¬ fs.length = 1) : rightS false fs = false := by unfold rightS; rw [zF h]; simp
theorem rightS_bad {t : Bool} {fs : List Fac} {k : Nat} (hk : k < fs.length) (h : facB (fs.getD k f0) = false) : rightS t fs = false := by
 unfold rightS
 rw [show fs.all facB = false by
  rw [List.all_eq_false]
  exact ⟨_, getD_memF hk, by rw [h]; simp⟩]
 simp
theorem rightS_end {t : Bool} {fs : List Fac} (h1 : 1 ≤ fs.length) (h2 : fs.length ≤ 8) (h3 : t = true ∨ fs.length = 1) (h : ∀ k, k < fs.length → facB (fs.getD k f0) = true) : rightS t fs = true := by
 unfold rightS
 rw [show fs.all facB = true by
  rw [List.all_eq_true]
  intro x hx
  obtain ⟨k, hk, rfl⟩ := List.mem_iff_getElem.1 hx
  have := h k hk
  rw [List.getD_eq_getElem?_getD, List.getElem?_eq_getElem hk] at this
  simpa using this, zE h1, zE h2]
 rcases h3 with rfl | h3
 ·rfl
 ·rw [zE h3]; simp
theorem shape_cells {w : World} {g : Nat} {t : Bool} {A : Option Addr} {n c : Nat} (h : RowAt w g 49 (sv t A n c)) :
 w.cell? ⟨g, 0, none⟩ = some (.bool t) ∧ w.cell? ⟨g, 1, none⟩ = some (.slice A n c) := ⟨h.cell 0, h.cell 1⟩
theorem below_made {B : Nat} {w wr w2 : World} {cs : Array Value} {t : TypeId} (hb : Below B w wr) (hB : B ≤ wr.heap.size) (he : Else wr.heap.size (wr.alloc (.cells cs t)) w2) : Below B w w2 :=
 (hb.alloc hB _).trans (he.below hB)
end
section
open Go.RowKit RM
end
section
open Go.RowKit RM
end
section
open Go.RowKit RM
end
section
open Go.RowKit RM
theorem Facs.rng {w : World} {b o : Nat} {fs : List Fac} (h : Facs w (some ⟨b, o, none⟩) fs) {i : Nat} (hi : i < fs.length) : w.rangeAt b (o + i * 67) (fcells (fs.getD i f0)) := by
 obtain ⟨b2, o2, e, _, hr⟩ := h.at hi
 injection e with e
 injection e with e1 e2
 subst e1 e2
 exact hr i hi
end
end Go.Proofs.YteachpfpcceamaaGreatDoor
