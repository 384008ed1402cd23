/- Texts that all the claims need. Conditions: those that each states. -/

import Derived.Test.YtppcjocmjpbmmaaGreatDoorCk6
import Derived.Test.YtppcjocmjpbmmaaGreatDoorCk7
import Derived.Test.YtppcjocmjpbmmaaGreatDoorCk16
set_option linter.unusedSimpArgs false
set_option linter.unusedVariables false
set_option maxRecDepth 100000
set_option maxHeartbeats 40000000
namespace Go.Proofs.YtppcjocmjpbmmaaGreatDoor
section
open Go.RowKit RM
theorem ne_node : (56 : Nat) ≠ 5 := by show (56 : Nat) ≠ 5; decide
theorem write_leaf (k : Int) (hk : k = 1 ∨ k = 2) (s : ByteArray) (hs : s.size ≤ 1000) (B b : Nat) (bs : List Value) (w : World) (h : Lib.IsBuilder 107 5 B b bs w) (hl : bs.length ≤ 1000) (hB : B ≤ w.heap.size) :
 Calls Tryz.prog 60 #[.pointer (some ⟨b, 0, none⟩), .agg (ntC (leafN k s)).toArray] w fun e w' => e = .returned (.tuple #[]) ∧ Lib.IsBuilder 107 5 B b (bs ++ Lib.strCells s) w' ∧ Below B w w' := by
 have r0 := RowAt.new w 56 (ntC (leafN k s)).toArray
 have hb : Below w.heap.size w (w.alloc (.cells (ntC (leafN k s)).toArray 56)) := (zB _ _).alloc (zL _) _
 refine cHid fun Q' hQ => ?_
 have HQ := zh hQ; clear hQ
 go_enter Tryz.func60, Tryz.ntmps60
 go_upto_region 1 with fail
 change Code.wp _ _ _ _ (w.alloc (.cells (ntC (leafN k s)).toArray 56))
 generalize w.alloc (.cells (ntC (leafN k s)).toArray 56) = w1 at *
 have HB := zh hb
 have HBB := zh hB
 have HC := zh (writeString_any B b bs s w1 (bld_below h hb) (by omega) (zM hB hb.size))
 obtain ⟨c0, _, c2, _, _⟩ := nt_row r0
 unfold leafN at c0 c2
 dsimp only at c0 c2
 clear hb h r0 hB
 rcases hk with rfl | rfl
 all_goals
  go_wp2_with fail
  refine HC.out.mono ?_
  rintro e w2 ⟨rfl, k1, k2, _⟩
  have HK1 := zh k1
  have HK2 := zh k2
  clear k1 k2
  go_wp2_with fail
  go_end0
  exact HQ.out _ _ ⟨rfl, .inr HK1.out, (HB.out.mono HBB.out).trans HK2.out⟩
theorem writeFirst_one (g c : Nat) (s : ByteArray) (hs : s.size ≤ 1000) (B b : Nat) (bs : List Value) (w : World) (h : Lib.IsBuilder 107 5 B b bs w) (hl : bs.length ≤ 1000) (hB : B ≤ w.heap.size) (hy : w.rangeAt g 0 (ntC (leafN 2 s))) :
 Calls Tryz.prog 85 #[.pointer (some ⟨b, 0, none⟩), .slice (some ⟨g, 0, none⟩) 1 c] w fun e w' => e = .returned (.tuple #[]) ∧ Lib.IsBuilder 107 5 B b (bs ++ Lib.strCells s) w' ∧ Below B w w' := by
 have HC := zh (write_leaf 2 (.inr rfl) s hs B b bs w h hl hB)
 have HY := zh hy
 clear h hy
 go_enter Tryz.func85, Tryz.ntmps85
 go_wp2_with (first
  | (refine wpList_ldIn (by rfl) _ _ rfl g 0 rfl _ _ HY.out Tryz.underlying56 rfl (by kernel_rfl) ?_)
  | (go_at_call 60; refine HC.out.mono ?_; rintro e w2 ⟨rfl, k1, k2⟩; have HK1 := zh k1; have HK2 := zh k2; clear k1 k2))
 go_end0
 exact ⟨rfl, HK1.out, HK2.out⟩
theorem write_const (g : Nat) (s : ByteArray) (hs : s.size ≤ 1000) (B b : Nat) (bs : List Value) (w : World) (h : Lib.IsBuilder 107 5 B b bs w) (hl : bs.length ≤ 100) (hB : B ≤ w.heap.size) (hgB : g < B) (hy : w.rangeAt g 0 (ntC (leafN 2 s))) :
 Calls Tryz.prog 60 #[.pointer (some ⟨b, 0, none⟩), .agg (ntC (kidsN 7 (some ⟨g, 0, none⟩) 1)).toArray] w fun e w' => e = .returned (.tuple #[]) ∧ Lib.IsBuilder 107 5 B b (bs ++ [.int .u8 35] ++ Lib.strCells s) w' ∧ Below B w w' := by
 have r0 := RowAt.new w 56 (ntC (kidsN 7 (some ⟨g, 0, none⟩) 1)).toArray
 have hb : Below w.heap.size w (w.alloc (.cells (ntC (kidsN 7 (some ⟨g, 0, none⟩) 1)).toArray 56)) := (zB _ _).alloc (zL _) _
 refine cHid fun Q' hQ => ?_
 have HQ := zh hQ; clear hQ
 have hbl := bld_lt h
 go_enter Tryz.func60, Tryz.ntmps60
 go_upto_region 1 with fail
 change Code.wp _ _ _ _ (w.alloc (.cells (ntC (kidsN 7 (some ⟨g, 0, none⟩) 1)).toArray 56))
 generalize w.alloc (.cells (ntC (kidsN 7 (some ⟨g, 0, none⟩) 1)).toArray 56) = w1 at *
 have HB := zh hb
 have HBB := zh hB
 have HC := zh (writeByte_any B b bs 35 w1 (bld_below h hb) (by omega) (zM hB hb.size))
 have HYf : Hid (∀ W, Below B w1 W → W.rangeAt g 0 (ntC (leafN 2 s))) := zh fun W hW j u hu => (hW.cell (p := ⟨g, 0 + j, none⟩) hgB).trans ((hb.cell (p := ⟨g, 0 + j, none⟩) (zT hgB hB)).trans (hy j u hu))
 have HR := zh r0
 have hne : w.heap.size ≠ b := by omega
 have hB1 : B ≤ w1.heap.size := zM hB hb.size
 obtain ⟨c0, _, _, _, _⟩ := nt_row r0
 unfold kidsN at c0
 dsimp only at c0
 clear hb h r0 hB hy
 go_wp2_with fail
 refine HC.out.mono ?_
 rintro e w2 ⟨rfl, k1, k2, k3⟩
 obtain ⟨_, _, _, _, c4⟩ := nt_row (others_row k3 HR.out hne ne_node)
 unfold kidsN at c4
 dsimp only at c4
 have HW := zh (writeFirst_one g 1 s hs B b (bs ++ [.int .u8 35]) w2 (.inr k1) (by simp; omega) (zM hB1 k2.size) (HYf.out w2 k2))
 have HK2 := zh k2
 clear k1 k2 k3
 go_wp2_with (go_at_call 85; refine HW.out.mono ?_; rintro e w3 ⟨rfl, k4, k5⟩; have HK4 := zh k4; have HK5 := zh k5; clear k4 k5)
 go_end0
 exact HQ.out _ _ ⟨rfl, HK4.out, ((HB.out.mono HBB.out).trans HK2.out).trans HK5.out⟩
theorem lst_cells (s : ByteArray) : Lib.strCells s = Lib.byteCells s.data.toList := rfl
theorem text_of (x : Nt) (l : List UInt8) (w : World)
 (H : ∀ W b, Below w.heap.size w W → b = w.heap.size + 1 → w.heap.size + 1 ≤ W.heap.size → Lib.IsBuilder 107 5 (w.heap.size + 1) b [] W → Calls Tryz.prog 60 #[.pointer (some ⟨b, 0, none⟩), .agg (ntC x).toArray] W fun e w' => e = .returned (.tuple #[]) ∧ Lib.IsBuilder 107 5 (w.heap.size + 1) b (Lib.byteCells l) w' ∧ Below (w.heap.size + 1) W w') :
 Calls Tryz.prog 36 #[.agg (ntC x).toArray] w fun e w' => e = .returned (.string ⟨l.toArray⟩) ∧ Below w.heap.size w w' := by
 have hb : Below w.heap.size w ((w.alloc (.cells (ntC x).toArray 56)).alloc (.cells #[.pointer none, .slice none 0 0] 107)) := ((zB _ _).alloc (zL _) _).alloc (by simp) _
 have hbl : Lib.IsBuilder 107 5 (w.heap.size + 1) (w.heap.size + 1) [] ((w.alloc (.cells (ntC x).toArray 56)).alloc (.cells #[.pointer none, .slice none 0 0] 107)) := by
  have h1 := Lib.fresh_isBuilder 107 5 (w.alloc (.cells (ntC x).toArray 56))
  rw [show (w.alloc (.cells (ntC x).toArray 56)).heap.size = w.heap.size + 1 by simp] at h1
  exact h1
 have r0 : RowAt ((w.alloc (.cells (ntC x).toArray 56)).alloc (.cells #[.pointer none, .slice none 0 0] 107)) w.heap.size 56 (ntC x).toArray := (RowAt.new w _ _).alloc _
 refine cHid fun Q' hQ => ?_
 have HQ := zh hQ; clear hQ
 go_enter Tryz.func36, Tryz.ntmps36
 go_upto_region 2 with fail
 change Code.wp _ _ _ _ ((w.alloc (.cells (ntC x).toArray 56)).alloc (.cells #[.pointer none, .slice none 0 0] 107))
 generalize (w.alloc (.cells (ntC x).toArray 56)).alloc (.cells #[.pointer none, .slice none 0 0] 107) = w1 at *
 have HR := zh r0
 have HB := zh hb
 have HC := zh (H w1 (w.heap.size + 1) hb rfl (Nat.le_of_lt (bld_lt hbl)) hbl)
 clear H hb hbl r0
 go_wp2_with (first
  | (refine wpList_loadS (by rfl) _ _ rfl w.heap.size rfl _ _ _ HR.out Tryz.underlying56 rfl (by kernel_rfl) ?_)
  | (go_at_call 60; refine HC.out.mono ?_; rintro e w2 ⟨rfl, k1, k2⟩; have HK1 := zh k1; have HK2 := zh k2; clear k1 k2))
 refine (Tryz.Builder_String_any _ _ _ _ HK1.out (Nat.le_of_lt (bld_lt HK1.out))).mono ?_
 rintro e w3 ⟨rfl, hb⟩
 have HK3 := zh hb; clear hb
 go_wp2_with fail
 exact HQ.out _ _ ⟨rfl, (HB.out.trans (HK2.out.mono (Nat.le_succ _))).trans (HK3.out.mono (Nat.le_succ _))⟩
theorem text_leaf (k : Int) (hk : k = 1 ∨ k = 2) (s : ByteArray) (hs : s.size ≤ 1000) (w : World) :
 Calls Tryz.prog 36 #[.agg (ntC (leafN k s)).toArray] w fun e w' => e = .returned (.string s) ∧ Below w.heap.size w w' := by
 refine (text_of (leafN k s) s.data.toList w fun W b hW hbe hsz hbl => ?_).mono fun e w' h => h
 have := write_leaf k hk s hs (w.heap.size + 1) b [] W hbl (by simp) hsz
 rw [List.nil_append, lst_cells] at this
 exact this
theorem text_const (g : Nat) (s : ByteArray) (hs : s.size ≤ 1000) (w : World) (hg : g < w.heap.size) (hy : w.rangeAt g 0 (ntC (leafN 2 s))) :
 Calls Tryz.prog 36 #[.agg (ntC (kidsN 7 (some ⟨g, 0, none⟩) 1)).toArray] w fun e w' => e = .returned (.string ⟨(35 :: s.data.toList).toArray⟩) ∧ Below w.heap.size w w' := by
 refine text_of (kidsN 7 (some ⟨g, 0, none⟩) 1) (35 :: s.data.toList) w fun W b hW hbe hsz hbl => ?_
 have := write_const g s hs (w.heap.size + 1) b [] W hbl (by simp) hsz (by omega) (fun j u hu => (hW.cell (p := ⟨g, 0 + j, none⟩) hg).trans (hy j u hu))
 exact this
end
section
open Go.RowKit RM
def escells (es : List (List Nat)) : List Value := es.flatMap ucells
theorem escells_at : ∀ (es : List (List Nat)), (∀ e ∈ es, EW e) → ∀ (i j : Nat), i < es.length → j < 8 → (escells es)[i * 8 + j]? = (ucells (es.getD i []))[j]?
 | [], _, i, j, hi, _ => by simp at hi
 | e :: es, h, 0, j, _, hj => by
   have h1 : (ucells e).length = 8 := by rw [ucells_length]; exact (h e (by simp)).1
   unfold escells
   rw [List.flatMap_cons, List.getElem?_append_left (by rw [h1]; omega)]
   simp
 | e :: es, h, i + 1, j, hi, hj => by
   have h1 : (ucells e).length = 8 := by rw [ucells_length]; exact (h e (by simp)).1
   have ih := escells_at es (fun f hf => h f (by simp [hf])) i j (by simpa using hi) hj
   unfold escells at ih ⊢
   rw [List.flatMap_cons, List.getElem?_append_right (by rw [h1]; omega), h1, show (i + 1) * 8 + j - 8 = i * 8 + j by omega]
   exact ih
theorem eget_mem {es : List (List Nat)} {i : Nat} (hi : i < es.length) : es.getD i [] ∈ es := by
 rw [List.getD_eq_getElem?_getD, List.getElem?_eq_getElem hi]
 exact List.getElem_mem hi
theorem els_at {w : World} {B : Nat} {A : Option Addr} {es : List (List Nat)} (h : Sl w B A (escells es)) (hE : ∀ e ∈ es, EW e) {k : Nat} (hk : k < es.length) :
 ∃ b o, A = some ⟨b, o, none⟩ ∧ ∀ i, i < es.length → w.rangeAt b (o + i * 8) (ucells (es.getD i [])) := by
 have h0 := escells_at es hE k 0 hk (by omega)
 have hl : (ucells (es.getD k [])).length = 8 := by rw [ucells_length]; exact (hE _ (eget_mem hk)).1
 have h1 : (ucells (es.getD k []))[0]? ≠ none := by
  rw [List.getElem?_eq_getElem (show 0 < (ucells (es.getD k [])).length by rw [hl]; omega)]
  simp
 obtain ⟨b, o, hA, _, hc⟩ := h (fun e => by
  rw [e] at h0
  exact h1 (h0.symm.trans (by simp)))
 refine ⟨b, o, hA, fun i hi j u hu => ?_⟩
 have hj : j < 8 := by
  have := (List.getElem?_eq_some_iff.1 hu).1
  rw [ucells_length, (hE _ (eget_mem hi)).1] at this
  exact this
 rw [Nat.add_assoc]
 exact hc _ _ ((escells_at es hE i j hi hj).trans hu)
theorem els_rng {w : World} {B b o : Nat} {es : List (List Nat)} (h : Sl w B (some ⟨b, o, none⟩) (escells es)) (hE : ∀ e ∈ es, EW e) {k : Nat} (hk : k < es.length) : w.rangeAt b (o + k * 8) (ucells (es.getD k [])) := by
 obtain ⟨b2, o2, e, hr⟩ := els_at h hE hk
 injection e with e
 injection e with e1 e2
 subst e1 e2
 exact hr k hk
section
variable {ops : Array Oper} {rest : List Oper} {o : Oper} {a : Act} {w : World} {Q : Exit → Act → World → Prop} {S : World → Prop}
theorem einfo2 {e : List Nat} (h : EW e) : (Tryz.prog.info? 31).map (·.size) = some (ucells e).length := by rw [ucells_length, h.1]; kernel_rfl
theorem take_loadElemIn (x : Operand) (ho : o.op = .load 31 x) (b k : Nat) (hx : a.eval x = .pointer (some ⟨b, k, none⟩)) (e : List Nat) (hl : EW e) (hS : ∀ w, S w → w.rangeAt b k (ucells e)) :
 ∀ w, S w → (execOp a.eval o).run Tryz.prog w = .ok (.value (.agg (uv e))) w := by
 intro w h
 unfold execOp
 simp only [ho, hx, Sem.run_bind, Sem.run_pure, Result.andThen_ok, run_loadAt_mid w b k _ _ _ (hS w h) Tryz.underlying31 rfl (einfo2 hl)]
 rfl
theorem wpList_loadElemIn (hgd : Region.wanted o (yielded ops a.tmps) = true) (x : Operand) (ho : o.op = .load 31 x) (b k : Nat) (hx : a.eval x = .pointer (some ⟨b, k, none⟩))
 (e : List Nat) (hl : EW e) (hg : w.rangeAt b k (ucells e)) (h : wpList Tryz.prog ops Q rest (a.put o.dst (.agg (uv e))) w) : wpList Tryz.prog ops Q (o :: rest) a w :=
 wpList_wanted hgd fun _ hK => wp_load_mid _ x ho b k hx (ucells e) _ hg Tryz.underlying31 rfl (einfo2 hl) (hK _ _ h)
end
end
section
open Go.RowKit RM
end
section
open Go.RowKit RM
end
end Go.Proofs.YtppcjocmjpbmmaaGreatDoor
