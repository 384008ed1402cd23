/- Texts that all the claims need. Conditions: those that each states. -/

import Derived.Test.YtmffnkfohmbbeaaGreatDoorCi17
import Derived.Test.YtmffnkfohmbbeaaGreatDoorCi18
set_option linter.unusedSimpArgs false
set_option linter.unusedVariables false
set_option maxRecDepth 100000
set_option maxHeartbeats 40000000
namespace Go.Proofs.YtmffnkfohmbbeaaGreatDoor
section
open Go.RowKit LX TR TM CM
theorem qwords12_any (A : Option Addr) (c : Nat) (ws : List Wd) (w : World) (hA : Sl w w.heap.size A (wcs ws)) (hn : ws.length ≤ 1099511627776) (hl : (jc (wtx ws)).length ≤ 140737488355328) :
 Calls Tryz.prog 29 #[.slice A ws.length c] w fun e w' => (∃ s : ByteArray, e = .returned (.string s) ∧ lst s = jc (wtx ws)) ∧ w = w' := by
 have HA := zh hA; clear hA
 have hwl : (wtx ws).length = ws.length := by unfold wtx; rw [List.length_map]
 have HT : Hid (∀ i, i < ws.length → jc ((wtx ws).take (i + 1)) = jc ((wtx ws).take i) ++ (if 0 < i then 44 :: lst (ws.getD i w0).s else lst (ws.getD i w0).s)) := fun i hi => by
  rw [jc_take (by rw [hwl]; exact hi)]
  have e : (wtx ws).getD i [] = lst (ws.getD i w0).s := by
   rw [List.getD_eq_getElem?_getD, List.getD_eq_getElem?_getD, List.getElem?_eq_getElem (by rw [hwl]; exact hi), List.getElem?_eq_getElem hi]
   simp [wtx]
  rw [e]
 have HLE : Hid (∀ i, (jc ((wtx ws).take i)).length ≤ 140737488355328) := fun i => zM (jc_le _ i) hl
 have HE : Hid (jc ((wtx ws).take ws.length) = jc (wtx ws)) := by show _ = _; rw [← hwl, List.take_length]
 generalize hj : jc (wtx ws) = J at *
 clear hj hwl
 generalize hm : ws.length = n at *
 have HN := zh hm; clear hm
 go_enter Tryz.func29, Tryz.ntmps29
 go_wp2_with fail
 go_loopw [3, 4] (fun sv iv wr => ∃ (i : Nat) (x : ByteArray), i ≤ n ∧ iv = .int .i64 i ∧ sv = .string x ∧ Hid (lst x = jc ((wtx ws).take i)) ∧ wr = w) (fun _ iv _ => n - (intOf iv).toNat)
 case atStart => exact ⟨0, _, by omega, rfl, rfl, by show lst _ = _; simp [jc, lst], rfl⟩
 case round =>
  obtain ⟨i, x, hi, rfl, rfl, HX, rfl⟩ := hrel
  by_cases hlt : i < n
  ·obtain ⟨bb, o, rfl, _, hc⟩ := sl_at (z := w0) wcells_length HA.out (k := i) (by rw [HN.out]; exact hlt) (by omega)
   have q0 := hc i 0 _ (by rw [HN.out]; exact hlt) (by omega) rfl
   rw [Nat.add_zero] at q0
   have hin : (i : Int) < (n : Int) := by omega
   have HTI := zh (HT.out i hlt)
   have HLI := zh (HLE.out (i + 1))
   rw [HTI.out, ← HX.out] at HLI
   clear hc
   generalize (ws.getD i w0).s = s at *
   by_cases h0 : 0 < i
   ·rw [if_pos h0] at HTI HLI
    have hs1 : (x ++ (⟨#[44]⟩ : ByteArray)).size = x.size + 1 := by rw [ByteArray.size_append]; rfl
    have hs3 : x.size + 1 ≤ 140737488355328 := by
     have h9 := HLI.out
     rw [zA7, zA8, lst_length] at h9
     omega
    have h0i : (0 : Int) < (i : Int) := by omega
    have hs2 : x.size + 1 + s.size ≤ 140737488355328 := by
     have h9 := HLI.out
     rw [zA7, zA8, lst_length, lst_length] at h9
     omega
    have HF : Hid (lst (x ++ ⟨#[44]⟩ ++ s) = jc ((wtx ws).take (i + 1))) := by
     show _ = _
     rw [HTI.out, lst_app, lst_app, HX.out, lst_one]; simp
    clear HTI HLI
    go_wp2_with fail
    go_roundw
    case rel => exact ⟨i + 1, _, by omega, by go_num, rfl, HF, trivial⟩
    case measure => simp [intOf]; omega
   ·obtain rfl : i = 0 := by omega
    rw [if_neg h0] at HTI HLI
    simp only [Nat.zero_mul, Nat.add_zero] at q0
    have hs2 : x.size + s.size ≤ 140737488355328 := by
     have h9 := HLI.out
     rw [zA7, lst_length, lst_length] at h9
     omega
    have HF : Hid (lst (x ++ s) = jc ((wtx ws).take (0 + 1))) := by
     show _ = _
     rw [HTI.out, lst_app, HX.out]
    clear HTI HLI
    go_wp2_with fail
    go_roundw
    case rel => exact ⟨0 + 1, _, by omega, by go_num, rfl, HF, trivial⟩
    case measure => simp [intOf]; omega
  ·obtain rfl : i = n := by omega
   have HF : Hid (lst x = J) := by
        show _ = _
        rw [HX.out, HE.out]
   go_wp2_with fail
   go_ret
   exact ⟨⟨x, rfl, HF.out⟩, rfl⟩
theorem qtexts12_any (A : Option Addr) (c : Nat) (ws : List Wd) (w : World) (hA : Sl w w.heap.size A (wcs ws)) (hn : ws.length ≤ 1099511627776) :
 Calls Tryz.prog 41 #[.slice A ws.length c] w fun e w' => e = .returned (.bool (wrB ws)) ∧ Below w.heap.size w w' := by
 have HA := zh hA; clear hA
 have HYES : Hid ((∀ j, j < ws.length → NM.right (ws.getD j w0).s = true) → wrB ws = true) := zh fun h => by
  unfold wrB
  rw [List.all_eq_true]
  intro z hz
  obtain ⟨i, hi, rfl⟩ := List.mem_iff_getElem.1 hz
  have := h i hi
  rwa [List.getD_eq_getElem?_getD, List.getElem?_eq_getElem hi] at this
 have HNO : Hid (∀ j, j < ws.length → NM.right (ws.getD j w0).s = false → wrB ws = false) := zh fun j hj h => by
  rw [Bool.eq_false_iff]
  intro h2
  have := of_wrB h2 (ws.getD j w0) (by rw [List.getD_eq_getElem?_getD, List.getElem?_eq_getElem hj]; exact List.getElem_mem hj)
  rw [h] at this
  cases this
 generalize wrB ws = res at *
 generalize hm : ws.length = n at *
 have HN := zh hm; clear hm
 refine cHidC fun Q' hQ => ?_
 have HQ := zh hQ; clear hQ
 go_enter Tryz.func41, Tryz.ntmps41
 go_wp2_with fail
 go_loopw [3] (fun iv wr => ∃ i : Nat, i ≤ n ∧ iv = .int .i64 i ∧ Hid (∀ j, j < i → NM.right (ws.getD j w0).s = true) ∧ Hid (Below w.heap.size w wr)) (fun iv _ => n - (intOf iv).toNat)
 case atStart => exact ⟨0, by omega, rfl, zh fun j hj => by omega, zB _ _⟩
 case round =>
  obtain ⟨i, hi, rfl, HI, HW⟩ := hrel
  by_cases hlt : i < n
  ·obtain ⟨bb, o, rfl, _, hc⟩ := sl_at (z := w0) wcells_length (HA.out.below HW.out) (k := i) (by rw [HN.out]; exact hlt) (by omega)
   have q0 := hc i 0 _ (by rw [HN.out]; exact hlt) (by omega) rfl
   rw [Nat.add_zero] at q0
   have hin : (i : Int) < (n : Int) := by omega
   have HC := zh (refRight_any (ws.getD i w0).s wr)
   have HI1 : Hid (NM.right (ws.getD i w0).s = true → ∀ j, j < i + 1 → NM.right (ws.getD j w0).s = true) := zh fun h j hj => by
        by_cases e : j = i
        ·rw [e]; exact h
        ·exact HI.out j (by omega)
   have HNI := zh (HNO.out i hlt)
   clear hc HI
   generalize NM.right (ws.getD i w0).s = q at *
   generalize (ws.getD i w0).s = s at *
   go_wp2_with fail
   refine HC.out.mono ?_
   rintro e w4 ⟨rfl, hb⟩
   have HW4 := zh (HW.out.trans (hb.below.mono HW.out.size))
   clear hb
   cases q with
   | false =>
     have HR := zh (HNI.out rfl)
     clear HNI HI1
     go_wp2_with fail
     rw [HR.out] at HQ
     exact HQ.out _ _ ⟨rfl, HW4.out⟩
   | true =>
     have HR := zh (HI1.out rfl)
     clear HNI HI1
     go_wp2_with fail
     go_roundw
     case rel => exact ⟨i + 1, by omega, by go_num, HR, HW4⟩
     case measure => simp [intOf]; omega
  ·obtain rfl : i = n := by omega
   have HR := zh (HYES.out HI.out)
   go_wp2_with fail
   rw [HR.out] at HQ
   exact HQ.out _ _ ⟨rfl, HW.out⟩
theorem lts_small : ∀ k : Fin 16, (lts.getD k.val ⟨#[]⟩).size ≤ 100 := by decide
theorem ltr_small (op : Int) : (ltr op).size ≤ 100 := by
 by_cases h : 0 ≤ op ∧ op < 16
 ·obtain ⟨k, rfl⟩ := Int.eq_ofNat_of_zero_le h.1
  have hk : k < 16 := by omega
  rw [ltr_in hk]
  exact lts_small ⟨k, hk⟩
 ·rw [ltr_out h]
  exact Nat.zero_le _
theorem qhas12_any (op : Int) (k : Nat) (hk : k < 256) (w : World) : Calls Tryz.prog 42 #[.int .i64 op, .int .u8 k] w fun e w' => e = .returned (.bool ((ltl op).contains k)) ∧ Below w.heap.size w w' := by
 have HLE := zh (qletters_any op w)
 have HYES : Hid (∀ j, (h : j < (ltr op).size) → ((ltr op)[j]'h).toNat = k → (ltl op).contains k = true) := zh fun j h e => by
  rw [List.contains_iff_mem]
  unfold ltl
  refine List.mem_map.2 ⟨(ltr op)[j]'h, ?_, e⟩
  exact Array.mem_toList_iff.2 (Array.getElem_mem (xs := (ltr op).data) h)
 have HNO : Hid ((∀ j, (h : j < (ltr op).size) → ((ltr op)[j]'h).toNat ≠ k) → (ltl op).contains k = false) := zh fun h => by
  rw [Bool.eq_false_iff]
  intro hc
  rw [List.contains_iff_mem] at hc
  unfold ltl at hc
  obtain ⟨c, hc, e⟩ := List.mem_map.1 hc
  obtain ⟨j, hj, rfl⟩ := List.mem_iff_getElem.1 hc
  exact h j (by simpa [lst] using hj) e
 have hps := ltr_small op
 generalize (ltl op).contains k = res at *
 generalize ltr op = P at *
 refine cHidC fun Q' hQ => ?_
 have HQ := zh hQ; clear hQ
 go_enter Tryz.func42, Tryz.ntmps42
 go_upto_region 2 with (go_at_call 28; refine HLE.out.mono ?_; rintro e w2 ⟨rfl, hb2⟩; have HB2 := zh hb2; clear hb2)
 go_wp2_with fail
 go_loopw [6] (fun iv wr => ∃ i : Nat, i ≤ P.size ∧ iv = .int .i64 i ∧ Hid (∀ j, j < i → (h : j < P.size) → (P[j]'h).toNat ≠ k) ∧ wr = w2) (fun iv _ => P.size - (intOf iv).toNat)
 case atStart => exact ⟨0, by omega, rfl, zh fun j hj => by omega, rfl⟩
 case round =>
  obtain ⟨i, hi, rfl, HI, rfl⟩ := hrel
  by_cases hlt : i < P.size
  ·have hin : (i : Int) < (P.size : Int) := by omega
   by_cases he : (P[i]'hlt).toNat = k
   ·have HR := zh (HYES.out i hlt he)
    go_wp2_with fail
    rw [HR.out] at HQ
    exact HQ.out _ _ ⟨rfl, HB2.out⟩
   ·have HI1 : Hid (∀ j, j < i + 1 → (h : j < P.size) → (P[j]'h).toNat ≠ k) := zh fun j hj h => by
     by_cases e : j = i
     ·subst e; exact he
     ·exact HI.out j (by omega) h
    have hbe : (((P[i]'hlt).toNat : Int) == (k : Int)) = false := by rw [beq_eq_false_iff_ne]; omega
    clear HI
    go_wp2_with fail
    go_roundw
    case rel => exact ⟨i + 1, by omega, by go_num, HI1, trivial⟩
    case measure => simp [intOf]; omega
  ·obtain rfl : i = P.size := by omega
   have HR := zh (HNO.out fun j h => HI.out j h h)
   go_wp2_with fail
   rw [HR.out] at HQ
   exact HQ.out _ _ ⟨rfl, HB2.out⟩
theorem qzero12_any (z : Nd) (hz : cnt [z] ≤ 4294967296) (w : World) (hnd : Nods w w.heap.size [z]) :
 Calls Tryz.prog 46 #[.agg (nv z)] w fun e w' => e = .returned (.bool (sm z n0)) ∧ Below w.heap.size w w' := by
 have hb : Below w.heap.size w (w.alloc (.cells (nv z) 28)) := (zB _ _).alloc (zL _) _
 have r0 := RowAt.new w 28 (nv z)
 have HS : Hid (Calls Tryz.prog 35 #[.agg (nv z), .agg (nv n0)] (w.alloc (.cells (nv z) 28)) fun e w' => e = .returned (.bool (sm z n0)) ∧ Below (w.alloc (.cells (nv z) 28)).heap.size (w.alloc (.cells (nv z) 28)) w') :=
  zh (refSame10_any 4294967296 (zL _) z n0 hz _ ((hnd.below hb).mono hb.size) (nods_n0 _))
 obtain ⟨zk, zp, zs, zA, zc, zw, zBq, zd, zz⟩ := z
 refine cHidC fun Q' hQ => ?_
 have HQ := zh hQ; clear hQ
 unfold nv at *
 simp only [Nd.k, Nd.p, Nd.s, Nd.A, Nd.c, Nd.ws, Nd.B, Nd.d, Nd.ks] at *
 go_enter Tryz.func46, Tryz.ntmps46
 go_upto_region 1 with fail
 generalize w.alloc (.cells #[.int .i64 zk, .int .i64 zp, .string zs, .slice zA zw.length zc, .slice zBq zz.length zd] 28) = w1 at *
 obtain ⟨a0, a1, a2, a3, a4, _, _, _, _, _⟩ := row5 r0
 have HB := zh hb
 clear hb hnd hz r0
 go_wp2_with (go_at_call 35; refine HS.out.mono ?_; rintro e w2 ⟨rfl, hb2⟩; have HB2 := zh (HB.out.trans (hb2.mono HB.out.size)); clear hb2)
 exact HQ.out _ _ ⟨rfl, HB2.out⟩
end
section
open Go.RowKit LX TR TM CM
namespace CM
def badB (a r ne o s c : Bool) (n m : Nat) : Bool := (a != r) || ((!a && ne) || ((o && !decide (n = 1)) || ((s && decide (n = 0)) || ((!o && (!s && decide (0 < n))) || (!c && decide (0 < m))))))
def lstN (x : Cm) : Bool := if (ltl x.op).contains 116 then (fl x.l).l && (fl x.r).l else if (ltl x.op).contains 114 then (fl x.l).r && (fl x.r).r else sm x.l n0 && sm x.r n0
theorem ltl_formsI (op : Int) : ltl op = [] ∨ ltl op = [110] ∨ ltl op = [110, 119] ∨ ltl op = [110, 119, 112] ∨ ltl op = [110, 116, 116] ∨ ltl op = [110, 114, 114] ∨ ltl op = [110, 102] := by
 by_cases h : 0 ≤ op ∧ op < 16
 ·obtain ⟨k, rfl⟩ := Int.eq_ofNat_of_zero_le h.1
  exact ltl_forms k (by omega)
 ·left
  unfold ltl
  rw [ltr_out h]; rfl
theorem ne_name (s : ByteArray) : (!s.toList.isEmpty) = !decide (s = ⟨#[]⟩) := by
 have h := NM.str_eq s ⟨#[]⟩
 have e0 : (⟨#[]⟩ : ByteArray).toList = [] := by rw [Lib.toList_data]
 rw [e0] at h
 rw [← h]
 cases hs : s.toList with
 | nil => rfl
 | cons a l => rfl
theorem right_empty : NM.right ⟨#[]⟩ = false := by decide
theorem ri_badB {x : Cm} (hop : 0 ≤ x.op ∧ x.op < 16) (hw : wrB x.ws = true) (hp : prB x.ps = true) :
 riC x = (!badB ((ltl x.op).contains 110) (NM.right x.n.s) (!x.n.s.toList.isEmpty) ((ltl x.op).contains 102) ((ltl x.op).contains 119) ((ltl x.op).contains 112) x.ws.length x.ps.length && lstN x) := by
 unfold riC riL lstN
 rw [zE hop, hw, hp, Bool.true_and, Bool.true_and, Bool.true_and, ne_name]
 have he : decide (x.n.s = ⟨#[]⟩) = true → NM.right x.n.s = false := fun h => by rw [of_decide_eq_true h, right_empty]
 generalize decide (x.n.s = ⟨#[]⟩) = e at *
 generalize NM.right x.n.s = r at *
 generalize x.ws.length = n
 generalize x.ps.length = m
 rcases ltl_formsI x.op with h | h | h | h | h | h | h
 all_goals rw [h]
 all_goals simp only [List.contains_cons, List.contains_nil, badB]
 all_goals simp
 all_goals grind
end CM
theorem take_ldInC {P : Program} {S : World → Prop} {o : Oper} {a : Act} (ty : TypeId) (x : Operand) (ho : o.op = .load ty x) (b k : Nat) (hx : a.eval x = .pointer (some ⟨b, k, none⟩)) (cs : List Value) (d : TypeDesc) (hS : ∀ w, S w → w.rangeAt b k cs)
 (hu : P.underlying ty = some d) (hd : d.isRow = true) (hi : (P.info? ty).map (·.size) = some cs.length) : ∀ w, S w → (execOp a.eval o).run P w = .ok (.value (.agg cs.toArray)) w := by
 intro w h
 unfold execOp
 simp only [ho, hx, Sem.run_bind, Sem.run_pure, Result.andThen_ok, run_loadAt_mid w b k _ _ _ (hS w h) hu hd hi]
theorem wpList_ldInC {P : Program} {ops : Array Oper} {rest : List Oper} {o : Oper} {a : Act} {w : World} {Q : Exit → Act → World → Prop} (hgd : Region.wanted o (yielded ops a.tmps) = true) (ty : TypeId) (x : Operand) (ho : o.op = .load ty x) (b k : Nat) (hx : a.eval x = .pointer (some ⟨b, k, none⟩)) (cs : List Value) (d : TypeDesc)
 (hc : w.rangeAt b k cs) (hu : P.underlying ty = some d) (hd : d.isRow = true) (hi : (P.info? ty).map (·.size) = some cs.length) (h : wpList P ops Q rest (a.put o.dst (.agg cs.toArray)) w) : wpList P ops Q (o :: rest) a w :=
 wpList_step fun _ hK => by rw [if_pos hgd]; exact wp_load_mid ty x ho b k hx cs d hc hu hd hi (hK _ _ h)
theorem infoWd2C : (Tryz.prog.info? 23).map (fun i => (i.zero.isSome, i.size)) = some (true, 2) := by kernel_rfl
theorem wp_wdsC {o : Oper} {a : Act} {w : World} {K : Act → World → Prop} {Q : Exit → Act → World → Prop} (x y : Operand) (ho : o.op = .buildSlice 24 2 #[(0, x), (1, y)])
 (l r : Wd) (hx : a.eval x = .agg (wcells l).toArray) (hy : a.eval y = .agg (wcells r).toArray)
 (h : ∀ w', Sl w' w'.heap.size (some ⟨w.heap.size, 0, none⟩) (wcs [l, r]) → Below w.heap.size w w' → K (a.put o.dst (.slice (some ⟨w.heap.size, 0, none⟩) 2 2)) w') : o.wp Tryz.prog a w K Q := by
 cases hi : Tryz.prog.info? 23 with
 | none => have h0 := infoWd2C; rw [hi] at h0; cases h0
 | some i =>
   have h2 := infoWd2C
   rw [hi] at h2
   simp only [Option.map_some, Option.some.injEq, Prod.mk.injEq] at h2
   obtain ⟨z, hz⟩ := Option.isSome_iff_exists.1 h2.1
   have hs := h2.2
   refine wp_buildSlice 24 23 2 _ ho (wcs [l, r]).toArray i z Tryz.underlying24 hi hz (by rw [hs]; omega) (by rw [hs]; omega) ?_ ?_
   ·rw [show (#[(0, x), (1, y)].map fun (p : Nat × Operand) => (p.1, a.eval p.2)).toList = (([l, r].map fun s => Value.agg (wcells s).toArray).zipIdx 0).map fun x => (x.2, x.1) by simp [hx, hy], hs]
    have := Great.fill_whole (s := 2) (by decide) ([l, r].map fun s => Value.agg (wcells s).toArray) ((Array.range (2 * 2)).map (z.cells[· % z.cells.size]!)) (by
        intro v hv
        obtain ⟨s, _, rfl⟩ := List.mem_map.1 hv
        rfl) (by simp)
    rw [this]
    rfl
   ·refine h _ (fun _ => ⟨w.heap.size, 0, rfl, by simp, fun j u hu => ?_⟩) ((zB _ _).alloc (zL _) _)
    rw [Nat.zero_add]
    exact ((RowAt.new w 23 (wcs [l, r]).toArray).cell j).trans (by simpa using hu)
theorem qright12_any (x : Cm) (w : World) (hx : CmIn w w.heap.size x) (sx : SmlC x) :
 Calls Tryz.prog 13 #[.agg (cv x)] w fun e w' => e = .returned (.bool (riC x)) ∧ Below w.heap.size w w' := by
 have r0 := RowAt.new w 30 (cv x)
 have hb : Below w.heap.size w (w.alloc (.cells (cv x) 30)) := (zB _ _).alloc (zL _) _
 have HRB := zh (@ri_badB x)
 have HRO : Hid (¬ (0 ≤ x.op ∧ x.op < 16) → riC x = false) := zh fun h => by unfold riC; rw [zF h, Bool.false_and]
 have HRW : Hid (wrB x.ws = false → riC x = false) := zh fun h => by unfold riC; rw [h, Bool.false_and, Bool.and_false]
 have HRP : Hid (prB x.ps = false → riC x = false) := zh fun h => by unfold riC; rw [h, Bool.false_and, Bool.and_false, Bool.and_false]
 generalize riC x = res at *
 refine cHidC fun Q' hQ => ?_
 have HQ := zh hQ; clear hQ
 go_enter Tryz.func13, Tryz.ntmps13
 go_upto_region 1 with fail
 change Code.wp _ _ _ _ (w.alloc (.cells (cv x) 30))
 generalize w.alloc (.cells (cv x) 30) = w1 at *
 have HB := zh hb
 have HX : Hid (∀ W, Below w1.heap.size w1 W → CmIn W W.heap.size x) := zh fun W h => ((hx.below hb).mono hb.size |>.below h).mono h.size
 have HLT := zh r0.lt
 have HCELL : Hid (∀ W, Below w1.heap.size w1 W → RowAt W w.heap.size 30 (cv x)) := zh fun W hW => r0.below hW r0.lt
 have HSX := zh sx
 have C0 : Hid (∀ W, Below w1.heap.size w1 W → W.cell? ⟨w.heap.size, 0, none⟩ = some (.int .i64 x.op)) := zh fun W hW => ((HCELL.out W hW).cell 0).trans rfl
 have C2 : Hid (∀ W, Below w1.heap.size w1 W → W.cell? ⟨w.heap.size, 2, none⟩ = some (.string x.n.s)) := zh fun W hW => ((HCELL.out W hW).cell 2).trans rfl
 have C4 : Hid (∀ W, Below w1.heap.size w1 W → W.cell? ⟨w.heap.size, 4, none⟩ = some (.slice x.A x.ws.length x.c)) := zh fun W hW => ((HCELL.out W hW).cell 4).trans rfl
 have C5 : Hid (∀ W, Below w1.heap.size w1 W → W.cell? ⟨w.heap.size, 5, none⟩ = some (.slice x.B x.ps.length x.d)) := zh fun W hW => ((HCELL.out W hW).cell 5).trans rfl
 have HR1 : Hid (∀ W, Below w1.heap.size w1 W → W.rangeAt w.heap.size 7 (ncells x.l)) := zh fun W hW => RowAt.range (HCELL.out W hW) 7 (ncells x.l) (by intro j u hu; match j, hu with | 0, hu => exact hu | 1, hu => exact hu | 2, hu => exact hu | 3, hu => exact hu | 4, hu => exact hu)
 have HR2 : Hid (∀ W, Below w1.heap.size w1 W → W.rangeAt w.heap.size 12 (ncells x.r)) := zh fun W hW => RowAt.range (HCELL.out W hW) 12 (ncells x.r) (by intro j u hu; match j, hu with | 0, hu => exact hu | 1, hu => exact hu | 2, hu => exact hu | 3, hu => exact hu | 4, hu => exact hu)
 have HTX : Hid (∀ W, Below w1.heap.size w1 W → Calls Tryz.prog 41 #[.slice x.A x.ws.length x.c] W fun e w' => e = .returned (.bool (wrB x.ws)) ∧ Below W.heap.size W w') := zh fun W hW => qtexts12_any x.A x.c x.ws W (HX.out W hW).ws (zM sx.1 (by decide))
 have d0 := C0.out w1 (zB _ _)
 have d4 := C4.out w1 (zB _ _)
 clear r0 hb hx sx
 by_cases h0 : x.op < 0
 ·have HR := zh (HRO.out (by omega))
  go_wp2_with fail
  rw [HR.out] at HQ
  exact HQ.out _ _ ⟨rfl, HB.out⟩
 by_cases h15 : 15 < x.op
 ·have HR := zh (HRO.out (by omega))
  go_wp2_with fail
  rw [HR.out] at HQ
  exact HQ.out _ _ ⟨rfl, HB.out⟩
 have HOP : Hid (0 ≤ x.op ∧ x.op < 16) := zh ⟨by omega, by omega⟩
 clear HRO
 generalize hws : wrB x.ws = wb at *
 have HWS := zh hws
 clear hws
 cases wb with
 | false =>
   have HR := zh (HRW.out rfl)
   go_wp2_with (go_at_call 41; refine (HTX.out _ (zB _ _)).mono ?_; rintro e w2 ⟨rfl, hb⟩; have HW2 := zh (HB.out.trans (hb.mono HB.out.size)); clear hb)
   rw [HR.out] at HQ
   exact HQ.out _ _ ⟨rfl, HW2.out⟩
 | true =>
   go_upto_region 3 with (go_at_call 41; refine (HTX.out _ (zB _ _)).mono ?_; rintro e w2 ⟨rfl, hb2⟩; have HB2 := zh hb2; clear hb2)
   clear d0 d4 HRW HTX
   have HPM : Hid (x.ps.length ≤ 9223372036854775807) := zh (by have := HSX.out.2.1; omega)
   have HPA : Hid ((∀ j, j < x.ps.length → (NM.right (x.ps.getD j CM.pw0).a.s && NM.right (x.ps.getD j CM.pw0).b.s) = true) → prB x.ps = true) := zh fun h => by
    unfold prB
    rw [List.all_eq_true]
    intro z hz
    obtain ⟨i, hi, rfl⟩ := List.mem_iff_getElem.1 hz
    have := h i hi
    rwa [List.getD_eq_getElem?_getD, List.getElem?_eq_getElem hi] at this
   have HPN : Hid (∀ j, j < x.ps.length → (NM.right (x.ps.getD j CM.pw0).a.s && NM.right (x.ps.getD j CM.pw0).b.s) = false → prB x.ps = false) := zh fun j hj h => by
    rw [Bool.eq_false_iff]
    intro h2
    unfold prB at h2
    rw [List.all_eq_true] at h2
    have := h2 (x.ps.getD j CM.pw0) (by rw [List.getD_eq_getElem?_getD, List.getElem?_eq_getElem hj]; exact List.getElem_mem hj)
    rw [this] at h
    cases h
   have HHA : Hid (∀ W, Below w1.heap.size w1 W → Sl W W.heap.size x.B (pwcs x.ps)) := zh fun W hW => (HX.out W hW).ps
   generalize hpb : prB x.ps = pb at *
   have HPB := zh hpb; clear hpb
   generalize hpm : x.ps.length = m at *
   have HM := zh hpm; clear hpm
   go_wp2_with fail
   go_loopw [3] (fun iv wr => ∃ i : Nat, i ≤ m ∧ iv = .int .i64 i ∧ Hid (∀ j, j < i → (NM.right (x.ps.getD j CM.pw0).a.s && NM.right (x.ps.getD j CM.pw0).b.s) = true) ∧ Hid (Below w1.heap.size w1 wr)) (fun iv _ => m - (intOf iv).toNat)
   case atStart => exact ⟨0, by omega, rfl, zh fun j hj => by omega, HB2⟩
   case round =>
    obtain ⟨i, hi, rfl, HI, HW⟩ := hrel
    have hpm2 := HPM.out
    have c5 := C5.out _ HW.out
    by_cases hlt : i < m
    ·have hin : (i : Int) < (m : Int) := by omega
     obtain ⟨b, o, hBe, hbl, hc⟩ := sl_at (z := CM.pw0) pwcells_length (HHA.out _ HW.out) (k := i) (by rw [HM.out]; exact hlt) (by omega)
     have hR : ∀ j u, j < 4 → (pwcells (x.ps.getD i CM.pw0))[j]? = some u → wr.cell? ⟨b, o + (i * 4 + j), none⟩ = some u := fun j u hj hu => hc i j u (by rw [HM.out]; exact hlt) hj hu
     have HI1 : Hid ((NM.right (x.ps.getD i CM.pw0).a.s && NM.right (x.ps.getD i CM.pw0).b.s) = true → ∀ j, j < i + 1 → (NM.right (x.ps.getD j CM.pw0).a.s && NM.right (x.ps.getD j CM.pw0).b.s) = true) := zh fun h j hj => by
      by_cases e : j = i
      ·rw [e]; exact h
      ·exact HI.out j (by omega)
     have HNI := zh (HPN.out i hlt)
     clear hc HI
     generalize x.B = XB at *
     subst hBe
     generalize x.ps.getD i CM.pw0 = y at *
     go_upto_region 6 with fail
     have HWd := zh (HW.out.drew)
     have P0 : ∀ W, Below wr.heap.size wr.drew W → W.rangeAt b (o + i * 4) (wcells y.a) := fun W hW j u hu => by
      have hj : j < 2 := (List.getElem?_eq_some_iff.1 hu).1
      refine (hW.cell (p := ⟨b, o + i * 4 + j, none⟩) hbl).trans ?_
      rw [Nat.add_assoc]
      refine hR j u (by omega) ?_
      show (wcells y.a ++ wcells y.b)[j]? = some u
      rw [List.getElem?_append_left (by exact hj)]; exact hu
     have P1 : ∀ W, Below wr.heap.size wr.drew W → W.rangeAt b (o + i * 4 + 2) (wcells y.b) := fun W hW j u hu => by
      have hj : j < 2 := (List.getElem?_eq_some_iff.1 hu).1
      refine (hW.cell (p := ⟨b, o + i * 4 + 2 + j, none⟩) hbl).trans ?_
      rw [show o + i * 4 + 2 + j = o + (i * 4 + (2 + j)) by omega]
      refine hR (2 + j) u (by omega) ?_
      show (wcells y.a ++ wcells y.b)[2 + j]? = some u
      rw [List.getElem?_append_right (by show 2 ≤ 2 + j; omega), show 2 + j - (wcells y.a).length = j by show 2 + j - 2 = j; omega]; exact hu
     have C5b : ∀ W, Below wr.heap.size wr.drew W → W.cell? ⟨w.heap.size, 5, none⟩ = some (.slice (some ⟨b, o, none⟩) m x.d) := fun W hW => C5.out W (HWd.out.trans (hW.mono HW.out.size))
     clear c5
     have hS0 : Below wr.heap.size wr.drew wr.drew := zB _ _
     have HS0 := zh hS0; clear hS0
     refine wp_region_ou (fun W => Below wr.heap.size wr.drew W) ((.take 0 (.take 1 (.take 2 (.take 3 (.take 4 (.take 5 (.take 6 (.take 7 (.take 8 (.take 9 (.take 10 (.take 11 (.solo 12 (.solo 13 (.take 14 .nil)))))))))))))))) (by kernel_rfl) (by kernel_rfl) rfl (by kernel_rfl) HS0.out ?_
     have HSZ0 : Hid (wr.heap.size ≤ wr.drew.heap.size) := zh (zL _)
     generalize hu0 : wr.drew = u0 at *
     clear hu0
     iterate 12
      (refine wpOU_step (zO rfl) ?_)
      (first
       | (refine wpOU_skip (by rfl) ?_)
       | (refine wpOU_take (by rfl) (take_ldInC _ _ rfl b (o + i * 4) rfl _ _ P0 Tryz.underlying23 rfl (by kernel_rfl)) ?_)
       | (refine wpOU_take (by rfl) (take_ldInC _ _ rfl b (o + i * 4 + 2) rfl _ _ P1 Tryz.underlying23 rfl (by kernel_rfl)) ?_)
       | (refine wpOU_take (v := ?_) (by rfl) ?_ ?_; rotate_left 1; (intro wx hSx; have hc_0 := C5b wx hSx; go_simp; try with_reducible rfl)))
      (try simp only [Act.put, zA4, zA5, zA6])
     (refine wpOU_solo (zO rfl) ?_)
     intro K hK
     rw [if_pos (by rfl)]
     refine wp_wdsC _ _ rfl y.a y.b rfl rfl ?_
     intro u1 hls hb1
     have HS1 : Hid (Below wr.heap.size u0 u1) := zh (hb1.mono HSZ0.out)
     have HL1 := zh hls
     clear hb1 hls
     refine hK.out _ _ HS1.out ?_
     clear hK K
     (try simp only [Act.put, zA4, zA5, zA6])
     (refine wpOU_solo (zO rfl) ?_)
     intro K hK
     go_simp
     go_at_call 41
     refine (qtexts12_any _ 2 [y.a, y.b] u1 HL1.out (by simp)).mono ?_
     rintro e u2 ⟨rfl, hb⟩
     rw [wrB_two y]
     have HS2 : Hid (Below wr.heap.size u0 u2) := zh (HS1.out.trans (hb.mono (by have := HS1.out.size; have := HSZ0.out; omega)))
     refine hK.out _ _ HS2.out ?_
     clear hK K hb
     (try simp only [Act.put, zA4, zA5, zA6])
     generalize (NM.right y.a.s && NM.right y.b.s) = q at *
     iterate 1
      (refine wpOU_step (zO rfl) ?_)
      (first
       | (refine wpOU_skip (by rfl) ?_)
       | (refine wpOU_take (v := ?_) (by rfl) ?_ ?_; rotate_left 1; (intro wx hSx; have hc_0 := C5b wx hSx; go_simp; try with_reducible rfl)))
      (try simp only [Act.put, zA4, zA5, zA6])
     refine wpOU_done ?_
     have HW2 : Hid (Below w1.heap.size w1 u2) := zh (HWd.out.trans (HS2.out.mono HW.out.size))
     clear P0 P1 C5b
     cases q
     ·have HR := zh (HRP.out (HNI.out rfl))
      go_wp2_with fail
      rw [HR.out] at HQ
      exact HQ.out _ _ ⟨rfl, HB.out.trans (HW2.out.mono HB.out.size)⟩
     ·have HIt := zh (HI1.out rfl)
      clear HI1 HNI
      go_wp2_with fail
      go_roundw
      case rel => exact ⟨i + 1, by omega, by go_num, HIt, HW2⟩
      case measure => simp [intOf]; omega
    ·obtain rfl : i = m := by omega
     have HRB2 := zh (HRB.out HOP.out trivial (HPA.out HI.out))
     clear HPN HPA HRP HRB HI HHA
     have HH1 := zh fun W => qhas12_any x.op 110 (by omega) W
     have HH2 := zh fun W => qhas12_any x.op 112 (by omega) W
     have HHo := zh fun W => qhas12_any x.op 102 (by omega) W
     have HHs := zh fun W => qhas12_any x.op 119 (by omega) W
     have HHt := zh fun W => qhas12_any x.op 116 (by omega) W
     have HHr := zh fun W => qhas12_any x.op 114 (by omega) W
     go_upto_region 8 with fail
     clear c5 hpm2
     have HU20 : Hid (Below w1.heap.size w1 wr.drew) := zh HW.out.drew
     refine wp_region_ou (fun W => Below w1.heap.size w1 W) ((.take 0 (.take 1 (.take 3 (.take 4 (.solo 2 (.solo 5 (.take 6 (.take 7 .nil))))))))) (by kernel_rfl) (by kernel_rfl) rfl (by kernel_rfl) HU20.out ?_
     generalize wr.drew = w20 at HU20 ⊢
     iterate 4
      (refine wpOU_step (zO rfl) ?_)
      (first
       | (refine wpOU_skip (by rfl) ?_)
       | (refine wpOU_take (v := ?_) (by rfl) ?_ ?_; rotate_left 1; (intro wx hSx; have hc_0 := C0.out wx hSx; have hc_2 := C2.out wx hSx; have hc_4 := C4.out wx hSx; have hc_5 := C5.out wx hSx; go_simp; try with_reducible rfl)))
      (try simp only [Act.put, zA4, zA5, zA6])
     (refine wpOU_solo (zO rfl) ?_)
     intro K hK
     go_simp
     go_at_call 42
     refine (HHo.out w20).mono ?_
     rintro e w21 ⟨rfl, BB⟩
     have HU21 : Hid (Below w1.heap.size w1 w21) := zh (HU20.out.trans (BB.mono HU20.out.size))
     refine hK.out _ _ HU21.out ?_
     clear hK K
     (try simp only [Act.put, zA4, zA5, zA6])
     (refine wpOU_solo (zO rfl) ?_)
     intro K hK
     go_simp
     go_at_call 42
     refine (HHs.out w21).mono ?_
     rintro e w22 ⟨rfl, BB⟩
     have HU22 : Hid (Below w1.heap.size w1 w22) := zh (HU21.out.trans (BB.mono HU21.out.size))
     refine hK.out _ _ HU22.out ?_
     clear hK K
     (try simp only [Act.put, zA4, zA5, zA6])
     iterate 2
      (refine wpOU_step (zO rfl) ?_)
      (first
       | (refine wpOU_skip (by rfl) ?_)
       | (refine wpOU_take (v := ?_) (by rfl) ?_ ?_; rotate_left 1; (intro wx hSx; have hc_0 := C0.out wx hSx; have hc_2 := C2.out wx hSx; have hc_4 := C4.out wx hSx; have hc_5 := C5.out wx hSx; go_simp; try with_reducible rfl)))
      (try simp only [Act.put, zA4, zA5, zA6])
     refine wpOU_done ?_
     have HUr := HU22
     clear HU20 HU21
     go_upto_region 9 with fail
     (try rw [← List.contains_eq_mem 102 (ltl x.op)])
     (try rw [← List.contains_eq_mem 119 (ltl x.op)])
     go_cut [111] from 48 to 111 (fun bv wx => bv = .bool (badB ((ltl x.op).contains 110) (NM.right x.n.s) (!x.n.s.toList.isEmpty) ((ltl x.op).contains 102) ((ltl x.op).contains 119) ((ltl x.op).contains 112) x.ws.length i) ∧ Hid (Below w1.heap.size w1 wx))
     case first =>
      have HRT := zh (refRight_any x.n.s)
      clear HRB2
      (try rw [← List.contains_eq_mem 102 (ltl x.op)])
      (try rw [← List.contains_eq_mem 119 (ltl x.op)])
      generalize (ltl x.op).contains 110 = a at *
      generalize (ltl x.op).contains 112 = c at *
      generalize (ltl x.op).contains 102 = o at *
      generalize (ltl x.op).contains 119 = s at *
      generalize NM.right x.n.s = r at *
      generalize hne : (!x.n.s.toList.isEmpty) = ne at *
      generalize x.ws.length = n at *
      have HU10 : Hid (Below w1.heap.size w1 w22.drew) := zh HUr.out.drew
      refine wp_region_ou (fun W => Below w1.heap.size w1 W) ((.take 0 (.take 1 (.take 3 (.take 4 (.take 5 (.solo 2 (.solo 6 (.take 7 (.take 8 (.take 9 (.take 10 (.solo 11 (.take 12 (.take 13 (.take 14 (.take 15 (.take 16 (.take 17 (.take 18 (.take 19 (.take 20 (.take 21 (.take 22 (.take 23 (.take 24 (.take 25 (.take 26 (.take 27 (.take 28 (.take 29 (.take 30 (.take 31 (.take 32 (.take 33 (.take 34 (.take 35 (.take 36 (.take 37 (.take 38 (.take 39 (.take 40 (.take 41 (.take 42 (.take 43 (.take 44 (.take 45 (.take 46 (.take 47 (.take 48 (.take 49 (.take 50 (.take 51 (.take 52 (.take 53 (.take 54 (.solo 55 (.take 56 (.take 57 (.take 58 (.take 59 (.take 60 (.take 61 (.take 62 (.take 63 .nil))))))))))))))))))))))))))))))))))))))))))))))))))))))))))))))))) (by kernel_rfl) (by kernel_rfl) rfl (by kernel_rfl) HU10.out ?_
      generalize w22.drew = w10 at HU10 ⊢
      iterate 5
       (refine wpOU_step (zO rfl) ?_)
       (first
        | (refine wpOU_skip (by rfl) ?_)
        | (refine wpOU_take (v := ?_) (by rfl) ?_ ?_; rotate_left 1; (intro wx hSx; have hc_0 := C0.out wx hSx; have hc_2 := C2.out wx hSx; have hc_4 := C4.out wx hSx; have hc_5 := C5.out wx hSx; go_simp; try with_reducible rfl)))
       (try simp only [Act.put, zA4, zA5, zA6])
      (refine wpOU_solo (zO rfl) ?_)
      intro K hK
      go_simp
      go_at_call 42
      refine (HH1.out w10).mono ?_
      rintro e w11 ⟨rfl, BB⟩
      have HU11 : Hid (Below w1.heap.size w1 w11) := zh (HU10.out.trans (BB.mono HU10.out.size))
      refine hK.out _ _ HU11.out ?_
      clear hK K
      (try simp only [Act.put, zA4, zA5, zA6])
      (refine wpOU_solo (zO rfl) ?_)
      intro K hK
      go_simp
      go_at_call 43
      refine (HRT.out w11).mono ?_
      rintro e w12 ⟨rfl, BD⟩
      have HU12 : Hid (Below w1.heap.size w1 w12) := zh (HU11.out.trans (BD.below.mono HU11.out.size))
      refine hK.out _ _ HU12.out ?_
      clear hK K
      (try simp only [Act.put, zA4, zA5, zA6])
      cases a
      ·cases r
       ·iterate 4
         (refine wpOU_step (zO rfl) ?_)
         (first
          | (refine wpOU_skip (by rfl) ?_)
          | (refine wpOU_take (v := ?_) (by rfl) ?_ ?_; rotate_left 1; (intro wx hSx; have hc_0 := C0.out wx hSx; have hc_2 := C2.out wx hSx; have hc_4 := C4.out wx hSx; have hc_5 := C5.out wx hSx; go_simp; try with_reducible rfl)))
         (try simp only [Act.put, zA4, zA5, zA6])
        (refine wpOU_solo (zO rfl) ?_)
        intro K hK
        go_simp
        go_at_call 42
        refine (HH1.out w12).mono ?_
        rintro e w13 ⟨rfl, BB⟩
        have HU13 : Hid (Below w1.heap.size w1 w13) := zh (HU12.out.trans (BB.mono HU12.out.size))
        refine hK.out _ _ HU13.out ?_
        clear hK K
        (try simp only [Act.put, zA4, zA5, zA6])
        iterate 6
         (refine wpOU_step (zO rfl) ?_)
         (first
          | (refine wpOU_skip (by rfl) ?_)
          | (refine wpOU_take (v := ?_) (by rfl) ?_ ?_; rotate_left 1; (intro wx hSx; have hc_0 := C0.out wx hSx; have hc_2 := C2.out wx hSx; have hc_4 := C4.out wx hSx; have hc_5 := C5.out wx hSx; go_simp; try with_reducible rfl)))
         (try simp only [Act.put, zA4, zA5, zA6])
        (try simp only [hne])
        cases ne
        ·iterate 3
             (refine wpOU_step (zO rfl) ?_)
             (first
                | (refine wpOU_skip (by rfl) ?_)
                | (refine wpOU_take (v := ?_) (by rfl) ?_ ?_; rotate_left 1; (intro wx hSx; have hc_0 := C0.out wx hSx; have hc_2 := C2.out wx hSx; have hc_4 := C4.out wx hSx; have hc_5 := C5.out wx hSx; go_simp; try with_reducible rfl)))
             (try simp only [Act.put, zA4, zA5, zA6])
         cases o
         ·iterate 9
           (refine wpOU_step (zO rfl) ?_)
           (first
                 | (refine wpOU_skip (by rfl) ?_)
                 | (refine wpOU_take (v := ?_) (by rfl) ?_ ?_; rotate_left 1; (intro wx hSx; have hc_0 := C0.out wx hSx; have hc_2 := C2.out wx hSx; have hc_4 := C4.out wx hSx; have hc_5 := C5.out wx hSx; go_simp; try with_reducible rfl)))
           (try simp only [Act.put, zA4, zA5, zA6])
          cases s
          ·iterate 20
                (refine wpOU_step (zO rfl) ?_)
                (first
                  | (refine wpOU_skip (by rfl) ?_)
                  | (refine wpOU_take (v := ?_) (by rfl) ?_ ?_; rotate_left 1; (intro wx hSx; have hc_0 := C0.out wx hSx; have hc_2 := C2.out wx hSx; have hc_4 := C4.out wx hSx; have hc_5 := C5.out wx hSx; go_simp; try with_reducible rfl)))
                (try simp only [Act.put, zA4, zA5, zA6])
           by_cases hn0 : n = 0
           ·subst hn0
            have e8 : decide ((0 : Int) < ((0 : Nat) : Int)) = false := rfl
            try simp only [e8]
            iterate 5
                 (refine wpOU_step (zO rfl) ?_)
                 (first
                  | (refine wpOU_skip (by rfl) ?_)
                  | (refine wpOU_take (v := ?_) (by rfl) ?_ ?_; rotate_left 1; (intro wx hSx; have hc_0 := C0.out wx hSx; have hc_2 := C2.out wx hSx; have hc_4 := C4.out wx hSx; have hc_5 := C5.out wx hSx; go_simp; try with_reducible rfl)))
                 (try simp only [Act.put, zA4, zA5, zA6])
            (refine wpOU_solo (zO rfl) ?_)
            intro K hK
            go_simp
            go_at_call 42
            refine (HH2.out w13).mono ?_
            rintro e w14 ⟨rfl, BB⟩
            have HU14 : Hid (Below w1.heap.size w1 w14) := zh (HU13.out.trans (BB.mono HU13.out.size))
            refine hK.out _ _ HU14.out ?_
            clear hK K
            (try simp only [Act.put, zA4, zA5, zA6])
            cases c
            ·iterate 8
                  (refine wpOU_step (zO rfl) ?_)
                  (first
                           | (refine wpOU_skip (by rfl) ?_)
                           | (refine wpOU_take (v := ?_) (by rfl) ?_ ?_; rotate_left 1; (intro wx hSx; have hc_0 := C0.out wx hSx; have hc_2 := C2.out wx hSx; have hc_4 := C4.out wx hSx; have hc_5 := C5.out wx hSx; go_simp; try with_reducible rfl)))
                  (try simp only [Act.put, zA4, zA5, zA6])
             refine wpOU_done ?_
             go_wp2
             go_meet
             case rel => exact ⟨by first | rfl | (simp [badB]; done) | (simp [badB]; omega), HU14⟩
            ·iterate 8
                  (refine wpOU_step (zO rfl) ?_)
                  (first
                           | (refine wpOU_skip (by rfl) ?_)
                           | (refine wpOU_take (v := ?_) (by rfl) ?_ ?_; rotate_left 1; (intro wx hSx; have hc_0 := C0.out wx hSx; have hc_2 := C2.out wx hSx; have hc_4 := C4.out wx hSx; have hc_5 := C5.out wx hSx; go_simp; try with_reducible rfl)))
                  (try simp only [Act.put, zA4, zA5, zA6])
             refine wpOU_done ?_
             go_wp2
             go_meet
             case rel => exact ⟨by first | rfl | (simp [badB]; done) | (simp [badB]; omega), HU14⟩
           ·have e8 : decide ((0 : Int) < (n : Int)) = true := zE (by omega)
            have e8b : decide (0 < n) = true := zE (by omega)
            have e8c : decide ((n : Int) > 0) = true := zE (by omega)
            try simp only [e8, e8b, e8c]
            iterate 5
                 (refine wpOU_step (zO rfl) ?_)
                 (first
                   | (refine wpOU_skip (by rfl) ?_)
                   | (refine wpOU_take (v := ?_) (by rfl) ?_ ?_; rotate_left 1; (intro wx hSx; have hc_0 := C0.out wx hSx; have hc_2 := C2.out wx hSx; have hc_4 := C4.out wx hSx; have hc_5 := C5.out wx hSx; go_simp; try with_reducible rfl)))
                 (try simp only [Act.put, zA4, zA5, zA6])
            (refine wpOU_solo (zO rfl) ?_)
            intro K hK
            go_simp
            refine hK.out _ _ HU13.out ?_
            clear hK K
            (try simp only [Act.put, zA4, zA5, zA6])
            iterate 8
                 (refine wpOU_step (zO rfl) ?_)
                 (first
                   | (refine wpOU_skip (by rfl) ?_)
                   | (refine wpOU_take (v := ?_) (by rfl) ?_ ?_; rotate_left 1; (intro wx hSx; have hc_0 := C0.out wx hSx; have hc_2 := C2.out wx hSx; have hc_4 := C4.out wx hSx; have hc_5 := C5.out wx hSx; go_simp; try with_reducible rfl)))
                 (try simp only [Act.put, zA4, zA5, zA6])
            refine wpOU_done ?_
            go_wp2
            go_meet
            case rel => exact ⟨by first | rfl | (simp [badB, e8b]; done) | (simp [badB, e8b]; omega), HU13⟩
          ·iterate 6
                (refine wpOU_step (zO rfl) ?_)
                (first
                  | (refine wpOU_skip (by rfl) ?_)
                  | (refine wpOU_take (v := ?_) (by rfl) ?_ ?_; rotate_left 1; (intro wx hSx; have hc_0 := C0.out wx hSx; have hc_2 := C2.out wx hSx; have hc_4 := C4.out wx hSx; have hc_5 := C5.out wx hSx; go_simp; try with_reducible rfl)))
                (try simp only [Act.put, zA4, zA5, zA6])
           by_cases hn0 : n = 0
           ·subst hn0
            have e8 : (((0 : Nat) : Int) == 0) = true := rfl
            try simp only [e8]
            iterate 19
                 (refine wpOU_step (zO rfl) ?_)
                 (first
                  | (refine wpOU_skip (by rfl) ?_)
                  | (refine wpOU_take (v := ?_) (by rfl) ?_ ?_; rotate_left 1; (intro wx hSx; have hc_0 := C0.out wx hSx; have hc_2 := C2.out wx hSx; have hc_4 := C4.out wx hSx; have hc_5 := C5.out wx hSx; go_simp; try with_reducible rfl)))
                 (try simp only [Act.put, zA4, zA5, zA6])
            (refine wpOU_solo (zO rfl) ?_)
            intro K hK
            go_simp
            refine hK.out _ _ HU13.out ?_
            clear hK K
            (try simp only [Act.put, zA4, zA5, zA6])
            iterate 8
                 (refine wpOU_step (zO rfl) ?_)
                 (first
                  | (refine wpOU_skip (by rfl) ?_)
                  | (refine wpOU_take (v := ?_) (by rfl) ?_ ?_; rotate_left 1; (intro wx hSx; have hc_0 := C0.out wx hSx; have hc_2 := C2.out wx hSx; have hc_4 := C4.out wx hSx; have hc_5 := C5.out wx hSx; go_simp; try with_reducible rfl)))
                 (try simp only [Act.put, zA4, zA5, zA6])
            refine wpOU_done ?_
            go_wp2
            go_meet
            case rel => exact ⟨by first | rfl | (simp [badB]; done) | (simp [badB]; omega), HU13⟩
           ·have e8 : ((n : Int) == 0) = false := by simp; omega
            try simp only [e8]
            iterate 19
                 (refine wpOU_step (zO rfl) ?_)
                 (first
                   | (refine wpOU_skip (by rfl) ?_)
                   | (refine wpOU_take (v := ?_) (by rfl) ?_ ?_; rotate_left 1; (intro wx hSx; have hc_0 := C0.out wx hSx; have hc_2 := C2.out wx hSx; have hc_4 := C4.out wx hSx; have hc_5 := C5.out wx hSx; go_simp; try with_reducible rfl)))
                 (try simp only [Act.put, zA4, zA5, zA6])
            (refine wpOU_solo (zO rfl) ?_)
            intro K hK
            go_simp
            go_at_call 42
            refine (HH2.out w13).mono ?_
            rintro e w14 ⟨rfl, BB⟩
            have HU14 : Hid (Below w1.heap.size w1 w14) := zh (HU13.out.trans (BB.mono HU13.out.size))
            refine hK.out _ _ HU14.out ?_
            clear hK K
            (try simp only [Act.put, zA4, zA5, zA6])
            cases c
            ·iterate 8
                  (refine wpOU_step (zO rfl) ?_)
                  (first
                    | (refine wpOU_skip (by rfl) ?_)
                    | (refine wpOU_take (v := ?_) (by rfl) ?_ ?_; rotate_left 1; (intro wx hSx; have hc_0 := C0.out wx hSx; have hc_2 := C2.out wx hSx; have hc_4 := C4.out wx hSx; have hc_5 := C5.out wx hSx; go_simp; try with_reducible rfl)))
                  (try simp only [Act.put, zA4, zA5, zA6])
             refine wpOU_done ?_
             go_wp2
             go_meet
             case rel => exact ⟨by first | rfl | (simp [badB, hn0]; done) | (simp [badB, hn0]; omega), HU14⟩
            ·iterate 8
                  (refine wpOU_step (zO rfl) ?_)
                  (first
                    | (refine wpOU_skip (by rfl) ?_)
                    | (refine wpOU_take (v := ?_) (by rfl) ?_ ?_; rotate_left 1; (intro wx hSx; have hc_0 := C0.out wx hSx; have hc_2 := C2.out wx hSx; have hc_4 := C4.out wx hSx; have hc_5 := C5.out wx hSx; go_simp; try with_reducible rfl)))
                  (try simp only [Act.put, zA4, zA5, zA6])
             refine wpOU_done ?_
             go_wp2
             go_meet
             case rel => exact ⟨by first | rfl | (simp [badB, hn0]; done) | (simp [badB, hn0]; omega), HU14⟩
         ·iterate 6
           (refine wpOU_step (zO rfl) ?_)
           (first
                 | (refine wpOU_skip (by rfl) ?_)
                 | (refine wpOU_take (v := ?_) (by rfl) ?_ ?_; rotate_left 1; (intro wx hSx; have hc_0 := C0.out wx hSx; have hc_2 := C2.out wx hSx; have hc_4 := C4.out wx hSx; have hc_5 := C5.out wx hSx; go_simp; try with_reducible rfl)))
           (try simp only [Act.put, zA4, zA5, zA6])
          by_cases hn1 : n = 1
          ·subst hn1
           have e9 : (((1 : Nat) : Int) != 1) = false := rfl
           try simp only [e9]
           iterate 3
                (refine wpOU_step (zO rfl) ?_)
                (first
                 | (refine wpOU_skip (by rfl) ?_)
                 | (refine wpOU_take (v := ?_) (by rfl) ?_ ?_; rotate_left 1; (intro wx hSx; have hc_0 := C0.out wx hSx; have hc_2 := C2.out wx hSx; have hc_4 := C4.out wx hSx; have hc_5 := C5.out wx hSx; go_simp; try with_reducible rfl)))
                (try simp only [Act.put, zA4, zA5, zA6])
           cases s
           ·iterate 25
                 (refine wpOU_step (zO rfl) ?_)
                 (first
                  | (refine wpOU_skip (by rfl) ?_)
                  | (refine wpOU_take (v := ?_) (by rfl) ?_ ?_; rotate_left 1; (intro wx hSx; have hc_0 := C0.out wx hSx; have hc_2 := C2.out wx hSx; have hc_4 := C4.out wx hSx; have hc_5 := C5.out wx hSx; go_simp; try with_reducible rfl)))
                 (try simp only [Act.put, zA4, zA5, zA6])
            (refine wpOU_solo (zO rfl) ?_)
            intro K hK
            go_simp
            go_at_call 42
            refine (HH2.out w13).mono ?_
            rintro e w14 ⟨rfl, BB⟩
            have HU14 : Hid (Below w1.heap.size w1 w14) := zh (HU13.out.trans (BB.mono HU13.out.size))
            refine hK.out _ _ HU14.out ?_
            clear hK K
            (try simp only [Act.put, zA4, zA5, zA6])
            cases c
            ·iterate 8
                 (refine wpOU_step (zO rfl) ?_)
                 (first
                    | (refine wpOU_skip (by rfl) ?_)
                    | (refine wpOU_take (v := ?_) (by rfl) ?_ ?_; rotate_left 1; (intro wx hSx; have hc_0 := C0.out wx hSx; have hc_2 := C2.out wx hSx; have hc_4 := C4.out wx hSx; have hc_5 := C5.out wx hSx; go_simp; try with_reducible rfl)))
                 (try simp only [Act.put, zA4, zA5, zA6])
             refine wpOU_done ?_
             go_wp2
             go_meet
             case rel => exact ⟨by first | rfl | (simp [badB]; done) | (simp [badB]; omega), HU14⟩
            ·iterate 8
                 (refine wpOU_step (zO rfl) ?_)
                 (first
                    | (refine wpOU_skip (by rfl) ?_)
                    | (refine wpOU_take (v := ?_) (by rfl) ?_ ?_; rotate_left 1; (intro wx hSx; have hc_0 := C0.out wx hSx; have hc_2 := C2.out wx hSx; have hc_4 := C4.out wx hSx; have hc_5 := C5.out wx hSx; go_simp; try with_reducible rfl)))
                 (try simp only [Act.put, zA4, zA5, zA6])
             refine wpOU_done ?_
             go_wp2
             go_meet
             case rel => exact ⟨by first | rfl | (simp [badB]; done) | (simp [badB]; omega), HU14⟩
           ·iterate 6
                 (refine wpOU_step (zO rfl) ?_)
                 (first
                  | (refine wpOU_skip (by rfl) ?_)
                  | (refine wpOU_take (v := ?_) (by rfl) ?_ ?_; rotate_left 1; (intro wx hSx; have hc_0 := C0.out wx hSx; have hc_2 := C2.out wx hSx; have hc_4 := C4.out wx hSx; have hc_5 := C5.out wx hSx; go_simp; try with_reducible rfl)))
                 (try simp only [Act.put, zA4, zA5, zA6])
            have e8 : (((1 : Nat) : Int) == 0) = false := rfl
            try simp only [e8]
            iterate 19
                 (refine wpOU_step (zO rfl) ?_)
                 (first
                  | (refine wpOU_skip (by rfl) ?_)
                  | (refine wpOU_take (v := ?_) (by rfl) ?_ ?_; rotate_left 1; (intro wx hSx; have hc_0 := C0.out wx hSx; have hc_2 := C2.out wx hSx; have hc_4 := C4.out wx hSx; have hc_5 := C5.out wx hSx; go_simp; try with_reducible rfl)))
                 (try simp only [Act.put, zA4, zA5, zA6])
            (refine wpOU_solo (zO rfl) ?_)
            intro K hK
            go_simp
            go_at_call 42
            refine (HH2.out w13).mono ?_
            rintro e w14 ⟨rfl, BB⟩
            have HU14 : Hid (Below w1.heap.size w1 w14) := zh (HU13.out.trans (BB.mono HU13.out.size))
            refine hK.out _ _ HU14.out ?_
            clear hK K
            (try simp only [Act.put, zA4, zA5, zA6])
            cases c
            ·iterate 8
                 (refine wpOU_step (zO rfl) ?_)
                 (first
                    | (refine wpOU_skip (by rfl) ?_)
                    | (refine wpOU_take (v := ?_) (by rfl) ?_ ?_; rotate_left 1; (intro wx hSx; have hc_0 := C0.out wx hSx; have hc_2 := C2.out wx hSx; have hc_4 := C4.out wx hSx; have hc_5 := C5.out wx hSx; go_simp; try with_reducible rfl)))
                 (try simp only [Act.put, zA4, zA5, zA6])
             refine wpOU_done ?_
             go_wp2
             go_meet
             case rel => exact ⟨by first | rfl | (simp [badB]; done) | (simp [badB]; omega), HU14⟩
            ·iterate 8
                 (refine wpOU_step (zO rfl) ?_)
                 (first
                    | (refine wpOU_skip (by rfl) ?_)
                    | (refine wpOU_take (v := ?_) (by rfl) ?_ ?_; rotate_left 1; (intro wx hSx; have hc_0 := C0.out wx hSx; have hc_2 := C2.out wx hSx; have hc_4 := C4.out wx hSx; have hc_5 := C5.out wx hSx; go_simp; try with_reducible rfl)))
                 (try simp only [Act.put, zA4, zA5, zA6])
             refine wpOU_done ?_
             go_wp2
             go_meet
             case rel => exact ⟨by first | rfl | (simp [badB]; done) | (simp [badB]; omega), HU14⟩
          ·have e9 : ((n : Int) != 1) = true := by simp; omega
           try simp only [e9]
           iterate 28
                (refine wpOU_step (zO rfl) ?_)
                (first
                  | (refine wpOU_skip (by rfl) ?_)
                  | (refine wpOU_take (v := ?_) (by rfl) ?_ ?_; rotate_left 1; (intro wx hSx; have hc_0 := C0.out wx hSx; have hc_2 := C2.out wx hSx; have hc_4 := C4.out wx hSx; have hc_5 := C5.out wx hSx; go_simp; try with_reducible rfl)))
                (try simp only [Act.put, zA4, zA5, zA6])
           (refine wpOU_solo (zO rfl) ?_)
           intro K hK
           go_simp
           refine hK.out _ _ HU13.out ?_
           clear hK K
           (try simp only [Act.put, zA4, zA5, zA6])
           iterate 8
                (refine wpOU_step (zO rfl) ?_)
                (first
                  | (refine wpOU_skip (by rfl) ?_)
                  | (refine wpOU_take (v := ?_) (by rfl) ?_ ?_; rotate_left 1; (intro wx hSx; have hc_0 := C0.out wx hSx; have hc_2 := C2.out wx hSx; have hc_4 := C4.out wx hSx; have hc_5 := C5.out wx hSx; go_simp; try with_reducible rfl)))
                (try simp only [Act.put, zA4, zA5, zA6])
           refine wpOU_done ?_
           go_wp2
           go_meet
           case rel => exact ⟨by first | rfl | (simp [badB, hn1]; done) | (simp [badB, hn1]; omega), HU13⟩
        ·iterate 37
             (refine wpOU_step (zO rfl) ?_)
             (first
                | (refine wpOU_skip (by rfl) ?_)
                | (refine wpOU_take (v := ?_) (by rfl) ?_ ?_; rotate_left 1; (intro wx hSx; have hc_0 := C0.out wx hSx; have hc_2 := C2.out wx hSx; have hc_4 := C4.out wx hSx; have hc_5 := C5.out wx hSx; go_simp; try with_reducible rfl)))
             (try simp only [Act.put, zA4, zA5, zA6])
         (refine wpOU_solo (zO rfl) ?_)
         intro K hK
         go_simp
         refine hK.out _ _ HU13.out ?_
         clear hK K
         (try simp only [Act.put, zA4, zA5, zA6])
         iterate 8
             (refine wpOU_step (zO rfl) ?_)
             (first
                | (refine wpOU_skip (by rfl) ?_)
                | (refine wpOU_take (v := ?_) (by rfl) ?_ ?_; rotate_left 1; (intro wx hSx; have hc_0 := C0.out wx hSx; have hc_2 := C2.out wx hSx; have hc_4 := C4.out wx hSx; have hc_5 := C5.out wx hSx; go_simp; try with_reducible rfl)))
             (try simp only [Act.put, zA4, zA5, zA6])
         refine wpOU_done ?_
         go_wp2
         go_meet
         case rel => exact ⟨by first | rfl | (simp [badB]; done) | (simp [badB]; omega), HU13⟩
       ·iterate 4
         (refine wpOU_step (zO rfl) ?_)
         (first
          | (refine wpOU_skip (by rfl) ?_)
          | (refine wpOU_take (v := ?_) (by rfl) ?_ ?_; rotate_left 1; (intro wx hSx; have hc_0 := C0.out wx hSx; have hc_2 := C2.out wx hSx; have hc_4 := C4.out wx hSx; have hc_5 := C5.out wx hSx; go_simp; try with_reducible rfl)))
         (try simp only [Act.put, zA4, zA5, zA6])
        (refine wpOU_solo (zO rfl) ?_)
        intro K hK
        go_simp
        refine hK.out _ _ HU12.out ?_
        clear hK K
        (try simp only [Act.put, zA4, zA5, zA6])
        iterate 43
         (refine wpOU_step (zO rfl) ?_)
         (first
          | (refine wpOU_skip (by rfl) ?_)
          | (refine wpOU_take (v := ?_) (by rfl) ?_ ?_; rotate_left 1; (intro wx hSx; have hc_0 := C0.out wx hSx; have hc_2 := C2.out wx hSx; have hc_4 := C4.out wx hSx; have hc_5 := C5.out wx hSx; go_simp; try with_reducible rfl)))
         (try simp only [Act.put, zA4, zA5, zA6])
        (refine wpOU_solo (zO rfl) ?_)
        intro K hK
        go_simp
        refine hK.out _ _ HU12.out ?_
        clear hK K
        (try simp only [Act.put, zA4, zA5, zA6])
        iterate 8
         (refine wpOU_step (zO rfl) ?_)
         (first
          | (refine wpOU_skip (by rfl) ?_)
          | (refine wpOU_take (v := ?_) (by rfl) ?_ ?_; rotate_left 1; (intro wx hSx; have hc_0 := C0.out wx hSx; have hc_2 := C2.out wx hSx; have hc_4 := C4.out wx hSx; have hc_5 := C5.out wx hSx; go_simp; try with_reducible rfl)))
         (try simp only [Act.put, zA4, zA5, zA6])
        refine wpOU_done ?_
        go_wp2
        go_meet
        case rel => exact ⟨by first | rfl | (simp [badB]; done) | (simp [badB]; omega), HU12⟩
      ·cases r
       ·iterate 4
         (refine wpOU_step (zO rfl) ?_)
         (first
          | (refine wpOU_skip (by rfl) ?_)
          | (refine wpOU_take (v := ?_) (by rfl) ?_ ?_; rotate_left 1; (intro wx hSx; have hc_0 := C0.out wx hSx; have hc_2 := C2.out wx hSx; have hc_4 := C4.out wx hSx; have hc_5 := C5.out wx hSx; go_simp; try with_reducible rfl)))
         (try simp only [Act.put, zA4, zA5, zA6])
        (refine wpOU_solo (zO rfl) ?_)
        intro K hK
        go_simp
        refine hK.out _ _ HU12.out ?_
        clear hK K
        (try simp only [Act.put, zA4, zA5, zA6])
        iterate 43
         (refine wpOU_step (zO rfl) ?_)
         (first
          | (refine wpOU_skip (by rfl) ?_)
          | (refine wpOU_take (v := ?_) (by rfl) ?_ ?_; rotate_left 1; (intro wx hSx; have hc_0 := C0.out wx hSx; have hc_2 := C2.out wx hSx; have hc_4 := C4.out wx hSx; have hc_5 := C5.out wx hSx; go_simp; try with_reducible rfl)))
         (try simp only [Act.put, zA4, zA5, zA6])
        (refine wpOU_solo (zO rfl) ?_)
        intro K hK
        go_simp
        refine hK.out _ _ HU12.out ?_
        clear hK K
        (try simp only [Act.put, zA4, zA5, zA6])
        iterate 8
         (refine wpOU_step (zO rfl) ?_)
         (first
          | (refine wpOU_skip (by rfl) ?_)
          | (refine wpOU_take (v := ?_) (by rfl) ?_ ?_; rotate_left 1; (intro wx hSx; have hc_0 := C0.out wx hSx; have hc_2 := C2.out wx hSx; have hc_4 := C4.out wx hSx; have hc_5 := C5.out wx hSx; go_simp; try with_reducible rfl)))
         (try simp only [Act.put, zA4, zA5, zA6])
        refine wpOU_done ?_
        go_wp2
        go_meet
        case rel => exact ⟨by first | rfl | (simp [badB]; done) | (simp [badB]; omega), HU12⟩
       ·iterate 4
         (refine wpOU_step (zO rfl) ?_)
         (first
          | (refine wpOU_skip (by rfl) ?_)
          | (refine wpOU_take (v := ?_) (by rfl) ?_ ?_; rotate_left 1; (intro wx hSx; have hc_0 := C0.out wx hSx; have hc_2 := C2.out wx hSx; have hc_4 := C4.out wx hSx; have hc_5 := C5.out wx hSx; go_simp; try with_reducible rfl)))
         (try simp only [Act.put, zA4, zA5, zA6])
        (refine wpOU_solo (zO rfl) ?_)
        intro K hK
        go_simp
        go_at_call 42
        refine (HH1.out w12).mono ?_
        rintro e w13 ⟨rfl, BB⟩
        have HU13 : Hid (Below w1.heap.size w1 w13) := zh (HU12.out.trans (BB.mono HU12.out.size))
        refine hK.out _ _ HU13.out ?_
        clear hK K
        (try simp only [Act.put, zA4, zA5, zA6])
        iterate 9
         (refine wpOU_step (zO rfl) ?_)
         (first
          | (refine wpOU_skip (by rfl) ?_)
          | (refine wpOU_take (v := ?_) (by rfl) ?_ ?_; rotate_left 1; (intro wx hSx; have hc_0 := C0.out wx hSx; have hc_2 := C2.out wx hSx; have hc_4 := C4.out wx hSx; have hc_5 := C5.out wx hSx; go_simp; try with_reducible rfl)))
         (try simp only [Act.put, zA4, zA5, zA6])
        cases o
        ·iterate 9
             (refine wpOU_step (zO rfl) ?_)
             (first
                | (refine wpOU_skip (by rfl) ?_)
                | (refine wpOU_take (v := ?_) (by rfl) ?_ ?_; rotate_left 1; (intro wx hSx; have hc_0 := C0.out wx hSx; have hc_2 := C2.out wx hSx; have hc_4 := C4.out wx hSx; have hc_5 := C5.out wx hSx; go_simp; try with_reducible rfl)))
             (try simp only [Act.put, zA4, zA5, zA6])
         cases s
         ·iterate 20
           (refine wpOU_step (zO rfl) ?_)
           (first
                 | (refine wpOU_skip (by rfl) ?_)
                 | (refine wpOU_take (v := ?_) (by rfl) ?_ ?_; rotate_left 1; (intro wx hSx; have hc_0 := C0.out wx hSx; have hc_2 := C2.out wx hSx; have hc_4 := C4.out wx hSx; have hc_5 := C5.out wx hSx; go_simp; try with_reducible rfl)))
           (try simp only [Act.put, zA4, zA5, zA6])
          by_cases hn0 : n = 0
          ·subst hn0
           have e8 : decide ((0 : Int) < ((0 : Nat) : Int)) = false := rfl
           try simp only [e8]
           iterate 5
                (refine wpOU_step (zO rfl) ?_)
                (first
                 | (refine wpOU_skip (by rfl) ?_)
                 | (refine wpOU_take (v := ?_) (by rfl) ?_ ?_; rotate_left 1; (intro wx hSx; have hc_0 := C0.out wx hSx; have hc_2 := C2.out wx hSx; have hc_4 := C4.out wx hSx; have hc_5 := C5.out wx hSx; go_simp; try with_reducible rfl)))
                (try simp only [Act.put, zA4, zA5, zA6])
           (refine wpOU_solo (zO rfl) ?_)
           intro K hK
           go_simp
           go_at_call 42
           refine (HH2.out w13).mono ?_
           rintro e w14 ⟨rfl, BB⟩
           have HU14 : Hid (Below w1.heap.size w1 w14) := zh (HU13.out.trans (BB.mono HU13.out.size))
           refine hK.out _ _ HU14.out ?_
           clear hK K
           (try simp only [Act.put, zA4, zA5, zA6])
           cases c
           ·iterate 8
                 (refine wpOU_step (zO rfl) ?_)
                 (first
                  | (refine wpOU_skip (by rfl) ?_)
                  | (refine wpOU_take (v := ?_) (by rfl) ?_ ?_; rotate_left 1; (intro wx hSx; have hc_0 := C0.out wx hSx; have hc_2 := C2.out wx hSx; have hc_4 := C4.out wx hSx; have hc_5 := C5.out wx hSx; go_simp; try with_reducible rfl)))
                 (try simp only [Act.put, zA4, zA5, zA6])
            refine wpOU_done ?_
            go_wp2
            go_meet
            case rel => exact ⟨by first | rfl | (simp [badB]; done) | (simp [badB]; omega), HU14⟩
           ·iterate 8
                 (refine wpOU_step (zO rfl) ?_)
                 (first
                  | (refine wpOU_skip (by rfl) ?_)
                  | (refine wpOU_take (v := ?_) (by rfl) ?_ ?_; rotate_left 1; (intro wx hSx; have hc_0 := C0.out wx hSx; have hc_2 := C2.out wx hSx; have hc_4 := C4.out wx hSx; have hc_5 := C5.out wx hSx; go_simp; try with_reducible rfl)))
                 (try simp only [Act.put, zA4, zA5, zA6])
            refine wpOU_done ?_
            go_wp2
            go_meet
            case rel => exact ⟨by first | rfl | (simp [badB]; done) | (simp [badB]; omega), HU14⟩
          ·have e8 : decide ((0 : Int) < (n : Int)) = true := zE (by omega)
           have e8b : decide (0 < n) = true := zE (by omega)
           have e8c : decide ((n : Int) > 0) = true := zE (by omega)
           try simp only [e8, e8b, e8c]
           iterate 5
                (refine wpOU_step (zO rfl) ?_)
                (first
                  | (refine wpOU_skip (by rfl) ?_)
                  | (refine wpOU_take (v := ?_) (by rfl) ?_ ?_; rotate_left 1; (intro wx hSx; have hc_0 := C0.out wx hSx; have hc_2 := C2.out wx hSx; have hc_4 := C4.out wx hSx; have hc_5 := C5.out wx hSx; go_simp; try with_reducible rfl)))
                (try simp only [Act.put, zA4, zA5, zA6])
           (refine wpOU_solo (zO rfl) ?_)
           intro K hK
           go_simp
           refine hK.out _ _ HU13.out ?_
           clear hK K
           (try simp only [Act.put, zA4, zA5, zA6])
           iterate 8
                (refine wpOU_step (zO rfl) ?_)
                (first
                  | (refine wpOU_skip (by rfl) ?_)
                  | (refine wpOU_take (v := ?_) (by rfl) ?_ ?_; rotate_left 1; (intro wx hSx; have hc_0 := C0.out wx hSx; have hc_2 := C2.out wx hSx; have hc_4 := C4.out wx hSx; have hc_5 := C5.out wx hSx; go_simp; try with_reducible rfl)))
                (try simp only [Act.put, zA4, zA5, zA6])
           refine wpOU_done ?_
           go_wp2
           go_meet
           case rel => exact ⟨by first | rfl | (simp [badB, e8b]; done) | (simp [badB, e8b]; omega), HU13⟩
         ·iterate 6
           (refine wpOU_step (zO rfl) ?_)
           (first
                 | (refine wpOU_skip (by rfl) ?_)
                 | (refine wpOU_take (v := ?_) (by rfl) ?_ ?_; rotate_left 1; (intro wx hSx; have hc_0 := C0.out wx hSx; have hc_2 := C2.out wx hSx; have hc_4 := C4.out wx hSx; have hc_5 := C5.out wx hSx; go_simp; try with_reducible rfl)))
           (try simp only [Act.put, zA4, zA5, zA6])
          by_cases hn0 : n = 0
          ·subst hn0
           have e8 : (((0 : Nat) : Int) == 0) = true := rfl
           try simp only [e8]
           iterate 19
                (refine wpOU_step (zO rfl) ?_)
                (first
                 | (refine wpOU_skip (by rfl) ?_)
                 | (refine wpOU_take (v := ?_) (by rfl) ?_ ?_; rotate_left 1; (intro wx hSx; have hc_0 := C0.out wx hSx; have hc_2 := C2.out wx hSx; have hc_4 := C4.out wx hSx; have hc_5 := C5.out wx hSx; go_simp; try with_reducible rfl)))
                (try simp only [Act.put, zA4, zA5, zA6])
           (refine wpOU_solo (zO rfl) ?_)
           intro K hK
           go_simp
           refine hK.out _ _ HU13.out ?_
           clear hK K
           (try simp only [Act.put, zA4, zA5, zA6])
           iterate 8
                (refine wpOU_step (zO rfl) ?_)
                (first
                 | (refine wpOU_skip (by rfl) ?_)
                 | (refine wpOU_take (v := ?_) (by rfl) ?_ ?_; rotate_left 1; (intro wx hSx; have hc_0 := C0.out wx hSx; have hc_2 := C2.out wx hSx; have hc_4 := C4.out wx hSx; have hc_5 := C5.out wx hSx; go_simp; try with_reducible rfl)))
                (try simp only [Act.put, zA4, zA5, zA6])
           refine wpOU_done ?_
           go_wp2
           go_meet
           case rel => exact ⟨by first | rfl | (simp [badB]; done) | (simp [badB]; omega), HU13⟩
          ·have e8 : ((n : Int) == 0) = false := by simp; omega
           try simp only [e8]
           iterate 19
                (refine wpOU_step (zO rfl) ?_)
                (first
                  | (refine wpOU_skip (by rfl) ?_)
                  | (refine wpOU_take (v := ?_) (by rfl) ?_ ?_; rotate_left 1; (intro wx hSx; have hc_0 := C0.out wx hSx; have hc_2 := C2.out wx hSx; have hc_4 := C4.out wx hSx; have hc_5 := C5.out wx hSx; go_simp; try with_reducible rfl)))
                (try simp only [Act.put, zA4, zA5, zA6])
           (refine wpOU_solo (zO rfl) ?_)
           intro K hK
           go_simp
           go_at_call 42
           refine (HH2.out w13).mono ?_
           rintro e w14 ⟨rfl, BB⟩
           have HU14 : Hid (Below w1.heap.size w1 w14) := zh (HU13.out.trans (BB.mono HU13.out.size))
           refine hK.out _ _ HU14.out ?_
           clear hK K
           (try simp only [Act.put, zA4, zA5, zA6])
           cases c
           ·iterate 8
                 (refine wpOU_step (zO rfl) ?_)
                 (first
                   | (refine wpOU_skip (by rfl) ?_)
                   | (refine wpOU_take (v := ?_) (by rfl) ?_ ?_; rotate_left 1; (intro wx hSx; have hc_0 := C0.out wx hSx; have hc_2 := C2.out wx hSx; have hc_4 := C4.out wx hSx; have hc_5 := C5.out wx hSx; go_simp; try with_reducible rfl)))
                 (try simp only [Act.put, zA4, zA5, zA6])
            refine wpOU_done ?_
            go_wp2
            go_meet
            case rel => exact ⟨by first | rfl | (simp [badB, hn0]; done) | (simp [badB, hn0]; omega), HU14⟩
           ·iterate 8
                 (refine wpOU_step (zO rfl) ?_)
                 (first
                   | (refine wpOU_skip (by rfl) ?_)
                   | (refine wpOU_take (v := ?_) (by rfl) ?_ ?_; rotate_left 1; (intro wx hSx; have hc_0 := C0.out wx hSx; have hc_2 := C2.out wx hSx; have hc_4 := C4.out wx hSx; have hc_5 := C5.out wx hSx; go_simp; try with_reducible rfl)))
                 (try simp only [Act.put, zA4, zA5, zA6])
            refine wpOU_done ?_
            go_wp2
            go_meet
            case rel => exact ⟨by first | rfl | (simp [badB, hn0]; done) | (simp [badB, hn0]; omega), HU14⟩
        ·iterate 6
             (refine wpOU_step (zO rfl) ?_)
             (first
                | (refine wpOU_skip (by rfl) ?_)
                | (refine wpOU_take (v := ?_) (by rfl) ?_ ?_; rotate_left 1; (intro wx hSx; have hc_0 := C0.out wx hSx; have hc_2 := C2.out wx hSx; have hc_4 := C4.out wx hSx; have hc_5 := C5.out wx hSx; go_simp; try with_reducible rfl)))
             (try simp only [Act.put, zA4, zA5, zA6])
         by_cases hn1 : n = 1
         ·subst hn1
          have e9 : (((1 : Nat) : Int) != 1) = false := rfl
          try simp only [e9]
          iterate 3
           (refine wpOU_step (zO rfl) ?_)
           (first
                | (refine wpOU_skip (by rfl) ?_)
                | (refine wpOU_take (v := ?_) (by rfl) ?_ ?_; rotate_left 1; (intro wx hSx; have hc_0 := C0.out wx hSx; have hc_2 := C2.out wx hSx; have hc_4 := C4.out wx hSx; have hc_5 := C5.out wx hSx; go_simp; try with_reducible rfl)))
           (try simp only [Act.put, zA4, zA5, zA6])
          cases s
          ·iterate 25
                (refine wpOU_step (zO rfl) ?_)
                (first
                          | (refine wpOU_skip (by rfl) ?_)
                          | (refine wpOU_take (v := ?_) (by rfl) ?_ ?_; rotate_left 1; (intro wx hSx; have hc_0 := C0.out wx hSx; have hc_2 := C2.out wx hSx; have hc_4 := C4.out wx hSx; have hc_5 := C5.out wx hSx; go_simp; try with_reducible rfl)))
                (try simp only [Act.put, zA4, zA5, zA6])
           (refine wpOU_solo (zO rfl) ?_)
           intro K hK
           go_simp
           go_at_call 42
           refine (HH2.out w13).mono ?_
           rintro e w14 ⟨rfl, BB⟩
           have HU14 : Hid (Below w1.heap.size w1 w14) := zh (HU13.out.trans (BB.mono HU13.out.size))
           refine hK.out _ _ HU14.out ?_
           clear hK K
           (try simp only [Act.put, zA4, zA5, zA6])
           cases c
           ·iterate 8
                (refine wpOU_step (zO rfl) ?_)
                (first
                   | (refine wpOU_skip (by rfl) ?_)
                   | (refine wpOU_take (v := ?_) (by rfl) ?_ ?_; rotate_left 1; (intro wx hSx; have hc_0 := C0.out wx hSx; have hc_2 := C2.out wx hSx; have hc_4 := C4.out wx hSx; have hc_5 := C5.out wx hSx; go_simp; try with_reducible rfl)))
                (try simp only [Act.put, zA4, zA5, zA6])
            refine wpOU_done ?_
            go_wp2
            go_meet
            case rel => exact ⟨by first | rfl | (simp [badB]; done) | (simp [badB]; omega), HU14⟩
           ·iterate 8
                (refine wpOU_step (zO rfl) ?_)
                (first
                   | (refine wpOU_skip (by rfl) ?_)
                   | (refine wpOU_take (v := ?_) (by rfl) ?_ ?_; rotate_left 1; (intro wx hSx; have hc_0 := C0.out wx hSx; have hc_2 := C2.out wx hSx; have hc_4 := C4.out wx hSx; have hc_5 := C5.out wx hSx; go_simp; try with_reducible rfl)))
                (try simp only [Act.put, zA4, zA5, zA6])
            refine wpOU_done ?_
            go_wp2
            go_meet
            case rel => exact ⟨by first | rfl | (simp [badB]; done) | (simp [badB]; omega), HU14⟩
          ·iterate 6
                (refine wpOU_step (zO rfl) ?_)
                (first
                          | (refine wpOU_skip (by rfl) ?_)
                          | (refine wpOU_take (v := ?_) (by rfl) ?_ ?_; rotate_left 1; (intro wx hSx; have hc_0 := C0.out wx hSx; have hc_2 := C2.out wx hSx; have hc_4 := C4.out wx hSx; have hc_5 := C5.out wx hSx; go_simp; try with_reducible rfl)))
                (try simp only [Act.put, zA4, zA5, zA6])
           have e8 : (((1 : Nat) : Int) == 0) = false := rfl
           try simp only [e8]
           iterate 19
                (refine wpOU_step (zO rfl) ?_)
                (first
                          | (refine wpOU_skip (by rfl) ?_)
                          | (refine wpOU_take (v := ?_) (by rfl) ?_ ?_; rotate_left 1; (intro wx hSx; have hc_0 := C0.out wx hSx; have hc_2 := C2.out wx hSx; have hc_4 := C4.out wx hSx; have hc_5 := C5.out wx hSx; go_simp; try with_reducible rfl)))
                (try simp only [Act.put, zA4, zA5, zA6])
           (refine wpOU_solo (zO rfl) ?_)
           intro K hK
           go_simp
           go_at_call 42
           refine (HH2.out w13).mono ?_
           rintro e w14 ⟨rfl, BB⟩
           have HU14 : Hid (Below w1.heap.size w1 w14) := zh (HU13.out.trans (BB.mono HU13.out.size))
           refine hK.out _ _ HU14.out ?_
           clear hK K
           (try simp only [Act.put, zA4, zA5, zA6])
           cases c
           ·iterate 8
                (refine wpOU_step (zO rfl) ?_)
                (first
                   | (refine wpOU_skip (by rfl) ?_)
                   | (refine wpOU_take (v := ?_) (by rfl) ?_ ?_; rotate_left 1; (intro wx hSx; have hc_0 := C0.out wx hSx; have hc_2 := C2.out wx hSx; have hc_4 := C4.out wx hSx; have hc_5 := C5.out wx hSx; go_simp; try with_reducible rfl)))
                (try simp only [Act.put, zA4, zA5, zA6])
            refine wpOU_done ?_
            go_wp2
            go_meet
            case rel => exact ⟨by first | rfl | (simp [badB]; done) | (simp [badB]; omega), HU14⟩
           ·iterate 8
                (refine wpOU_step (zO rfl) ?_)
                (first
                   | (refine wpOU_skip (by rfl) ?_)
                   | (refine wpOU_take (v := ?_) (by rfl) ?_ ?_; rotate_left 1; (intro wx hSx; have hc_0 := C0.out wx hSx; have hc_2 := C2.out wx hSx; have hc_4 := C4.out wx hSx; have hc_5 := C5.out wx hSx; go_simp; try with_reducible rfl)))
                (try simp only [Act.put, zA4, zA5, zA6])
            refine wpOU_done ?_
            go_wp2
            go_meet
            case rel => exact ⟨by first | rfl | (simp [badB]; done) | (simp [badB]; omega), HU14⟩
         ·have e9 : ((n : Int) != 1) = true := by simp; omega
          try simp only [e9]
          iterate 28
           (refine wpOU_step (zO rfl) ?_)
           (first
                 | (refine wpOU_skip (by rfl) ?_)
                 | (refine wpOU_take (v := ?_) (by rfl) ?_ ?_; rotate_left 1; (intro wx hSx; have hc_0 := C0.out wx hSx; have hc_2 := C2.out wx hSx; have hc_4 := C4.out wx hSx; have hc_5 := C5.out wx hSx; go_simp; try with_reducible rfl)))
           (try simp only [Act.put, zA4, zA5, zA6])
          (refine wpOU_solo (zO rfl) ?_)
          intro K hK
          go_simp
          refine hK.out _ _ HU13.out ?_
          clear hK K
          (try simp only [Act.put, zA4, zA5, zA6])
          iterate 8
           (refine wpOU_step (zO rfl) ?_)
           (first
                 | (refine wpOU_skip (by rfl) ?_)
                 | (refine wpOU_take (v := ?_) (by rfl) ?_ ?_; rotate_left 1; (intro wx hSx; have hc_0 := C0.out wx hSx; have hc_2 := C2.out wx hSx; have hc_4 := C4.out wx hSx; have hc_5 := C5.out wx hSx; go_simp; try with_reducible rfl)))
           (try simp only [Act.put, zA4, zA5, zA6])
          refine wpOU_done ?_
          go_wp2
          go_meet
          case rel => exact ⟨by first | rfl | (simp [badB, hn1]; done) | (simp [badB, hn1]; omega), HU13⟩
     case rest =>
      obtain ⟨rfl, HW9⟩ := hcut
      have HLl : Hid (∀ W, Below w1.heap.size w1 W → Calls Tryz.prog 44 #[.agg (nv x.l)] W fun e w' => e = .returned (.bool (fl x.l).l) ∧ Below W.heap.size W w') := zh fun W hW => (is10_any 4294967296 (zL _) x.l HSX.out.2.2.1 W (HX.out W hW).l).2
      have HLr : Hid (∀ W, Below w1.heap.size w1 W → Calls Tryz.prog 44 #[.agg (nv x.r)] W fun e w' => e = .returned (.bool (fl x.r).l) ∧ Below W.heap.size W w') := zh fun W hW => (is10_any 4294967296 (zL _) x.r HSX.out.2.2.2 W (HX.out W hW).r).2
      have HWl : Hid (∀ W, Below w1.heap.size w1 W → Calls Tryz.prog 45 #[.agg (nv x.l)] W fun e w' => e = .returned (.bool (fl x.l).r) ∧ Below W.heap.size W w') := zh fun W hW => isRow10_any x.l HSX.out.2.2.1 W (HX.out W hW).l
      have HWr : Hid (∀ W, Below w1.heap.size w1 W → Calls Tryz.prog 45 #[.agg (nv x.r)] W fun e w' => e = .returned (.bool (fl x.r).r) ∧ Below W.heap.size W w') := zh fun W hW => isRow10_any x.r HSX.out.2.2.2 W (HX.out W hW).r
      have HZl : Hid (∀ W, Below w1.heap.size w1 W → Calls Tryz.prog 46 #[.agg (nv x.l)] W fun e w' => e = .returned (.bool (sm x.l n0)) ∧ Below W.heap.size W w') := zh fun W hW => qzero12_any x.l HSX.out.2.2.1 W (HX.out W hW).l
      have HZr : Hid (∀ W, Below w1.heap.size w1 W → Calls Tryz.prog 46 #[.agg (nv x.r)] W fun e w' => e = .returned (.bool (sm x.r n0)) ∧ Below W.heap.size W w') := zh fun W hW => qzero12_any x.r HSX.out.2.2.2 W (HX.out W hW).r
      have hrb := HRB2.out
      clear HRB2
      unfold lstN at hrb
      generalize badB ((ltl x.op).contains 110) (NM.right x.n.s) (!x.n.s.toList.isEmpty) ((ltl x.op).contains 102) ((ltl x.op).contains 119) ((ltl x.op).contains 112) x.ws.length _ = bb at *
      cases bb with
      | true =>
        have HR : Hid (res = false) := zh (by simpa using hrb)
        go_wp2_with fail
        rw [HR.out] at HQ
        exact HQ.out _ _ ⟨rfl, HB.out.trans (HW9.out.mono HB.out.size)⟩
      | false =>
        rw [Bool.not_false, Bool.true_and] at hrb
        have HRS := zh hrb
        clear hrb HH1 HH2 HHo HHs
        have c0 := C0.out _ HW9.out
        generalize (ltl x.op).contains 116 = t at *
        cases t with
        | true =>
          have hrs := HRS.out
          rw [if_pos rfl] at hrs
          have HRT := zh hrs
          clear hrs HRS
          go_upto_region 12 with (go_at_call 42; refine (HHt.out _).mono ?_; rintro e w4 ⟨rfl, hb⟩; have HW4 := zh (HW9.out.trans (hb.mono HW9.out.size)); clear hb)
          clear c0
          generalize (fl x.l).l = ql at *
          generalize (fl x.r).l = qr at *
          go_wp2_with (first | (refine wpList_ldInC ?hg2 _ _ rfl w.heap.size 7 rfl _ _ (HR1.out _ HW4.out) Tryz.underlying28 rfl (by kernel_rfl) ?hn2; case hg2 => (simp [Region.wanted, yielded]; done)) | fail)
          refine (HLl.out _ HW4.out).mono ?_
          rintro e w5 ⟨rfl, hb⟩
          have HW5 := zh (HW4.out.trans (hb.mono HW4.out.size))
          clear hb
          cases ql
          ·go_wp2_with fail
           rw [HRT.out] at HQ
           exact HQ.out _ _ ⟨rfl, HB.out.trans (HW5.out.mono HB.out.size)⟩
          ·go_wp2_with (first | (refine wpList_ldInC ?hg3 _ _ rfl w.heap.size 12 rfl _ _ (HR2.out _ HW5.out) Tryz.underlying28 rfl (by kernel_rfl) ?hn3; case hg3 => (simp [Region.wanted, yielded]; done)) | fail)
           refine (HLr.out _ HW5.out).mono ?_
           rintro e w6 ⟨rfl, hb⟩
           have HW6 := zh (HW5.out.trans (hb.mono HW5.out.size))
           clear hb
           go_wp2_with fail
           rw [HRT.out] at HQ
           exact HQ.out _ _ ⟨rfl, HB.out.trans (HW6.out.mono HB.out.size)⟩
        | false =>
          have hrs := HRS.out
          rw [if_neg (by decide)] at hrs
          have HRS2 := zh hrs
          clear hrs HRS
          go_upto_region 13 with (go_at_call 42; refine (HHt.out _).mono ?_; rintro e w4 ⟨rfl, hb⟩; have HW4 := zh (HW9.out.trans (hb.mono HW9.out.size)); clear hb)
          clear c0
          have c0 := C0.out _ HW4.out
          generalize (ltl x.op).contains 114 = t at *
          cases t with
          | true =>
            have hrs := HRS2.out
            rw [if_pos rfl] at hrs
            have HRT := zh hrs
            clear hrs HRS2
            go_upto_region 14 with (go_at_call 42; refine (HHr.out _).mono ?_; rintro e w7 ⟨rfl, hb⟩; have HW7 := zh (HW4.out.trans (hb.mono HW4.out.size)); clear hb)
            clear c0
            generalize (fl x.l).r = ql at *
            generalize (fl x.r).r = qr at *
            go_wp2_with (first | (refine wpList_ldInC ?hg4 _ _ rfl w.heap.size 7 rfl _ _ (HR1.out _ HW7.out) Tryz.underlying28 rfl (by kernel_rfl) ?hn4; case hg4 => (simp [Region.wanted, yielded]; done)) | fail)
            refine (HWl.out _ HW7.out).mono ?_
            rintro e w5 ⟨rfl, hb⟩
            have HW5 := zh (HW7.out.trans (hb.mono HW7.out.size))
            clear hb
            cases ql
            ·go_wp2_with fail
             rw [HRT.out] at HQ
             exact HQ.out _ _ ⟨rfl, HB.out.trans (HW5.out.mono HB.out.size)⟩
            ·go_wp2_with (first | (refine wpList_ldInC ?hg5 _ _ rfl w.heap.size 12 rfl _ _ (HR2.out _ HW5.out) Tryz.underlying28 rfl (by kernel_rfl) ?hn5; case hg5 => (simp [Region.wanted, yielded]; done)) | fail)
             refine (HWr.out _ HW5.out).mono ?_
             rintro e w6 ⟨rfl, hb⟩
             have HW6 := zh (HW5.out.trans (hb.mono HW5.out.size))
             clear hb
             go_wp2_with fail
             rw [HRT.out] at HQ
             exact HQ.out _ _ ⟨rfl, HB.out.trans (HW6.out.mono HB.out.size)⟩
          | false =>
            have hrs := HRS2.out
            rw [if_neg (by decide)] at hrs
            have HRT := zh hrs
            clear hrs HRS2
            go_upto_region 15 with (go_at_call 42; refine (HHr.out _).mono ?_; rintro e w7 ⟨rfl, hb⟩; have HW7 := zh (HW4.out.trans (hb.mono HW4.out.size)); clear hb)
            clear c0
            generalize sm x.l n0 = ql at *
            generalize sm x.r n0 = qr at *
            go_wp2_with (first | (refine wpList_ldInC ?hg6 _ _ rfl w.heap.size 7 rfl _ _ (HR1.out _ HW7.out) Tryz.underlying28 rfl (by kernel_rfl) ?hn6; case hg6 => (simp [Region.wanted, yielded]; done)) | fail)
            refine (HZl.out _ HW7.out).mono ?_
            rintro e w5 ⟨rfl, hb⟩
            have HW5 := zh (HW7.out.trans (hb.mono HW7.out.size))
            clear hb
            cases ql
            ·go_wp2_with fail
             rw [HRT.out] at HQ
             exact HQ.out _ _ ⟨rfl, HB.out.trans (HW5.out.mono HB.out.size)⟩
            ·go_wp2_with (first | (refine wpList_ldInC ?hg7 _ _ rfl w.heap.size 12 rfl _ _ (HR2.out _ HW5.out) Tryz.underlying28 rfl (by kernel_rfl) ?hn7; case hg7 => (simp [Region.wanted, yielded]; done)) | fail)
             refine (HZr.out _ HW5.out).mono ?_
             rintro e w6 ⟨rfl, hb⟩
             have HW6 := zh (HW5.out.trans (hb.mono HW5.out.size))
             clear hb
             go_wp2_with fail
             rw [HRT.out] at HQ
             exact HQ.out _ _ ⟨rfl, HB.out.trans (HW6.out.mono HB.out.size)⟩
end
section
open Go.RowKit LX TR TM CM
namespace CM
def ptl (x : Cm) : List (List UInt8) := x.ps.map fun v => lst v.a.s ++ 60 :: lst v.b.s
theorem lts_forms : ∀ k : Fin 16, lts.getD k.val ⟨#[]⟩ = ⟨#[]⟩ ∨ lts.getD k.val ⟨#[]⟩ = ⟨#[110]⟩ ∨ lts.getD k.val ⟨#[]⟩ = ⟨#[110, 119]⟩ ∨ lts.getD k.val ⟨#[]⟩ = ⟨#[110, 119, 112]⟩ ∨ lts.getD k.val ⟨#[]⟩ = ⟨#[110, 116, 116]⟩ ∨ lts.getD k.val ⟨#[]⟩ = ⟨#[110, 114, 114]⟩ ∨ lts.getD k.val ⟨#[]⟩ = ⟨#[110, 102]⟩ := by decide
theorem ltr_formsI (op : Int) : ltr op = ⟨#[]⟩ ∨ ltr op = ⟨#[110]⟩ ∨ ltr op = ⟨#[110, 119]⟩ ∨ ltr op = ⟨#[110, 119, 112]⟩ ∨ ltr op = ⟨#[110, 116, 116]⟩ ∨ ltr op = ⟨#[110, 114, 114]⟩ ∨ ltr op = ⟨#[110, 102]⟩ := by
 by_cases h : 0 ≤ op ∧ op < 16
 ·obtain ⟨k, rfl⟩ := Int.eq_ofNat_of_zero_le h.1
  have hk : k < 16 := by omega
  rw [ltr_in hk]
  exact lts_forms ⟨k, hk⟩
 ·left
  exact ltr_out h
theorem ptl_take (x : Cm) (i : Nat) (hi : i < x.ps.length) : jc ((ptl x).take (i + 1)) = jc ((ptl x).take i) ++ (if 0 < i then 44 :: (lst (x.ps.getD i pw0).a.s ++ 60 :: lst (x.ps.getD i pw0).b.s) else lst (x.ps.getD i pw0).a.s ++ 60 :: lst (x.ps.getD i pw0).b.s) := by
 have hl : (ptl x).length = x.ps.length := List.length_map _
 rw [jc_take (by rw [hl]; exact hi)]
 have e : (ptl x).getD i [] = lst (x.ps.getD i pw0).a.s ++ 60 :: lst (x.ps.getD i pw0).b.s := by
  rw [List.getD_eq_getElem?_getD, List.getD_eq_getElem?_getD, List.getElem?_eq_getElem (by rw [hl]; exact hi), List.getElem?_eq_getElem hi]
  simp [ptl]
 rw [e]
end CM
theorem wpList_stRowC {P : Program} {ops : Array Oper} {rest : List Oper} {o : Oper} {a : Act} {w : World} {Q : Exit → Act → World → Prop} (hgd : Region.wanted o (yielded ops a.tmps) = true) (ty : TypeId) (x y : Operand) (ho : o.op = .store ty x y) (g : Nat) (cells : Array Value) (hx : a.eval x = .pointer (some ⟨g, 0, none⟩)) (hy : a.eval y = .agg cells)
 (t : TypeId) (old : Array Value) (hg : RowAt w g t old) (hi : (P.info? ty).map (·.size) = some cells.size) (hold : old.size = cells.size) (h1 : cells.all (·.oneCell') = true)
 (h : ∀ w', RowAt w' g t cells → Else g w w' → wpList P ops Q rest (a.put o.dst undef) w') : wpList P ops Q (o :: rest) a w :=
 wpList_step fun _ hK => by rw [if_pos hgd]; exact wp_store_row ty x y ho g cells hx hy t old hg hi hold h1 (hK _ _ (h _ (hg.setRow cells) (Else.setRow w g _)))
theorem qtext12_any (x : Cm) (w : World) (hx : CmIn w w.heap.size x) (sx : SmlC x) (hlen : (ctx x).length ≤ 100000000) :
 Calls Tryz.prog 9 #[.agg (cv x)] w fun e w' => e = .returned (.string (ctext x)) ∧ Below w.heap.size w w' := by
 have r0 := RowAt.new w 30 (cv x)
 have hb : Below w.heap.size w (w.alloc (.cells (cv x) 30)) := (zB _ _).alloc (zL _) _
 have HEND : Hid (∀ s : ByteArray, lst s = ctx x → s = ctext x) := zh fun s h => LX.lst_inj h
 have HLEN := zh hlen
 have hctx : ctx x = lst (wrd x.op) ++ ptx x ((lst (ltr x.op)).map (·.toNat)) [x.l, x.r] := rfl
 generalize ctext x = res at *
 clear hlen
 refine cHidC fun Q' hQ => ?_
 have HQ := zh hQ; clear hQ
 go_enter Tryz.func9, Tryz.ntmps9
 go_upto_region 1 with fail
 change Code.wp _ _ _ _ (w.alloc (.cells (cv x) 30))
 generalize w.alloc (.cells (cv x) 30) = w1 at *
 have HB := zh hb
 have HX : Hid (∀ W, Below w1.heap.size w1 W → CmIn W W.heap.size x) := zh fun W h => ((hx.below hb).mono hb.size |>.below h).mono h.size
 have HCELL : Hid (∀ W, Below w1.heap.size w1 W → RowAt W w.heap.size 30 (cv x)) := zh fun W hW => r0.below hW r0.lt
 have HSX := zh sx
 have C0 : Hid (∀ W, Below w1.heap.size w1 W → W.cell? ⟨w.heap.size, 0, none⟩ = some (.int .i64 x.op)) := zh fun W hW => ((HCELL.out W hW).cell 0).trans rfl
 have C2 : Hid (∀ W, Below w1.heap.size w1 W → W.cell? ⟨w.heap.size, 2, none⟩ = some (.string x.n.s)) := zh fun W hW => ((HCELL.out W hW).cell 2).trans rfl
 have C4 : Hid (∀ W, Below w1.heap.size w1 W → W.cell? ⟨w.heap.size, 4, none⟩ = some (.slice x.A x.ws.length x.c)) := zh fun W hW => ((HCELL.out W hW).cell 4).trans rfl
 have C5 : Hid (∀ W, Below w1.heap.size w1 W → W.cell? ⟨w.heap.size, 5, none⟩ = some (.slice x.B x.ps.length x.d)) := zh fun W hW => ((HCELL.out W hW).cell 5).trans rfl
 have HR1 : Hid (∀ W, Below w1.heap.size w1 W → W.rangeAt w.heap.size 7 (ncells x.l)) := zh fun W hW => RowAt.range (HCELL.out W hW) 7 (ncells x.l) (by intro j u hu; match j, hu with | 0, hu => exact hu | 1, hu => exact hu | 2, hu => exact hu | 3, hu => exact hu | 4, hu => exact hu)
 have HR2 : Hid (∀ W, Below w1.heap.size w1 W → W.rangeAt w.heap.size 12 (ncells x.r)) := zh fun W hW => RowAt.range (HCELL.out W hW) 12 (ncells x.r) (by intro j u hu; match j, hu with | 0, hu => exact hu | 1, hu => exact hu | 2, hu => exact hu | 3, hu => exact hu | 4, hu => exact hu)
 have HWO : Hid (∀ W, Below w1.heap.size w1 W → (jc (wtx x.ws)).length ≤ 100000000 → Calls Tryz.prog 29 #[.slice x.A x.ws.length x.c] W fun e w' => (∃ s : ByteArray, e = .returned (.string s) ∧ lst s = jc (wtx x.ws)) ∧ W = w') := zh fun W hW hl => qwords12_any x.A x.c x.ws W (HX.out W hW).ws (zM sx.1 (by decide)) (by omega)
 have HTL : Hid (∀ W, Below w1.heap.size w1 W → (tx x.l).length ≤ 100000000 → Calls Tryz.prog 30 #[.agg (nv x.l)] W fun e w' => (∃ s : ByteArray, e = .returned (.string s) ∧ lst s = tx x.l) ∧ Below W.heap.size W w') := zh fun W hW hl => text10_any 4294967296 (zL _) x.l sx.2.2.1 (by omega) W (HX.out W hW).l
 have HTR : Hid (∀ W, Below w1.heap.size w1 W → (tx x.r).length ≤ 100000000 → Calls Tryz.prog 30 #[.agg (nv x.r)] W fun e w' => (∃ s : ByteArray, e = .returned (.string s) ∧ lst s = tx x.r) ∧ Below W.heap.size W w') := zh fun W hW hl => text10_any 4294967296 (zL _) x.r sx.2.2.2 (by omega) W (HX.out W hW).r
 have HWD := zh (fun W => qword_any x.op W)
 have HLE := zh (fun W => qletters_any x.op W)
 have c0 := C0.out w1 (zB _ _)
 have HPT : Hid (∀ i, i < x.ps.length → jc ((ptl x).take (i + 1)) = jc ((ptl x).take i) ++ (if 0 < i then 44 :: (lst (x.ps.getD i CM.pw0).a.s ++ 60 :: lst (x.ps.getD i CM.pw0).b.s) else lst (x.ps.getD i CM.pw0).a.s ++ 60 :: lst (x.ps.getD i CM.pw0).b.s)) := zh (ptl_take x)
 have HPJ : Hid (∀ i, (jc ((ptl x).take i)).length ≤ (jc (ptl x)).length) := zh fun i => jc_le _ i
 have HPE : Hid (jc ((ptl x).take x.ps.length) = jc (ptl x)) := zh (by rw [show x.ps.length = (ptl x).length from (List.length_map _).symm, List.take_length])
 clear r0 hb hx
 go_upto_region 2 with (go_at_call 15; refine (HWD.out w1).mono ?_; rintro e w2 ⟨rfl, hb2⟩; have HB2 := zh hb2; clear hb2)
 clear c0
 have c0 := C0.out w2 HB2.out
 go_upto_region 3 with (go_at_call 28; refine (HLE.out w2).mono ?_; rintro e w3 ⟨rfl, hb3⟩; have HB3 := zh (HB2.out.trans (hb3.mono HB2.out.size)); clear hb3)
 clear c0 HWD HLE HB2
 generalize wrd x.op = s0 at *
 rcases ltr_formsI x.op with hF | hF | hF | hF | hF | hF | hF
 ·rw [hF] at hctx ⊢
  have hc : ctx x = lst s0 ++ ([]) := hctx
  clear hctx hF
  have hl := HLEN.out
  rw [hc] at hl HEND
  simp only [zA7, zA8, zA9, lst_length] at hl
  clear hc
  go_wp2_with fail
  refine wp_loop_rounds 1 ?_
  rw [rounds_succ]
  go_wp2_with fail
  have e := HEND.out s0 (by simp)
  exact HQ.out _ _ ⟨by rw [← e]; rfl, HB.out.trans (HB3.out.mono HB.out.size)⟩
 ·rw [hF] at hctx ⊢
  have hc : ctx x = lst s0 ++ (32 :: (lst x.n.s ++ ([]))) := hctx
  clear hctx hF
  have hl := HLEN.out
  rw [hc] at hl HEND
  simp only [zA7, zA8, zA9, lst_length] at hl
  clear hc
  go_wp2_with fail
  refine wp_loop_rounds 2 ?_
  rw [rounds_succ]
  have z1 : s0.size + 1 ≤ 140737488355328 := by omega
  go_upto_region 8 with fail
  have y1 : lst (s0 ++ ⟨#[32]⟩) = lst s0 ++ [32] := by rw [lst_app, lst_one]
  have x1 : (s0 ++ (⟨#[32]⟩ : ByteArray)).size = s0.size + 1 := by rw [ByteArray.size_append]; rfl
  generalize s0 ++ (⟨#[32]⟩ : ByteArray) = b1 at *
  clear z1
  have E1b := zh y1
  clear y1
  have c2 := C2.out w3 HB3.out
  have z1 : b1.size + x.n.s.size ≤ 140737488355328 := by omega
  go_upto_region 6 with fail
  have y1 : lst (b1 ++ x.n.s) = lst s0 ++ [32] ++ lst x.n.s := by rw [lst_app, E1b.out]
  have v1 : (b1 ++ x.n.s).size = b1.size + x.n.s.size := ByteArray.size_append
  generalize b1 ++ x.n.s = o1 at *
  clear z1 c2
  have E1 := zh y1
  clear y1 E1b
  go_wp2_with fail
  rw [rounds_succ]
  go_wp2_with fail
  have e := HEND.out o1 (by rw [E1.out]; simp)
  exact HQ.out _ _ ⟨by rw [← e]; rfl, HB.out.trans (HB3.out.mono HB.out.size)⟩
 ·rw [hF] at hctx ⊢
  have hc : ctx x = lst s0 ++ (32 :: (lst x.n.s ++ (32 :: ((123 :: (jc (wtx x.ws) ++ [125])) ++ ([]))))) := hctx
  clear hctx hF
  have hl := HLEN.out
  rw [hc] at hl HEND
  simp only [zA7, zA8, zA9, lst_length] at hl
  clear hc
  go_wp2_with fail
  refine wp_loop_rounds 3 ?_
  rw [rounds_succ]
  have z1 : s0.size + 1 ≤ 140737488355328 := by omega
  go_upto_region 8 with fail
  have y1 : lst (s0 ++ ⟨#[32]⟩) = lst s0 ++ [32] := by rw [lst_app, lst_one]
  have x1 : (s0 ++ (⟨#[32]⟩ : ByteArray)).size = s0.size + 1 := by rw [ByteArray.size_append]; rfl
  generalize s0 ++ (⟨#[32]⟩ : ByteArray) = b1 at *
  clear z1
  have E1b := zh y1
  clear y1
  have c2 := C2.out w3 HB3.out
  have z1 : b1.size + x.n.s.size ≤ 140737488355328 := by omega
  go_upto_region 6 with fail
  have y1 : lst (b1 ++ x.n.s) = lst s0 ++ [32] ++ lst x.n.s := by rw [lst_app, E1b.out]
  have v1 : (b1 ++ x.n.s).size = b1.size + x.n.s.size := ByteArray.size_append
  generalize b1 ++ x.n.s = o1 at *
  clear z1 c2
  have E1 := zh y1
  clear y1 E1b
  go_wp2_with fail
  rw [rounds_succ]
  have z2 : o1.size + 1 ≤ 140737488355328 := by omega
  go_upto_region 8 with fail
  have y2 : lst (o1 ++ ⟨#[32]⟩) = lst s0 ++ [32] ++ lst x.n.s ++ [32] := by rw [lst_app, lst_one, E1.out]
  have x2 : (o1 ++ (⟨#[32]⟩ : ByteArray)).size = o1.size + 1 := by rw [ByteArray.size_append]; rfl
  generalize o1 ++ (⟨#[32]⟩ : ByteArray) = b2 at *
  clear z2
  have E2b := zh y2
  clear y2
  have c4 := C4.out w3 HB3.out
  have HWO2 := zh (HWO.out w3 HB3.out (by omega))
  have z2 : b2.size + 1 ≤ 140737488355328 := by omega
  have r2 : (b2 ++ (⟨#[123]⟩ : ByteArray)).size = b2.size + 1 := by rw [ByteArray.size_append]; rfl
  go_upto_region 6 with (go_at_call 29; refine HWO2.out.mono ?_; rintro e w' ⟨⟨s2, rfl, hs2⟩, rfl⟩; have t2 := lst_size s2 hs2; have z2b : b2.size + 1 + s2.size ≤ 140737488355328 := (by omega); have r2b : (b2 ++ (⟨#[123]⟩ : ByteArray) ++ s2).size = b2.size + 1 + s2.size := (ByteArray.size_append).trans (congrArg (· + s2.size) r2); have z2c : b2.size + 1 + s2.size + 1 ≤ 140737488355328 := by omega)
  have y2 : lst (b2 ++ (⟨#[123]⟩ : ByteArray) ++ s2 ++ (⟨#[125]⟩ : ByteArray)) = lst s0 ++ [32] ++ lst x.n.s ++ [32] ++ (123 :: (jc (wtx x.ws) ++ [125])) := by rw [lst_app, lst_app, lst_app, E2b.out, hs2, lst_one, lst_one]; simp
  have v2 : (b2 ++ (⟨#[123]⟩ : ByteArray) ++ s2 ++ (⟨#[125]⟩ : ByteArray)).size = b2.size + 1 + s2.size + 1 := (ByteArray.size_append).trans (congrArg (· + 1) r2b)
  generalize b2 ++ (⟨#[123]⟩ : ByteArray) ++ s2 ++ (⟨#[125]⟩ : ByteArray) = o2 at *
  clear z2 z2b z2c r2 r2b c4 HWO2
  have E2 := zh y2
  clear y2 E2b
  go_wp2_with fail
  rw [rounds_succ]
  go_wp2_with fail
  have e := HEND.out o2 (by rw [E2.out]; simp)
  exact HQ.out _ _ ⟨by rw [← e]; rfl, HB.out.trans (HB3.out.mono HB.out.size)⟩
 ·rw [hF] at hctx ⊢
  have hc : ctx x = lst s0 ++ (32 :: (lst x.n.s ++ (32 :: ((123 :: (jc (wtx x.ws) ++ [125])) ++ (32 :: ((123 :: (jc (ptl x) ++ [125])) ++ ([]))))))) := hctx
  clear hctx hF
  have hl := HLEN.out
  rw [hc] at hl HEND
  simp only [zA7, zA8, zA9, lst_length] at hl
  clear hc
  go_wp2_with fail
  refine wp_loop_rounds 4 ?_
  rw [rounds_succ]
  have z1 : s0.size + 1 ≤ 140737488355328 := by omega
  go_upto_region 8 with fail
  have y1 : lst (s0 ++ ⟨#[32]⟩) = lst s0 ++ [32] := by rw [lst_app, lst_one]
  have x1 : (s0 ++ (⟨#[32]⟩ : ByteArray)).size = s0.size + 1 := by rw [ByteArray.size_append]; rfl
  generalize s0 ++ (⟨#[32]⟩ : ByteArray) = b1 at *
  clear z1
  have E1b := zh y1
  clear y1
  have c2 := C2.out w3 HB3.out
  have z1 : b1.size + x.n.s.size ≤ 140737488355328 := by omega
  go_upto_region 6 with fail
  have y1 : lst (b1 ++ x.n.s) = lst s0 ++ [32] ++ lst x.n.s := by rw [lst_app, E1b.out]
  have v1 : (b1 ++ x.n.s).size = b1.size + x.n.s.size := ByteArray.size_append
  generalize b1 ++ x.n.s = o1 at *
  clear z1 c2
  have E1 := zh y1
  clear y1 E1b
  go_wp2_with fail
  rw [rounds_succ]
  have z2 : o1.size + 1 ≤ 140737488355328 := by omega
  go_upto_region 8 with fail
  have y2 : lst (o1 ++ ⟨#[32]⟩) = lst s0 ++ [32] ++ lst x.n.s ++ [32] := by rw [lst_app, lst_one, E1.out]
  have x2 : (o1 ++ (⟨#[32]⟩ : ByteArray)).size = o1.size + 1 := by rw [ByteArray.size_append]; rfl
  generalize o1 ++ (⟨#[32]⟩ : ByteArray) = b2 at *
  clear z2
  have E2b := zh y2
  clear y2
  have c4 := C4.out w3 HB3.out
  have HWO2 := zh (HWO.out w3 HB3.out (by omega))
  have z2 : b2.size + 1 ≤ 140737488355328 := by omega
  have r2 : (b2 ++ (⟨#[123]⟩ : ByteArray)).size = b2.size + 1 := by rw [ByteArray.size_append]; rfl
  go_upto_region 6 with (go_at_call 29; refine HWO2.out.mono ?_; rintro e w' ⟨⟨s2, rfl, hs2⟩, rfl⟩; have t2 := lst_size s2 hs2; have z2b : b2.size + 1 + s2.size ≤ 140737488355328 := (by omega); have r2b : (b2 ++ (⟨#[123]⟩ : ByteArray) ++ s2).size = b2.size + 1 + s2.size := (ByteArray.size_append).trans (congrArg (· + s2.size) r2); have z2c : b2.size + 1 + s2.size + 1 ≤ 140737488355328 := by omega)
  have y2 : lst (b2 ++ (⟨#[123]⟩ : ByteArray) ++ s2 ++ (⟨#[125]⟩ : ByteArray)) = lst s0 ++ [32] ++ lst x.n.s ++ [32] ++ (123 :: (jc (wtx x.ws) ++ [125])) := by rw [lst_app, lst_app, lst_app, E2b.out, hs2, lst_one, lst_one]; simp
  have v2 : (b2 ++ (⟨#[123]⟩ : ByteArray) ++ s2 ++ (⟨#[125]⟩ : ByteArray)).size = b2.size + 1 + s2.size + 1 := (ByteArray.size_append).trans (congrArg (· + 1) r2b)
  generalize b2 ++ (⟨#[123]⟩ : ByteArray) ++ s2 ++ (⟨#[125]⟩ : ByteArray) = o2 at *
  clear z2 z2b z2c r2 r2b c4 HWO2
  have E2 := zh y2
  clear y2 E2b
  go_wp2_with fail
  rw [rounds_succ]
  have z3 : o2.size + 1 ≤ 140737488355328 := by omega
  go_upto_region 8 with fail
  have y3 : lst (o2 ++ ⟨#[32]⟩) = lst s0 ++ [32] ++ lst x.n.s ++ [32] ++ (123 :: (jc (wtx x.ws) ++ [125])) ++ [32] := by rw [lst_app, lst_one, E2.out]
  have x3 : (o2 ++ (⟨#[32]⟩ : ByteArray)).size = o2.size + 1 := by rw [ByteArray.size_append]; rfl
  generalize o2 ++ (⟨#[32]⟩ : ByteArray) = b3 at *
  clear z3
  have E3b := zh y3
  clear y3
  have HSM : Hid (b3.size + 1 + (jc (ptl x)).length ≤ 140737488355327) := by show _ ≤ _; omega
  have z3 : b3.size + 1 ≤ 140737488355328 := by omega
  have r3 : (b3 ++ (⟨#[123]⟩ : ByteArray)).size = b3.size + 1 := by rw [ByteArray.size_append]; rfl
  have E0p : Hid (lst (b3 ++ (⟨#[123]⟩ : ByteArray)) = lst b3 ++ 123 :: jc ((ptl x).take 0)) := by show _ = _; rw [lst_app, lst_one]; simp [jc]
  generalize hpm : x.ps.length = m at *
  have HPL := zh hpm; clear hpm
  have HPC := zh (sx.2.1); clear hl
  go_upto_region 22 with fail
  generalize b3 ++ (⟨#[123]⟩ : ByteArray) = o3a at *
  go_wp2_with fail
  go_loopw [3, 7] (fun sv jv wr => ∃ (i : Nat) (s : ByteArray), i ≤ m ∧ jv = .int .i64 i ∧ sv = .string s ∧ Hid (lst s = lst b3 ++ 123 :: jc ((ptl x).take i)) ∧ Hid (Below w1.heap.size w1 wr)) (fun _ jv _ => m - (intOf jv).toNat)
  case atStart => exact ⟨0, _, by omega, rfl, rfl, E0p, HB3⟩
  case round =>
   obtain ⟨i, s, hi, rfl, rfl, HS, HW⟩ := hrel
   have c5 := C5.out _ HW.out
   have hm9 : m ≤ 4294967296 := HPL.out ▸ HPC.out
   by_cases hlt : i < m
   ·have hin : (i : Int) < (m : Int) := by omega
    obtain ⟨bb, o, hBe, hbl, hc⟩ := sl_at (z := CM.pw0) pwcells_length ((HX.out _ HW.out).ps) (k := i) (by rw [HPL.out]; exact hlt) (by omega)
    have q0 := hc i 0 _ (by rw [HPL.out]; exact hlt) (by omega) rfl
    have q2 := hc i 2 _ (by rw [HPL.out]; exact hlt) (by omega) rfl
    rw [Nat.add_zero] at q0
    rw [← Nat.add_assoc] at q2
    have HTI := zh (HPT.out i hlt)
    have hLI := HPJ.out (i + 1)
    rw [HTI.out] at hLI
    have hss := lst_size s HS.out
    clear hc
    rw [hBe] at c5
    generalize (x.ps.getD i CM.pw0).a.s = sa at *
    generalize (x.ps.getD i CM.pw0).b.s = sb at *
    by_cases h0 : 0 < i
    ·rw [if_pos h0] at HTI hLI
     simp only [zA7, zA8, zA9, lst_length] at hLI hss
     have hsm := HSM.out
     have hs1 : (s ++ (⟨#[44]⟩ : ByteArray)).size = s.size + 1 := by rw [ByteArray.size_append]; rfl
     have hs2 : s.size + 1 ≤ 140737488355328 := by omega
     have h0i : (0 : Int) < (i : Int) := by omega
     have HSb : Hid (lst (s ++ (⟨#[44]⟩ : ByteArray)) = lst s ++ [44]) := by show _ = _; rw [lst_app, lst_one]
     go_upto_region 27 with fail
     generalize s ++ (⟨#[44]⟩ : ByteArray) = s9 at *
     have u1 : s9.size + sa.size ≤ 140737488355328 := by omega
     have u2 : (s9 ++ sa).size = s9.size + sa.size := ByteArray.size_append
     have u3 : s9.size + sa.size + 1 ≤ 140737488355328 := by omega
     have u4 : (s9 ++ sa ++ (⟨#[60]⟩ : ByteArray)).size = s9.size + sa.size + 1 := (ByteArray.size_append).trans (congrArg (· + 1) u2)
     have u5 : s9.size + sa.size + 1 + sb.size ≤ 140737488355328 := by omega
     have HF : Hid (lst (s9 ++ sa ++ (⟨#[60]⟩ : ByteArray) ++ sb) = lst b3 ++ 123 :: jc ((ptl x).take (i + 1))) := by show _ = _; rw [HTI.out, lst_app, lst_app, lst_app, lst_one, HSb.out, HS.out]; simp
     have HI1 : Hid (i + 1 ≤ m) := zh hlt
     clear hss hLI hsm
     go_quiet (fail)
     go_wp2_with fail
     go_roundw
     case rel => exact ⟨i + 1, _, HI1.out, by go_num, rfl, HF, zh (HW.out.trans (((Dr.refl _).more _).below.mono HW.out.size))⟩
     case measure => have hlt2 := HI1.out; simp [intOf]; omega
    ·rw [if_neg h0] at HTI hLI
     simp only [zA7, zA8, zA9, lst_length] at hLI hss
     have hsm := HSM.out
     obtain rfl : i = 0 := by omega
     simp only [Nat.zero_mul, Nat.add_zero] at q0 q2
     go_upto_region 27 with fail
     have u1 : s.size + sa.size ≤ 140737488355328 := by omega
     have u2 : (s ++ sa).size = s.size + sa.size := ByteArray.size_append
     have u3 : s.size + sa.size + 1 ≤ 140737488355328 := by omega
     have u4 : (s ++ sa ++ (⟨#[60]⟩ : ByteArray)).size = s.size + sa.size + 1 := (ByteArray.size_append).trans (congrArg (· + 1) u2)
     have u5 : s.size + sa.size + 1 + sb.size ≤ 140737488355328 := by omega
     have HF : Hid (lst (s ++ sa ++ (⟨#[60]⟩ : ByteArray) ++ sb) = lst b3 ++ 123 :: jc ((ptl x).take (0 + 1))) := by show _ = _; rw [HTI.out, lst_app, lst_app, lst_app, lst_one, HS.out]; simp
     have HI1 : Hid (0 + 1 ≤ m) := zh hlt
     clear hss hLI hsm
     go_quiet (fail)
     go_wp2_with fail
     go_roundw
     case rel => exact ⟨0 + 1, _, HI1.out, by go_num, rfl, HF, zh (HW.out.trans (((Dr.refl _).more _).below.mono HW.out.size))⟩
     case measure => have hlt2 := HI1.out; simp [intOf]; omega
   ·obtain rfl : i = m := by omega
    have hss := lst_size s HS.out
    have hLI := HPJ.out i
    simp only [zA7, zA8, zA9, lst_length] at hss
    have hsm := HSM.out
    have u1 : s.size + 1 ≤ 140737488355328 := by omega
    have y3 : lst (s ++ (⟨#[125]⟩ : ByteArray)) = lst s0 ++ [32] ++ lst x.n.s ++ [32] ++ (123 :: (jc (wtx x.ws) ++ [125])) ++ [32] ++ (123 :: (jc (ptl x) ++ [125])) := by rw [lst_app, lst_one, HS.out, E3b.out, HPE.out]; simp
    go_wp2_with fail
    rw [rounds_succ]
    go_wp2_with fail
    have e := HEND.out _ (y3.trans (by simp))
    exact HQ.out _ _ ⟨by rw [← e]; rfl, HB.out.trans (HW.out.mono HB.out.size)⟩
 ·rw [hF] at hctx ⊢
  have hc : ctx x = lst s0 ++ (32 :: (lst x.n.s ++ (32 :: (tx x.l ++ (32 :: (tx x.r ++ ([]))))))) := hctx
  clear hctx hF
  have hl := HLEN.out
  rw [hc] at hl HEND
  simp only [zA7, zA8, zA9, lst_length] at hl
  clear hc
  go_wp2_with fail
  refine wp_loop_rounds 4 ?_
  rw [rounds_succ]
  have z1 : s0.size + 1 ≤ 140737488355328 := by omega
  go_upto_region 8 with fail
  have y1 : lst (s0 ++ ⟨#[32]⟩) = lst s0 ++ [32] := by rw [lst_app, lst_one]
  have x1 : (s0 ++ (⟨#[32]⟩ : ByteArray)).size = s0.size + 1 := by rw [ByteArray.size_append]; rfl
  generalize s0 ++ (⟨#[32]⟩ : ByteArray) = b1 at *
  clear z1
  have E1b := zh y1
  clear y1
  have c2 := C2.out w3 HB3.out
  have z1 : b1.size + x.n.s.size ≤ 140737488355328 := by omega
  go_upto_region 6 with fail
  have y1 : lst (b1 ++ x.n.s) = lst s0 ++ [32] ++ lst x.n.s := by rw [lst_app, E1b.out]
  have v1 : (b1 ++ x.n.s).size = b1.size + x.n.s.size := ByteArray.size_append
  generalize b1 ++ x.n.s = o1 at *
  clear z1 c2
  have E1 := zh y1
  clear y1 E1b
  go_wp2_with fail
  rw [rounds_succ]
  have z2 : o1.size + 1 ≤ 140737488355328 := by omega
  go_upto_region 8 with fail
  have y2 : lst (o1 ++ ⟨#[32]⟩) = lst s0 ++ [32] ++ lst x.n.s ++ [32] := by rw [lst_app, lst_one, E1.out]
  have x2 : (o1 ++ (⟨#[32]⟩ : ByteArray)).size = o1.size + 1 := by rw [ByteArray.size_append]; rfl
  generalize o1 ++ (⟨#[32]⟩ : ByteArray) = b2 at *
  clear z2
  have E2b := zh y2
  clear y2
  go_upto_region 10 with (first | (refine wpList_load_mid rfl _ _ rfl w.heap.size 12 rfl (ncells x.r) _ (HR2.out w3 HB3.out) Tryz.underlying28 rfl (by rw [show (ncells x.r).length = 5 from rfl]; kernel_rfl) ?_) | (refine wpList_stRowC (by rfl) _ _ _ rfl w3.heap.size (nv x.r) rfl rfl _ _ (RowAt.new _ _ _) (node_info _ _ _ _ _) rfl (by simp [nv, Value.oneCell']) ?_; intro wa2 r2 he; have HQa2 := zh r2; have HBa2 : Hid (Below w1.heap.size w1 wa2) := zh (HB3.out.trans ((((zB _ _).alloc (zL _) _).trans (he.below (zL _))).mono HB3.out.size)); clear r2 he))
  go_upto_region 13 with (first | (refine wpList_load_mid rfl _ _ rfl w.heap.size 7 rfl (ncells x.l) _ (HR1.out wa2 HBa2.out) Tryz.underlying28 rfl (by rw [show (ncells x.l).length = 5 from rfl]; kernel_rfl) ?_) | (refine wpList_stRowC (by rfl) _ _ _ rfl w3.heap.size (nv x.l) rfl rfl _ _ HQa2.out (node_info _ _ _ _ _) rfl (by simp [nv, Value.oneCell']) ?_; intro wb2 r2 he; have HQb2 := zh r2; have HBb2 : Hid (Below w1.heap.size w1 wb2) := zh (HBa2.out.trans (he.below HB3.out.size)); clear r2 he))
  have HTX2 := zh (HTL.out wb2 HBb2.out (by omega))
  go_upto_region 6 with (first | (refine wpList_load_row rfl _ _ rfl w3.heap.size rfl _ _ (0, 0) _ HQb2.out Tryz.underlying28 rfl (node_info _ _ _ _ _) ?_) | (go_at_call 30; refine HTX2.out.mono ?_; rintro e wc2 ⟨⟨s2, rfl, hs2⟩, hb9⟩; have HBc2 : Hid (Below w1.heap.size w1 wc2) := zh (HBb2.out.trans (hb9.mono HBb2.out.size)); clear hb9; have t2 := lst_size s2 hs2; have z2 : b2.size + s2.size ≤ 140737488355328 := by omega))
  have y2 : lst (b2 ++ s2) = lst s0 ++ [32] ++ lst x.n.s ++ [32] ++ tx x.l := by rw [lst_app, E2b.out, hs2]
  have v2 : (b2 ++ s2).size = b2.size + s2.size := ByteArray.size_append
  generalize b2 ++ s2 = o2 at *
  clear z2 HTX2
  have E2 := zh y2
  clear y2 E2b
  go_wp2_with fail
  rw [rounds_succ]
  have z3 : o2.size + 1 ≤ 140737488355328 := by omega
  go_upto_region 8 with fail
  have y3 : lst (o2 ++ ⟨#[32]⟩) = lst s0 ++ [32] ++ lst x.n.s ++ [32] ++ tx x.l ++ [32] := by rw [lst_app, lst_one, E2.out]
  have x3 : (o2 ++ (⟨#[32]⟩ : ByteArray)).size = o2.size + 1 := by rw [ByteArray.size_append]; rfl
  generalize o2 ++ (⟨#[32]⟩ : ByteArray) = b3 at *
  clear z3
  have E3b := zh y3
  clear y3
  go_upto_region 13 with (first | (refine wpList_load_mid rfl _ _ rfl w.heap.size 12 rfl (ncells x.r) _ (HR2.out wc2 HBc2.out) Tryz.underlying28 rfl (by rw [show (ncells x.r).length = 5 from rfl]; kernel_rfl) ?_) | (refine wpList_stRowC (by rfl) _ _ _ rfl wc2.heap.size (nv x.r) rfl rfl _ _ (RowAt.new _ _ _) (node_info _ _ _ _ _) rfl (by simp [nv, Value.oneCell']) ?_; intro wa3 r3 he; have HQa3 := zh r3; have HBa3 : Hid (Below w1.heap.size w1 wa3) := zh (HBc2.out.trans ((((zB _ _).alloc (zL _) _).trans (he.below (zL _))).mono HBc2.out.size)); clear r3 he))
  have HTX3 := zh (HTR.out wa3 HBa3.out (by omega))
  go_upto_region 6 with (first | (refine wpList_load_row rfl _ _ rfl wc2.heap.size rfl _ _ (0, 0) _ HQa3.out Tryz.underlying28 rfl (node_info _ _ _ _ _) ?_) | (go_at_call 30; refine HTX3.out.mono ?_; rintro e wc3 ⟨⟨s3, rfl, hs3⟩, hb9⟩; have HBc3 : Hid (Below w1.heap.size w1 wc3) := zh (HBa3.out.trans (hb9.mono HBa3.out.size)); clear hb9; have t3 := lst_size s3 hs3; have z3 : b3.size + s3.size ≤ 140737488355328 := by omega))
  have y3 : lst (b3 ++ s3) = lst s0 ++ [32] ++ lst x.n.s ++ [32] ++ tx x.l ++ [32] ++ tx x.r := by rw [lst_app, E3b.out, hs3]
  have v3 : (b3 ++ s3).size = b3.size + s3.size := ByteArray.size_append
  generalize b3 ++ s3 = o3 at *
  clear z3 HTX3
  have E3 := zh y3
  clear y3 E3b
  go_wp2_with fail
  rw [rounds_succ]
  go_wp2_with fail
  have e := HEND.out o3 (by rw [E3.out]; simp)
  exact HQ.out _ _ ⟨by rw [← e]; rfl, HB.out.trans (HBc3.out.mono HB.out.size)⟩
 ·rw [hF] at hctx ⊢
  have hc : ctx x = lst s0 ++ (32 :: (lst x.n.s ++ (32 :: (tx x.l ++ (32 :: (tx x.r ++ ([]))))))) := hctx
  clear hctx hF
  have hl := HLEN.out
  rw [hc] at hl HEND
  simp only [zA7, zA8, zA9, lst_length] at hl
  clear hc
  go_wp2_with fail
  refine wp_loop_rounds 4 ?_
  rw [rounds_succ]
  have z1 : s0.size + 1 ≤ 140737488355328 := by omega
  go_upto_region 8 with fail
  have y1 : lst (s0 ++ ⟨#[32]⟩) = lst s0 ++ [32] := by rw [lst_app, lst_one]
  have x1 : (s0 ++ (⟨#[32]⟩ : ByteArray)).size = s0.size + 1 := by rw [ByteArray.size_append]; rfl
  generalize s0 ++ (⟨#[32]⟩ : ByteArray) = b1 at *
  clear z1
  have E1b := zh y1
  clear y1
  have c2 := C2.out w3 HB3.out
  have z1 : b1.size + x.n.s.size ≤ 140737488355328 := by omega
  go_upto_region 6 with fail
  have y1 : lst (b1 ++ x.n.s) = lst s0 ++ [32] ++ lst x.n.s := by rw [lst_app, E1b.out]
  have v1 : (b1 ++ x.n.s).size = b1.size + x.n.s.size := ByteArray.size_append
  generalize b1 ++ x.n.s = o1 at *
  clear z1 c2
  have E1 := zh y1
  clear y1 E1b
  go_wp2_with fail
  rw [rounds_succ]
  have z2 : o1.size + 1 ≤ 140737488355328 := by omega
  go_upto_region 8 with fail
  have y2 : lst (o1 ++ ⟨#[32]⟩) = lst s0 ++ [32] ++ lst x.n.s ++ [32] := by rw [lst_app, lst_one, E1.out]
  have x2 : (o1 ++ (⟨#[32]⟩ : ByteArray)).size = o1.size + 1 := by rw [ByteArray.size_append]; rfl
  generalize o1 ++ (⟨#[32]⟩ : ByteArray) = b2 at *
  clear z2
  have E2b := zh y2
  clear y2
  go_upto_region 10 with (first | (refine wpList_load_mid rfl _ _ rfl w.heap.size 12 rfl (ncells x.r) _ (HR2.out w3 HB3.out) Tryz.underlying28 rfl (by rw [show (ncells x.r).length = 5 from rfl]; kernel_rfl) ?_) | (refine wpList_stRowC (by rfl) _ _ _ rfl w3.heap.size (nv x.r) rfl rfl _ _ (RowAt.new _ _ _) (node_info _ _ _ _ _) rfl (by simp [nv, Value.oneCell']) ?_; intro wa2 r2 he; have HQa2 := zh r2; have HBa2 : Hid (Below w1.heap.size w1 wa2) := zh (HB3.out.trans ((((zB _ _).alloc (zL _) _).trans (he.below (zL _))).mono HB3.out.size)); clear r2 he))
  go_upto_region 13 with (first | (refine wpList_load_mid rfl _ _ rfl w.heap.size 7 rfl (ncells x.l) _ (HR1.out wa2 HBa2.out) Tryz.underlying28 rfl (by rw [show (ncells x.l).length = 5 from rfl]; kernel_rfl) ?_) | (refine wpList_stRowC (by rfl) _ _ _ rfl w3.heap.size (nv x.l) rfl rfl _ _ HQa2.out (node_info _ _ _ _ _) rfl (by simp [nv, Value.oneCell']) ?_; intro wb2 r2 he; have HQb2 := zh r2; have HBb2 : Hid (Below w1.heap.size w1 wb2) := zh (HBa2.out.trans (he.below HB3.out.size)); clear r2 he))
  have HTX2 := zh (HTL.out wb2 HBb2.out (by omega))
  go_upto_region 6 with (first | (refine wpList_load_row rfl _ _ rfl w3.heap.size rfl _ _ (0, 0) _ HQb2.out Tryz.underlying28 rfl (node_info _ _ _ _ _) ?_) | (go_at_call 30; refine HTX2.out.mono ?_; rintro e wc2 ⟨⟨s2, rfl, hs2⟩, hb9⟩; have HBc2 : Hid (Below w1.heap.size w1 wc2) := zh (HBb2.out.trans (hb9.mono HBb2.out.size)); clear hb9; have t2 := lst_size s2 hs2; have z2 : b2.size + s2.size ≤ 140737488355328 := by omega))
  have y2 : lst (b2 ++ s2) = lst s0 ++ [32] ++ lst x.n.s ++ [32] ++ tx x.l := by rw [lst_app, E2b.out, hs2]
  have v2 : (b2 ++ s2).size = b2.size + s2.size := ByteArray.size_append
  generalize b2 ++ s2 = o2 at *
  clear z2 HTX2
  have E2 := zh y2
  clear y2 E2b
  go_wp2_with fail
  rw [rounds_succ]
  have z3 : o2.size + 1 ≤ 140737488355328 := by omega
  go_upto_region 8 with fail
  have y3 : lst (o2 ++ ⟨#[32]⟩) = lst s0 ++ [32] ++ lst x.n.s ++ [32] ++ tx x.l ++ [32] := by rw [lst_app, lst_one, E2.out]
  have x3 : (o2 ++ (⟨#[32]⟩ : ByteArray)).size = o2.size + 1 := by rw [ByteArray.size_append]; rfl
  generalize o2 ++ (⟨#[32]⟩ : ByteArray) = b3 at *
  clear z3
  have E3b := zh y3
  clear y3
  go_upto_region 13 with (first | (refine wpList_load_mid rfl _ _ rfl w.heap.size 12 rfl (ncells x.r) _ (HR2.out wc2 HBc2.out) Tryz.underlying28 rfl (by rw [show (ncells x.r).length = 5 from rfl]; kernel_rfl) ?_) | (refine wpList_stRowC (by rfl) _ _ _ rfl wc2.heap.size (nv x.r) rfl rfl _ _ (RowAt.new _ _ _) (node_info _ _ _ _ _) rfl (by simp [nv, Value.oneCell']) ?_; intro wa3 r3 he; have HQa3 := zh r3; have HBa3 : Hid (Below w1.heap.size w1 wa3) := zh (HBc2.out.trans ((((zB _ _).alloc (zL _) _).trans (he.below (zL _))).mono HBc2.out.size)); clear r3 he))
  have HTX3 := zh (HTR.out wa3 HBa3.out (by omega))
  go_upto_region 6 with (first | (refine wpList_load_row rfl _ _ rfl wc2.heap.size rfl _ _ (0, 0) _ HQa3.out Tryz.underlying28 rfl (node_info _ _ _ _ _) ?_) | (go_at_call 30; refine HTX3.out.mono ?_; rintro e wc3 ⟨⟨s3, rfl, hs3⟩, hb9⟩; have HBc3 : Hid (Below w1.heap.size w1 wc3) := zh (HBa3.out.trans (hb9.mono HBa3.out.size)); clear hb9; have t3 := lst_size s3 hs3; have z3 : b3.size + s3.size ≤ 140737488355328 := by omega))
  have y3 : lst (b3 ++ s3) = lst s0 ++ [32] ++ lst x.n.s ++ [32] ++ tx x.l ++ [32] ++ tx x.r := by rw [lst_app, E3b.out, hs3]
  have v3 : (b3 ++ s3).size = b3.size + s3.size := ByteArray.size_append
  generalize b3 ++ s3 = o3 at *
  clear z3 HTX3
  have E3 := zh y3
  clear y3 E3b
  go_wp2_with fail
  rw [rounds_succ]
  go_wp2_with fail
  have e := HEND.out o3 (by rw [E3.out]; simp)
  exact HQ.out _ _ ⟨by rw [← e]; rfl, HB.out.trans (HBc3.out.mono HB.out.size)⟩
 ·rw [hF] at hctx ⊢
  have hc : ctx x = lst s0 ++ (32 :: (lst x.n.s ++ (32 :: (jc (wtx x.ws) ++ ([]))))) := hctx
  clear hctx hF
  have hl := HLEN.out
  rw [hc] at hl HEND
  simp only [zA7, zA8, zA9, lst_length] at hl
  clear hc
  go_wp2_with fail
  refine wp_loop_rounds 3 ?_
  rw [rounds_succ]
  have z1 : s0.size + 1 ≤ 140737488355328 := by omega
  go_upto_region 8 with fail
  have y1 : lst (s0 ++ ⟨#[32]⟩) = lst s0 ++ [32] := by rw [lst_app, lst_one]
  have x1 : (s0 ++ (⟨#[32]⟩ : ByteArray)).size = s0.size + 1 := by rw [ByteArray.size_append]; rfl
  generalize s0 ++ (⟨#[32]⟩ : ByteArray) = b1 at *
  clear z1
  have E1b := zh y1
  clear y1
  have c2 := C2.out w3 HB3.out
  have z1 : b1.size + x.n.s.size ≤ 140737488355328 := by omega
  go_upto_region 6 with fail
  have y1 : lst (b1 ++ x.n.s) = lst s0 ++ [32] ++ lst x.n.s := by rw [lst_app, E1b.out]
  have v1 : (b1 ++ x.n.s).size = b1.size + x.n.s.size := ByteArray.size_append
  generalize b1 ++ x.n.s = o1 at *
  clear z1 c2
  have E1 := zh y1
  clear y1 E1b
  go_wp2_with fail
  rw [rounds_succ]
  have z2 : o1.size + 1 ≤ 140737488355328 := by omega
  go_upto_region 8 with fail
  have y2 : lst (o1 ++ ⟨#[32]⟩) = lst s0 ++ [32] ++ lst x.n.s ++ [32] := by rw [lst_app, lst_one, E1.out]
  have x2 : (o1 ++ (⟨#[32]⟩ : ByteArray)).size = o1.size + 1 := by rw [ByteArray.size_append]; rfl
  generalize o1 ++ (⟨#[32]⟩ : ByteArray) = b2 at *
  clear z2
  have E2b := zh y2
  clear y2
  have c4 := C4.out w3 HB3.out
  have HWO2 := zh (HWO.out w3 HB3.out (by omega))
  go_upto_region 6 with (go_at_call 29; refine HWO2.out.mono ?_; rintro e w' ⟨⟨s2, rfl, hs2⟩, rfl⟩; have t2 := lst_size s2 hs2; have z2 : b2.size + s2.size ≤ 140737488355328 := by omega)
  have y2 : lst (b2 ++ s2) = lst s0 ++ [32] ++ lst x.n.s ++ [32] ++ jc (wtx x.ws) := by rw [lst_app, E2b.out, hs2]
  have v2 : (b2 ++ s2).size = b2.size + s2.size := ByteArray.size_append
  generalize b2 ++ s2 = o2 at *
  clear z2 c4 HWO2
  have E2 := zh y2
  clear y2 E2b
  go_wp2_with fail
  rw [rounds_succ]
  go_wp2_with fail
  have e := HEND.out o2 (by rw [E2.out]; simp)
  exact HQ.out _ _ ⟨by rw [← e]; rfl, HB.out.trans (HB3.out.mono HB.out.size)⟩
end
end Go.Proofs.YtmffnkfohmbbeaaGreatDoor
