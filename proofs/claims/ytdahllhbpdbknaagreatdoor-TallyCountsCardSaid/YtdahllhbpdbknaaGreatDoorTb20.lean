/- Texts that all the claims need. Conditions: those that each states. -/

import Derived.Test.YtdahllhbpdbknaaGreatDoorTb19
set_option linter.unusedSimpArgs false
set_option linter.unusedVariables false
set_option maxRecDepth 100000
set_option maxHeartbeats 40000000
namespace Go.Proofs.YtdahllhbpdbknaaGreatDoor
section
open Go.RowKit RM
theorem wp_cat8 {P : Program} {o : Oper} {a : Act} {w : World} {K : Act → World → Prop} {Q : Exit → Act → World → Prop} (s x : Operand) (t : TypeId)
 (ho : o.op = .call { callee := .builtin .append, args := #[s, x], argTypes := #[t, t] })
 (e : TypeId) (z : Value) (size bytes : Nat) (ht : P.underlying t = some (.slice e))
 (hinf : (P.info? e).map (fun i => (i.zero, i.size, i.bytes)) = some (some z, size, bytes)) (hzs : z.cells.size = size) (hsz : 0 < size) (hby : bytes ≤ 4096)
 (base : Nat) (A : Option Addr) (n c : Nat) (cs : List Value) (hs : a.eval s = .slice A n c) (hown : w.ownsRow base e size (.slice A n c) n cs)
 (B : Nat) (X : Option Addr) (m k : Nat) (news : List Value) (hx : a.eval x = .slice X m k) (hl : news.length = m * size) (hm : m ≤ 4294967296)
 (hnews : Sl w B X news) (h1 : ∀ u ∈ news, u.oneCell' = true)
 (hn : n ≤ 4294967296) (hbase : base ≤ w.heap.size)
 (h : ∀ A' c' w', w'.ownsRow base e size (.slice A' (n + m) c') (n + m) (cs ++ news) → Below base w w' → w.grownBy w' (Value.slice A n c).ownBlock → ((Value.slice A' (n + m) c').ownBlock = (Value.slice A n c).ownBlock ∨ (Value.slice A' (n + m) c').ownBlock = some w.heap.size) → K (a.put o.dst (.slice A' (n + m) c')) w') :
 o.wp P a w K Q := by
 obtain ⟨i, hi, hz, hi1, hi2⟩ := info_parts hinf
 cases X with
 | some ad =>
   obtain ⟨v', w', hr, hown', hg, _, hat⟩ := run_append_own_at (P := P) w base t o.type e i z size bytes ht hi hz hi1 hi2 hzs hsz (.slice A n c) n cs hown ad m k news hl
    (fun j u hu => by
        obtain ⟨b, off, hA, _, hc⟩ := hnews (by intro e; rw [e] at hu; simp at hu)
        injection hA with hA
        subst hA
        rw [show (⟨b, off, none⟩ : Addr).add j = ⟨b, off + j, none⟩ by unfold Addr.add; split <;> simp_all]
        exact hc j u hu) h1 (by simp only [maxLen]; omega) (zM (Nat.mul_le_mul (show n + m ≤ 8589934592 by omega) hby) (by decide)) hbase
   obtain ⟨A', c', rfl, _, _⟩ := own_form hown'
   unfold Oper.wp execOp
   simp only [ho, resolve, invoke, builtin, Sem.run_bind, Sem.run_pure, Result.andThen_ok, List.map_toArray, List.map_cons, List.map_nil, hs, hx, hr]
   exact h A' c' w' hown' ((zB base w).grown hg hbase (fun k hk => (hown.lt k hk).1)) hg hat
 | none =>
   have hne : news = [] := Classical.byContradiction fun hne => by
    obtain ⟨_, _, hA, _⟩ := hnews hne
    cases hA
   subst hne
   have hm0 : m = 0 := by
    rcases Nat.eq_zero_or_pos m with h | h
    ·exact h
    ·have := Nat.mul_pos h hsz
     simp only [zA9] at hl
     omega
   subst hm0
   have hrun : (Builtin.append_ #[t, t] o.type #[.slice A n c, .slice none 0 k]).run P w = .ok (.slice A n c) w := by
    rcases hown.2 with ⟨hv, hn0⟩ | ⟨g, cap, cur, hv, _, _, hnc, _⟩
    ·injection hv with e1 e2 e3
     subst e1 e2 e3
     simp [Builtin.append_, run_underlying ht, sizeOf, typeInfo, hi, Builtin.lenOf, Builtin.firstCells]
    ·injection hv with e1 e2 e3
     subst e1 e3
     simp [Builtin.append_, run_underlying ht, sizeOf, typeInfo, hi, Builtin.lenOf, Builtin.firstCells, hnc, storeCells]
   unfold Oper.wp
   simp only [execOp, ho, resolve, invoke, builtin, Sem.run_bind, Sem.run_pure, Result.andThen_ok, List.map_toArray, List.map_cons, List.map_nil, hs, hx, hrun]
   refine h A c w (by simpa using hown) (zB _ _) ⟨rfl, rfl, rfl, zL _, fun _ _ _ => rfl⟩ (.inl rfl)
theorem run_none8 (w : World) : (Instr.buildSlice 37 0 #[]).run Tryz.prog w = .ok (.slice (some ⟨w.heap.size, 0, none⟩) 0 0) (w.alloc (.cells #[] 40)) := by
 cases hi : Tryz.prog.info? 40 with
 | none => have h0 := infoElem2; rw [hi] at h0; cases h0
 | some i => simp [Instr.buildSlice, run_underlying Tryz.underlying37, sizeOf, typeInfo, hi, newRow, Instr.fill, show Array.range 0 = (#[] : Array Nat) from by decide]
theorem wp_none8 {o : Oper} {a : Act} {w : World} {K : Act → World → Prop} {Q : Exit → Act → World → Prop} (ho : o.op = .buildSlice 37 0 #[])
 (h : ∀ w', w'.ownsRow w.heap.size 40 8 (.slice (some ⟨w.heap.size, 0, none⟩) 0 0) 0 [] → Below w.heap.size w w' → K (a.put o.dst (.slice (some ⟨w.heap.size, 0, none⟩) 0 0)) w') : o.wp Tryz.prog a w K Q := by
 unfold Oper.wp execOp
 simp only [ho, Array.map_empty, Sem.run_bind, run_none8, Result.andThen_ok]
 exact h _ ⟨rfl, .inr ⟨w.heap.size, 0, #[], rfl, zL _, heap_alloc_new w _, zL _, by simp [maxLen], rfl, rfl⟩⟩ ((zB _ _).alloc (zL _) _)
theorem ec_one (es : List (List Nat)) : ∀ u ∈ escells es, u.oneCell' = true := fun u hu => by
 unfold escells at hu
 obtain ⟨e, _, hu⟩ := List.mem_flatMap.1 hu
 exact uc_one e u hu
theorem qcodeEval_any (t : Bool) (SA : Option Addr) (sc : Nat) (fs : List Fac) (LA : Option Addr) (lc : Nat) (l : List In) (VA : Option Addr) (vc : Nat) (v : List (List Nat)) (w : World) (hF : Facs w SA fs) (hl : l.length ≤ 1000000) (hL : Ls insC w LA l)
 (hvl : v.length ≤ 1000000) (hV : Sl w w.heap.size VA (escells v)) (hE : ∀ e ∈ v, EW e) :
 Calls Tryz.prog 25 #[.agg (sv t SA fs.length sc), .slice LA l.length lc, .slice VA v.length vc] w fun e w' => e = .returned (retE (evG fs v l)) ∧ Below w.heap.size w w' := by
 obtain ⟨r3, r6, hb⟩ := two_rows w (sv t SA fs.length sc) (uv z8) 24 40
 refine cHid fun Q' hQ => ?_
 have HQ := zh hQ; clear hQ
 rw [← zero_z8] at r6 hb r3
 go_enter Tryz.func25, Tryz.ntmps25
 go_upto_region 1 with fail
 rw [zero_z8] at r6 hb r3 ⊢
 change Code.wp _ _ _ _ ((w.alloc (.cells (sv t SA fs.length sc) 24)).alloc (.cells (uv z8) 40))
 generalize (w.alloc (.cells (sv t SA fs.length sc) 24)).alloc (.cells (uv z8) 40) = w1 at *
 have HB := zh hb
 have HSZ := zh hb.size
 have HZ8 : Hid (EW z8) := zh EW.zeros
 have HR3 := zh r3
 have HR6 := zh r6
 have HFf : Hid (∀ W, Below w1.heap.size w1 W → Facs W SA fs) := zh fun W hW => (hF.below hb).below hW
 have HL1 := zh (hL.below hb)
 have HV1 : Hid (Sl w1 w1.heap.size VA (escells v)) := zh ((hV.below hb).mono hb.size)
 have HE := zh hE
 have HRM := zh (qcodeRight_any LA lc l w1 hl (hL.below hb))
 have HREV : Hid (evG fs v l = if rgtB (roomG l 0 0) = true then (runG (joinE fs) meetE v l []).map (fun st => st.getD 0 []) else none) := zh rfl
 have HEND : Hid (∀ r W, r = evG fs v l → Below w.heap.size w W → Q' (.returned (retE r)) W) := zh fun r W hr hW => HQ.out _ _ ⟨by rw [hr], hW⟩
 have HN0 : Hid (runG (joinE fs) meetE v (l.drop 0) [] = runG (joinE fs) meetE v l []) := zh (by rw [List.drop_zero])
 clear hF hL hV hE hb r3 r6 HQ
 cases hrb : rgtB (roomG l 0 0) with
 | false =>
   rw [hrb] at HRM
   have hev : none = evG fs v l := by rw [HREV.out, hrb]; rfl
   have HQ2 := zh (HEND.out none)
   have HEV := zh hev
   have HR62 := HR6
   clear hev hrb
   go_wp2_with (first
    | (go_at_call 48; refine HRM.out.mono ?_; rintro e w2 ⟨rfl, rfl⟩)
    | (refine wpList_stRow (by rfl) _ _ _ rfl (w.heap.size + 1) (uv z8) rfl rfl _ _ HR62.out (einfo2 HZ8.out) rfl (uv8_one _) ?_; intro w3 r3 he; have HR63 := zh r3; have HE3 := zh he; clear r3 he))
   exact bodyPost_ret (ret2 rfl _ _ (w.heap.size + 1) _ _ (0, 0) _ (.bool false) rfl rfl HR63.out Tryz.underlying40 rfl (einfo2 HZ8.out)) rfl (HQ2.out w3 HEV.out (HB.out.trans (HE3.out.below (by omega))))
 | true =>
   rw [hrb] at HRM
   have HRV : Hid (evG fs v l = (runG (joinE fs) meetE v l []).map (fun st => st.getD 0 [])) := zh (by rw [HREV.out, if_pos hrb])
   have HG1 : Hid (∃ mx, rgtB (roomG (l.drop 0) 0 mx) = true) := zh ⟨0, by rw [List.drop_zero]; exact hrb⟩
   clear hrb HREV
   go_upto_region 4 with (go_at_call 48; refine HRM.out.mono ?_; rintro e w2 ⟨rfl, rfl⟩)
   clear HRM
   have HB3 : Hid (Below w2.heap.size w2 w2) := zh (zB _ _)
   have HO3 : Hid (w2.ownsRow w2.heap.size 40 8 (.slice none 0 0) 0 (escells [])) := zh (World.ownsRow_nil _ _ _ _)
   obtain ⟨R, hR⟩ : ∃ R, R = runG (joinE fs) meetE v l [] := ⟨_, rfl⟩
   rw [← hR] at HRV HN0
   clear hR
   have HRA := zh fun k (hk : k < l.length) => runG_at (joinE fs) meetE v hk
   have HGA := zh fun k (hk : k < l.length) => roomG_at hk
   generalize hn : l.length = n at *
   have HN := zh hn; clear hn
   generalize hq : v.length = q at *
   have HQV := zh hq; clear hq
   have HG3 : Hid (w.heap.size + 1 < w2.heap.size) := zh HR6.out.lt
   go_upto_region 5 with fail
   go_loopw [8, 9] (fun sv kv wr => ∃ (k c' : Nat) (A' : Option Addr) (st : List (List Nat)), k ≤ n ∧ st.length ≤ k ∧ kv = .int .i64 k ∧ sv = .slice A' st.length c' ∧ Hid (wr.ownsRow w2.heap.size 40 8 (.slice A' st.length c') st.length (escells st)) ∧ Hid (∀ e ∈ st, EW e) ∧ Hid (∃ mx, rgtB (roomG (l.drop k) st.length mx) = true) ∧ Hid (runG (joinE fs) meetE v (l.drop k) st = R) ∧ Hid (Below w2.heap.size w2 wr)) (fun _ kv _ => n - (intOf kv).toNat)
   case atStart => exact ⟨0, 0, none, [], by omega, by simp, rfl, rfl, HO3, zh (fun e he => by cases he), HG1, HN0, HB3⟩
   case round =>
    clear HB3 HO3 HG1 HN0
    obtain ⟨k, c', A', st, hk, hst, rfl, rfl, HO, HES, HG, HRN, HBr⟩ := hrel
    by_cases hlt : k < n
    ·obtain ⟨b, o, rfl, hbl, hc⟩ := (HL1.out.below HBr.out).at 10 insC_len (by omega) in0 (i := k) (by rw [HN.out]; exact hlt)
     have hr := hc k (by rw [HN.out]; exact hlt)
     have hci := infoInsL (l.getD k in0)
     have hrun := HRN.out
     rw [HRA.out k hlt] at hrun
     obtain ⟨mx, hg⟩ := HG.out
     rw [HGA.out k hlt] at hg
     have HRW := zh hr; clear hr hc HRN HG hbl
     generalize l.getD k in0 = x at *
     have hsz := HBr.out.size
     go_upto_region 8 with (first
      | (refine wpList_ldIn (by rfl) _ _ rfl b (o + k * 10) rfl _ _ HRW.out Tryz.underlying85 rfl hci ?_)
      | (refine wpList_stRow (by rfl) _ _ _ rfl wr.heap.size (insC x).toArray rfl rfl _ _ (RowAt.new _ _ _) (infoIns x) (by rw [insC_size]; rfl) (insC_one x) ?_; intro w4 r4 he; have HR4 := zh r4; have HB4 : Hid (Below wr.heap.size wr w4) := zh (((zB _ _).alloc (zL _) _).trans (he.below (zL _))); clear r4 he))
     have HBW4 : Hid (Below w2.heap.size w2 w4) := zh (HBr.out.trans (HB4.out.mono hsz))
     have HO4 := zh (own_below HO.out HB4.out (zL _))
     obtain ⟨c0, c1, c2⟩ := ins_cells HR4.out
     have HC2 := zh c2
     have HGI : Hid (w2.heap.size ≤ wr.heap.size) := zh hsz
     clear HB4 HRW hci HO c2 hsz
     generalize wr.heap.size = gi at *
     obtain ⟨op, nn, e, hew⟩ := x
     dsimp only at c0 c1 HC2 hrun hg
     have HEW : Hid (EW e) := zh hew
     obtain ⟨sl, hsl⟩ : ∃ z, z = st.length := ⟨_, rfl⟩
     have HSL : Hid (st.length = sl) := zh hsl.symm
     have hbd1 : sl + 1 ≤ maxLen := by simp only [maxLen]; omega
     have hbd2 : (sl + 1) * 64 ≤ 140737488355328 := by omega
     rw [← hsl] at hg hrun HO4 hst ⊢
     clear hsl
     by_cases h1 : op = 1
     ·subst h1
      rw [if_pos (.inl rfl)] at hg
      rw [if_pos rfl] at hrun
      by_cases hin : 0 ≤ nn ∧ nn < (q : Int)
      ·rw [if_pos hin] at hrun
       obtain ⟨j, rfl⟩ : ∃ j : Nat, nn = (j : Int) := ⟨nn.toNat, by omega⟩
       rw [Int.toNat_natCast] at hrun
       have hjl : j < v.length := by have := HQV.out; omega
       obtain ⟨b2, o2, rfl, hrng⟩ := els_at (HV1.out.below HBW4.out) HE.out (k := j) hjl
       have hrv := hrng j hjl
       have HVE : Hid (EW (v.getD j [])) := zh (HE.out _ (eget_mem hjl))
       have hjq : (j : Int) < (q : Int) := hin.2
       have hqj : ¬ (q : Int) ≤ (j : Int) := by omega
       have hqd : decide ((q : Int) ≤ (j : Int)) = false := zF hqj
       have hqn : decide (q ≤ j) = false := zF (by omega)
       generalize v.getD j [] = ve at *
       have HRV := zh hrv
       have HG5 : Hid (∃ mx, rgtB (roomG (l.drop (k + 1)) (st ++ [ve]).length mx) = true) := zh ⟨_, by rw [zA7, HSL.out]; exact hg⟩
       have HRN5 : Hid (runG (joinE fs) meetE v (l.drop (k + 1)) (st ++ [ve]) = R) := zh hrun
       clear hin hrng hrv hg hrun hjl
       go_wp2_with (first
        | (refine wpList_loadElemIn (by rfl) _ rfl b2 (o2 + j * 8) rfl _ HVE.out HRV.out ?_)
        | (refine wpList_one8 rfl _ rfl ve HVE.out rfl ?_; intro w5 r5 hb5; have HR5 := zh r5; have HB5 := zh hb5; have HO5 := zh (own_below HO4.out hb5 (zL _)); have HS5 := zh (zM HBW4.out.size hb5.size); clear r5 hb5)
        | (refine wpList_moreS _ rfl _ _ 37 rfl 40 zeroE 8 64 Tryz.underlying37 infoElemZ rfl (by decide) w2.heap.size A' sl c' (escells st) rfl HO5.out w4.heap.size (ucells ve) rfl (uc_len HVE.out) (uc_cells HR5.out) (uc_one _) hbd1 hbd2 HS5.out ?_; intro A2 c2 w6 hown6 hb6 _ _; have HO6 := zh hown6; have HB6 := zh hb6; clear hown6 hb6))
       have hln : (st ++ [ve]).length = sl + 1 := by rw [zA7, HSL.out]; rfl
       have hcs : escells st ++ ucells ve = escells (st ++ [ve]) := by rw [escells_app]; simp [escells]
       have HO7 := HO6.out
       rw [hcs] at HO7
       go_roundw
       case rel =>
        refine ⟨k + 1, c2, A2, st ++ [ve], by omega, by omega, by go_num, by rw [hln], ?_, ?_, HG5, HRN5, zh ((HBW4.out.trans (HB5.out.mono HBW4.out.size)).trans HB6.out)⟩
        ·rw [hln]; exact HO7
        ·show ∀ y ∈ st ++ [ve], EW y
         intro y hy
         rcases List.mem_append.1 hy with hy | hy
         ·exact HES.out y hy
         ·rw [List.mem_singleton.1 hy]; exact HVE.out
       case measure => simp [intOf]; omega
      ·rw [if_neg hin] at hrun
       have HNONE : Hid (∀ W, Below w.heap.size w W → Q' (.returned (retE none)) W) := zh fun W hW => HEND.out none W (by rw [HRV.out, ← hrun]; rfl) hW
       clear hrun hg
       have hgg := HG3.out
       by_cases hn0 : nn < 0
       ·have q1 : decide (nn < 0) = true := zE hn0
        clear hin
        have HR64 := zh (HR6.out.below HBW4.out HR6.out.lt)
        go_wp2_with (refine wpList_stRow (by rfl) _ _ _ rfl (w.heap.size + 1) (uv z8) rfl rfl _ _ HR64.out (einfo2 HZ8.out) rfl (uv8_one _) ?_; intro w5 r5 he; have HR65 := zh r5; have HE5 := zh he; clear r5 he)
        exact bodyPost_ret (ret2 rfl _ _ (w.heap.size + 1) _ _ (0, 0) _ (.bool false) rfl rfl HR65.out Tryz.underlying40 rfl (einfo2 HZ8.out)) rfl (HNONE.out w5 ((HB.out.trans (HBW4.out.mono HSZ.out)).trans (HE5.out.below (by omega))))
       ·have q1 : decide (nn < 0) = false := zF hn0
        have hq2 : (q : Int) ≤ nn := by omega
        have q2 : decide ((q : Int) ≤ nn) = true := zE hq2
        clear hin
        have HR64 := zh (HR6.out.below HBW4.out HR6.out.lt)
        go_wp2_with (refine wpList_stRow (by rfl) _ _ _ rfl (w.heap.size + 1) (uv z8) rfl rfl _ _ HR64.out (einfo2 HZ8.out) rfl (uv8_one _) ?_; intro w5 r5 he; have HR65 := zh r5; have HE5 := zh he; clear r5 he)
        exact bodyPost_ret (ret2 rfl _ _ (w.heap.size + 1) _ _ (0, 0) _ (.bool false) rfl rfl HR65.out Tryz.underlying40 rfl (einfo2 HZ8.out)) rfl (HNONE.out w5 ((HB.out.trans (HBW4.out.mono HSZ.out)).trans (HE5.out.below (by omega))))
     rw [if_neg h1] at hrun
     have n1 : (op == 1) = false := by simpa using h1
     by_cases h2 : op = 2
     ·subst h2
      rw [if_pos (.inr rfl)] at hg
      rw [if_pos rfl] at hrun
      have HVE : Hid (EW e) := HEW
      have HG5 : Hid (∃ mx, rgtB (roomG (l.drop (k + 1)) (st ++ [e]).length mx) = true) := zh ⟨_, by rw [zA7, HSL.out]; exact hg⟩
      have HRN5 : Hid (runG (joinE fs) meetE v (l.drop (k + 1)) (st ++ [e]) = R) := zh hrun
      clear hg hrun h1 n1
      go_wp2_with (first
       | (refine wpList_loadElemIn (by rfl) _ rfl gi 2 rfl _ HEW.out HC2.out ?_)
       | (refine wpList_one8 rfl _ rfl e HEW.out rfl ?_; intro w5 r5 hb5; have HR5 := zh r5; have HB5 := zh hb5; have HO5 := zh (own_below HO4.out hb5 (zL _)); have HS5 := zh (zM HBW4.out.size hb5.size); clear r5 hb5)
       | (refine wpList_moreS _ rfl _ _ 37 rfl 40 zeroE 8 64 Tryz.underlying37 infoElemZ rfl (by decide) w2.heap.size A' sl c' (escells st) rfl HO5.out w4.heap.size (ucells e) rfl (uc_len HEW.out) (uc_cells HR5.out) (uc_one _) hbd1 hbd2 HS5.out ?_; intro A2 c2 w6 hown6 hb6 _ _; have HO6 := zh hown6; have HB6 := zh hb6; clear hown6 hb6))
      have hln : (st ++ [e]).length = sl + 1 := by rw [zA7, HSL.out]; rfl
      have hcs : escells st ++ ucells e = escells (st ++ [e]) := by rw [escells_app]; simp [escells]
      have HO7 := HO6.out
      rw [hcs] at HO7
      go_roundw
      case rel =>
       refine ⟨k + 1, c2, A2, st ++ [e], by omega, by omega, by go_num, by rw [hln], ?_, ?_, HG5, HRN5, zh ((HBW4.out.trans (HB5.out.mono HBW4.out.size)).trans HB6.out)⟩
       ·rw [hln]; exact HO7
       ·show ∀ y ∈ st ++ [e], EW y
        intro y hy
        rcases List.mem_append.1 hy with hy | hy
        ·exact HES.out y hy
        ·rw [List.mem_singleton.1 hy]; exact HVE.out
      case measure => simp [intOf]; omega
     rw [if_neg h2] at hrun
     rw [if_neg (by omega)] at hg
     have n2 : (op == 2) = false := by simpa using h2
     have h34 : op = 3 ∨ op = 4 := by
      by_cases h : op = 3 ∨ op = 4
      ·exact h
      ·rw [if_neg h] at hg; cases hg
     rw [if_pos h34] at hg
     have hbnd : ¬ (nn < 1 ∨ (sl : Int) < nn) := fun h => by rw [if_pos h] at hg; cases hg
     rw [if_neg hbnd] at hg
     obtain ⟨j, rfl⟩ : ∃ j : Nat, nn = (j : Int) := ⟨nn.toNat, by omega⟩
     rw [Int.toNat_natCast] at hrun hg
     obtain ⟨m, hm⟩ : ∃ z, z = sl - j := ⟨_, rfl⟩
     obtain ⟨k2, hk2⟩ : ∃ z, z = j - 1 := ⟨_, rfl⟩
     have hm1 : sl = m + j := by omega
     have hm2 : j = k2 + 1 := by omega
     have hmk : m + k2 < st.length := by rw [HSL.out]; omega
     have hml : m ≤ st.length := by rw [HSL.out]; omega
     have hmk1 : m + 1 ≤ k + 1 := by omega
     have hsj : sl + 1 - j = m + 1 := by omega
     rw [← hm, ← hk2] at hrun
     rw [hsj] at hg
     have hmax : sl ≤ 1000000 := by omega
     have HM1 := zh hm1
     have HM2 := zh hm2
     clear hm hk2 hsj hbnd h1 h2 hm1 hm2 hst
     have HRW4 := HR4
     obtain ⟨g, rfl, hg1, hg2⟩ := own_some HO4.out (by have := HM1.out; have := HM2.out; omega)
     have HCA := zh (ownCap HO4.out)
     have HSE := zh (Sl.of_own HO4.out)
     obtain ⟨s0, hs0⟩ : ∃ z, z = m + k2 := ⟨_, rfl⟩
     have hs0i : (sl : Int) - 1 = (s0 : Int) := by have := HM1.out; have := HM2.out; omega
     have hs0w : IntKind.i64.wrap ((sl : Int) - 1) = (s0 : Int) := by have := HM1.out; have := HM2.out; rw [IntWalk.i64_in _ ⟨by omega, by omega⟩]; omega
     have hs0l : (s0 : Int) < (sl : Int) := by omega
     have hrg := els_rng HSE.out HES.out (k := s0) (by rw [HSL.out]; omega)
     rw [Nat.zero_add] at hrg
     have HRG := zh hrg
     have HV0 : Hid (EW (st.getD s0 [])) := zh (HES.out _ (eget_mem (by rw [HSL.out]; omega)))
     have HS0 := zh hs0
     have HGL := zh hg2
     have HGL1 := zh hg1
     have HN2 : Hid (k2 + 2 = j + 1) := zh (by have := HM2.out; omega)
     have hk2b : k2 ≤ 1000000 := by have := HM1.out; have := HM2.out; omega
     clear hrg hs0 hg1 hg2
     rcases h34 with rfl | rfl
     ·rw [if_pos rfl] at hrun
      have HEW5 : Hid (∀ e ∈ repS (joinE fs) st m k2, EW e) := zh (repS_ew (fun a b ha hb => joinE_ew fs ha hb) HES.out hmk)
      have hln : (repS (joinE fs) st m k2).length = m + 1 := repS_len _ _ hml
      have HG5 : Hid (∃ mx, rgtB (roomG (l.drop (k + 1)) (repS (joinE fs) st m k2).length mx) = true) := zh ⟨_, by rw [hln]; exact hg⟩
      have HRN5 : Hid (runG (joinE fs) meetE v (l.drop (k + 1)) (repS (joinE fs) st m k2) = R) := zh hrun
      have HLN := zh hln
      have hmst : m ≤ sl := by have := HM1.out; omega
      have hCSV : ∀ va, va = repV (joinE fs) ((st.drop m).take k2) (st.getD s0 []) (downTo k2 k2) → escells (st.take m) ++ ucells va = escells (repS (joinE fs) st m k2) := fun va h => by
       unfold repS
       rw [escells_app, ← HS0.out, ← h]
       simp [escells]
      have HCSV := zh hCSV
      have HESx : Hid (∀ i, i < k2 → ((st.drop m).take k2).getD i [] = st.getD (m + i) []) := zh fun i hi => by
       rw [List.getD_eq_getElem?_getD, List.getD_eq_getElem?_getD, List.getElem?_take, if_pos hi, List.getElem?_drop]
      clear hg hrun hml hmk hln hCSV
      generalize hv0 : st.getD s0 [] = v00 at *
      have HV00 := zh hv0; clear hv0
      go_upto_region 15 with (first
       | (refine wpList_loadElemIn (by rfl) _ rfl g (s0 * 8) rfl _ HV0.out HRG.out ?_)
       | (refine wpList_stRow (by rfl) _ _ _ rfl w4.heap.size (uv v00) rfl rfl _ _ (RowAt.new _ _ _) (einfo2 HV0.out) (by have := HV0.out.1; simp [uv, ucells, this]) (uv8_one _) ?_; intro wE rE he; have HRE := zh rE; have HBE : Hid (Below w4.heap.size w4 wE) := zh (((zB _ _).alloc (zL _) _).trans (he.below (zL _))); clear rE he))
      have HGE : Hid (gi < w4.heap.size) := zh HR4.out.lt
      have HWE : Hid (w2.heap.size ≤ w4.heap.size) := zh HBW4.out.size
      have HBWE : Hid (Below w2.heap.size w2 wE) := zh (HBW4.out.trans (HBE.out.mono HWE.out))
      have HOE := zh (own_below HO4.out HBE.out (zL _))
      have HRIE := zh (HR4.out.below HBE.out HGE.out)
      have HGLE : Hid (g < w4.heap.size) := HGL
      obtain ⟨ge, hge⟩ : ∃ z, z = w4.heap.size := ⟨_, rfl⟩
      rw [← hge] at HRE HGE HWE HGLE ⊢
      clear hge c0 c1 HC2
      have HIN : Hid (∀ W, Below ge wE W → W.cell? ⟨gi, 0, none⟩ = some (.int .i64 3) ∧ W.cell? ⟨gi, 1, none⟩ = some (.int .i64 (j : Int))) := zh fun W hW => by
       obtain ⟨x0, x1, _⟩ := ins_cells (HRIE.out.below hW HGE.out)
       exact ⟨x0, x1⟩
      go_upto_region 16 with fail
      go_loopw [12] (fun kv wr => ∃ (p kk : Nat), p ≤ k2 ∧ kk = p + 2 ∧ kv = .int .i64 kk ∧ Hid (RowAt wr ge 40 (uv (repV (joinE fs) ((st.drop m).take k2) v00 (downTo k2 p)))) ∧ Hid (EW (repV (joinE fs) ((st.drop m).take k2) v00 (downTo k2 p))) ∧ Hid (Below ge wE wr)) (fun kv _ => (k2 + 2) - (intOf kv).toNat)
      case atStart => exact ⟨0, 2, by omega, rfl, rfl, HRE, HV0, zh (zB _ _)⟩
      case round =>
       obtain ⟨p, kk, hp, hkk, rfl, HRi, HACC, HBi⟩ := hrel
       obtain ⟨y0, y1⟩ := HIN.out _ HBi.out
       by_cases hpl : p < k2
       ·obtain ⟨z, hz⟩ : ∃ z, z = m + (k2 - 1 - p) := ⟨_, rfl⟩
        have hzst : z < st.length := by have := HM1.out; have := HM2.out; rw [HSL.out]; omega
        have hkj : (kk : Int) ≤ (j : Int) := by have := HM2.out; omega
        have hzw : IntKind.i64.wrap ((sl : Int) - (kk : Int)) = (z : Int) := by have := HM1.out; have := HM2.out; rw [IntWalk.i64_in _ ⟨by omega, by omega⟩]; omega
        have hzl : (z : Int) < (sl : Int) := by have := HSL.out; omega
        have HXE : Hid (EW (st.getD z [])) := zh (HES.out _ (eget_mem hzst))
        have hrz := els_rng HSE.out HES.out hzst
        rw [Nat.zero_add] at hrz
        have CSE : ∀ W, Below ge wE W → W.rangeAt g (z * 8) (ucells (st.getD z [])) := fun W hW j' u hu => (hW.cell (p := ⟨g, z * 8 + j', none⟩) HGLE.out).trans ((HBE.out.cell (p := ⟨g, z * 8 + j', none⟩) HGL.out).trans (hrz j' u hu))
        have CS3 : ∀ W, Below ge wE W → RowAt W w.heap.size 24 (sv t SA fs.length sc) := fun W hW => HR3.out.below (HBWE.out.trans (hW.mono HWE.out)) HR3.out.lt
        have hacc : repV (joinE fs) ((st.drop m).take k2) v00 (downTo k2 (p + 1)) = (joinE fs) (st.getD z []) (repV (joinE fs) ((st.drop m).take k2) v00 (downTo k2 p)) := by
             rw [downTo_succ, repV_snoc, HESx.out _ (by omega), hz]
        have HAE := zh hacc; clear hacc
        generalize repV (joinE fs) ((st.drop m).take k2) v00 (downTo k2 p) = acc at *
        generalize st.getD z [] = xe at *
        have HNA : Hid (EW ((joinE fs) xe acc)) := zh ((fun a b ha hb => joinE_ew fs ha hb) xe acc HXE.out HACC.out)
        have HCJ := zh fun V (hV : Below ge wE V) => qjoin8_any t SA sc fs xe acc HXE.out HACC.out V (HFf.out V (HBWE.out.trans (hV.mono HWE.out)))
        have HKK := zh hkk
        have hkkb : kk ≤ 1000002 := by omega
        have HPL := zh hpl
        clear hkk hz hzst hrz hpl hp
        generalize (joinE fs) xe acc = nacc at *
        go_upto_region 19 with fail
        clear y0 y1
        have CN : ∀ W, Below ge wE W → W.cell? ⟨gi, 1, none⟩ = some (.int .i64 (j : Int)) := fun W hW => (HIN.out W hW).2
        have HSvA : Hid (Below ge wE wr.drew) := zh HBi.out.drew
        have HREvA : Hid (RowAt wr.drew ge 40 (uv acc)) := HRi
        refine wp_region_ou (fun V => Below ge wE V) ((.take 0 (.take 1 (.take 2 (.take 3 (.take 4 (.take 5 (.take 6 (.take 7 (.solo 8 (.solo 9 (.solo 10 .nil)))))))))))) (by kernel_rfl) (by kernel_rfl) rfl (by kernel_rfl) HSvA.out ?_
        generalize wr.drew = v0 at HSvA HREvA ⊢
        have HSv0 := HSvA
        have HREv0 := HREvA
        have HGE0 : Hid (ge ≤ v0.heap.size) := zh (Nat.le_of_lt HREv0.out.lt)
        iterate 8
             (refine wpOU_step (zO rfl) ?_)
             (first
              | (refine wpOU_skip (by rfl) ?_)
              | (refine wpOU_take (by rfl) (take_row _ _ rfl w.heap.size rfl _ _ _ CS3 Tryz.underlying24 rfl (by kernel_rfl)) ?_)
              | (refine wpOU_take (by rfl) (take_loadElemIn _ rfl g (z * 8) rfl _ HXE.out CSE) ?_)
              | (refine wpOU_take (v := ?_) (by rfl) ?_ ?_; rotate_left 1; (intro wx hSx; go_simp; try with_reducible rfl)))
             (try simp only [Act.put, zA4, zA5, zA6])
        (refine wpOU_solo (zO rfl) ?_)
        intro K hK
        rw [if_pos (by rfl)]
        refine wp_load_row _ _ rfl ge rfl _ _ (0, 0) _ HREv0.out Tryz.underlying40 rfl (einfo2 HACC.out) ?_
        refine hK.out _ _ HSv0.out ?_
        clear hK K
        (try simp only [Act.put, zA4, zA5, zA6])
        (refine wpOU_solo (zO rfl) ?_)
        intro K hK
        go_simp
        go_at_call 24
        refine (HCJ.out _ HSv0.out).mono ?_
        rintro e v1 ⟨rfl, hb⟩
        have HSv1 : Hid (Below ge wE v1) := zh (HSv0.out.trans (hb.mono HGE0.out))
        have HREv1 := zh (HREv0.out.below hb HREv0.out.lt)
        clear hb
        refine hK.out _ _ HSv1.out ?_
        clear hK K
        (try simp only [Act.put, zA4, zA5, zA6])
        (refine wpOU_solo (zO rfl) ?_)
        intro K hK
        rw [if_pos (by rfl)]
        refine wp_store_row _ _ _ rfl ge (uv nacc) rfl rfl _ _ HREv1.out (einfo2 HNA.out) (by rw [uv8_size HACC.out, uv8_size HNA.out]) (uv8_one _) ?_
        have HSv2 : Hid (Below ge wE (v1.setRow ge (uv nacc))) := zh (HSv1.out.trans (Else.below (Else.setRow v1 ge _) (zL _)))
        have HREv2 := zh (HREv1.out.setRow (uv nacc))
        refine hK.out _ _ HSv2.out ?_
        clear hK K
        (try simp only [Act.put, zA4, zA5, zA6])
        generalize v1.setRow ge (uv nacc) = v2 at *
        refine wpOU_done ?_
        go_wp2_with fail
        go_roundw
        case rel =>
             have h1 := HKK.out
             have h2 := HPL.out
             refine ⟨p + 1, kk + 1, by omega, by omega, by go_num, ?_, ?_, HSv2⟩
             ·rw [HAE.out]; exact HREv2
             ·rw [HAE.out]; exact HNA
        case measure =>
             have h1 := HKK.out
             have h2 := HPL.out
             simp [intOf]; omega
       ·obtain rfl : p = k2 := by omega
        have hkj : ¬ (kk : Int) ≤ (j : Int) := by have := HM2.out; omega
        have hkd : decide ((kk : Int) ≤ (j : Int)) = false := zF hkj
        have hkn : decide (kk ≤ j) = false := zF (by omega)
        go_upto_region 21 with fail
        clear y0 y1
        have HCS : Hid (escells (st.take m) ++ ucells (repV (joinE fs) ((st.drop m).take p) v00 (downTo p p)) = escells (repS (joinE fs) st m p)) := zh (HCSV.out _ rfl)
        have HNA := HACC
        generalize repV (joinE fs) ((st.drop m).take p) v00 (downTo p p) = nacc at *
        have HBF : Hid (Below w2.heap.size w2 wr) := zh (HBWE.out.trans (HBi.out.mono HWE.out))
        have HWF : Hid (w2.heap.size ≤ wr.heap.size) := zh HBF.out.size
        have HLM : Hid ((escells (st.take m)).length = m * 8) := zh (by rw [escells_len fun e he => HES.out e (List.mem_of_mem_take he), List.length_take, HSL.out, Nat.min_eq_left hmst])
        have HSW : Hid (Sl wr wr.heap.size (some ⟨g, 0, none⟩) (escells (st.take m))) := zh (by
             have h1 := own_cut8 HOE.out m hmst (by simp)
             rw [escells_take HES.out m (by rw [HSL.out]; exact hmst)] at h1
             intro hne
             obtain ⟨b9, o9, e9, hb9, hc9⟩ := Sl.of_own h1 hne
             injection e9 with e9
             injection e9 with e91 e92 _
             subst e91 e92
             have hgw : g < wr.heap.size := by have := HRi.out.lt; have := HGLE.out; omega
             exact ⟨g, 0, rfl, hgw, fun q9 u hu => (HBi.out.cell (p := ⟨g, 0 + q9, none⟩) HGLE.out).trans (hc9 q9 u hu)⟩)
        have hmc : m ≤ c' := by have := HCA.out; omega
        have hmb1 : m + 1 ≤ maxLen := by simp only [maxLen]; omega
        have hmb2 : (m + 1) * 64 ≤ 140737488355328 := by omega
        have hm42 : m ≤ 4294967296 := by omega
        have hmw : IntKind.i64.wrap ((sl : Int) - (j : Int)) = (m : Int) := by have := HM1.out; rw [IntWalk.i64_in _ ⟨by omega, by omega⟩]; omega
        have hgi2 : gi < wr.heap.size := by have := HRi.out.lt; have := HGE.out; omega
        have HCNw : Hid (RowAt wr gi 85 _) := zh (HRIE.out.below HBi.out HGE.out)
        have CN : ∀ V, Below wr.heap.size wr V → V.cell? ⟨gi, 1, none⟩ = some (.int .i64 (j : Int)) := fun V hV => (ins_cells (HCNw.out.below hV hgi2)).2.1
        have CE : ∀ V, Below wr.heap.size wr V → RowAt V ge 40 (uv nacc) := fun V hV => HRi.out.below hV HRi.out.lt
        have HST := HSW
        have HSv0 : Hid (Below wr.heap.size wr wr.drew) := zh (zB _ _).drew
        obtain ⟨k2, hk2⟩ : ∃ z, z = p := ⟨_, rfl⟩
        subst hk2
        clear hkj hkd hkn hgi2 HSW
        have HBT := HBF
        obtain ⟨wF, hwF⟩ : ∃ z, z = wr := ⟨_, rfl⟩
        subst hwF
        refine wp_region_ou (fun V => Below wF.heap.size wF V) ((.take 1 (.take 2 (.take 3 (.take 4 (.take 5 (.take 6 (.take 7 (.take 9 (.two 0 (.two 8 (.solo 10 (.solo 11 (.take 12 .nil))) 10 (.solo 8 (.solo 11 (.take 12 .nil)))) 10 (.solo 0 (.solo 8 (.solo 11 (.take 12 .nil)))))))))))))) (by kernel_rfl) (by kernel_rfl) rfl (by kernel_rfl) HSv0.out ?_
        generalize wF.drew = v0 at HSv0 ⊢
        iterate 8
             (refine wpOU_step (zO rfl) ?_)
             (first
              | (refine wpOU_skip (by rfl) ?_)
              | (refine wpOU_take (by rfl) (take_pre _ _ _ rfl (some ⟨g, 0, none⟩) sl c' m 8 rfl rfl (by kernel_rfl) hsl8 hmc rfl) ?_)
              | (refine wpOU_take (by rfl) (take_row _ _ rfl ge rfl _ _ _ CE Tryz.underlying40 rfl (einfo2 HNA.out)) ?_)
              | (refine wpOU_take (v := ?_) (by rfl) ?_ ?_; rotate_left 1; (intro wx hSx; have hc_0 := CN wx hSx; go_simp; try with_reducible rfl)))
             (try simp only [Act.put, zA4, zA5, zA6])
        refine wpOU_two ?_ ?_
        ·(refine wpOU_solo (zO rfl) ?_)
         intro K hK
         rw [if_pos (by rfl)]
         refine wp_none8 rfl ?_
         intro v1 hem hb
         have HSv1 : Hid (Below wF.heap.size wF v1) := zh (HSv0.out.trans (hb.mono HSv0.out.size))
         obtain ⟨ne, hne⟩ : ∃ z, z = v0.heap.size := ⟨_, rfl⟩
         rw [← hne] at hem ⊢
         have HEf1 := zh (own_mono hem (show wF.heap.size ≤ ne by have := HSv0.out.size; omega))
         clear hem hb hne
         refine hK.out _ _ HSv1.out ?_
         clear hK K
         (try simp only [Act.put, zA4, zA5, zA6])
         refine wpOU_two ?_ ?_
         ·(refine wpOU_solo (zO rfl) ?_)
          intro K hK
          rw [if_pos (by rfl)]
          refine wp_cat8 _ _ 37 rfl 40 zeroE 8 64 Tryz.underlying37 infoElemZ rfl (by decide) (by decide) wF.heap.size (some ⟨ne, 0, none⟩) 0 0 [] rfl HEf1.out wF.heap.size (some ⟨g, 0, none⟩) m c' (escells (st.take m)) rfl HLM.out hm42 (HST.out.below HSv1.out) (ec_one _) (by omega) HSv1.out.size ?_
          intro A2 c2 v2 hown hbe hgr _
          rw [Nat.zero_add] at hown ⊢
          have HEf2 : Hid (v2.ownsRow wF.heap.size 40 8 (.slice A2 m c2) m (escells (st.take m))) := zh (by simpa using hown)
          have HSv2 : Hid (Below wF.heap.size wF v2) := zh (HSv1.out.trans hbe)
          clear hown hbe hgr
          refine hK.out _ _ HSv2.out ?_
          clear hK K
          (try simp only [Act.put, zA4, zA5, zA6])
          (refine wpOU_solo (zO rfl) ?_)
          intro K hK
          rw [if_pos (by rfl)]
          refine wp_one8 _ rfl nacc HNA.out rfl ?_
          have hb : Below v2.heap.size v2 (v2.alloc (.cells (uv nacc) 40)) := (zB _ _).alloc (zL _) _
          have hon := RowAt.new v2 40 (uv nacc)
          obtain ⟨no, hno⟩ : ∃ z, z = v2.heap.size := ⟨_, rfl⟩
          rw [← hno] at hon ⊢
          generalize v2.alloc (.cells (uv nacc) 40) = v3 at *
          have HSv3 : Hid (Below wF.heap.size wF v3) := zh (HSv2.out.trans (hb.mono HSv2.out.size))
          have HEf3 := zh (own_below HEf2.out hb (zL _))
          have HON3 := zh hon
          clear hb hon hno
          refine hK.out _ _ HSv3.out ?_
          clear hK K
          (try simp only [Act.put, zA4, zA5, zA6])
          (refine wpOU_solo (zO rfl) ?_)
          intro K hK
          rw [if_pos (by rfl)]
          refine wp_moreS _ _ 37 rfl 40 zeroE 8 64 Tryz.underlying37 infoElemZ rfl (by decide) wF.heap.size A2 m c2 (escells (st.take m)) rfl HEf3.out no (ucells nacc) rfl (uc_len HNA.out) (uc_cells HON3.out) (uc_one _) hmb1 hmb2 HSv3.out.size ?_
          intro A3 c3 v4 hown hbe _ _
          have HSv4 : Hid (Below wF.heap.size wF v4) := zh (HSv3.out.trans hbe)
          have HEz := zh hown
          clear hown hbe
          refine hK.out _ _ HSv4.out ?_
          clear hK K
          (try simp only [Act.put, zA4, zA5, zA6])
          iterate 1
           (refine wpOU_step (zO rfl) ?_)
           (first
                 | (refine wpOU_skip (by rfl) ?_)
                 | (refine wpOU_take (by rfl) (take_pre _ _ _ rfl (some ⟨g, 0, none⟩) sl c' m 8 rfl rfl (by kernel_rfl) hsl8 hmc rfl) ?_)
                 | (refine wpOU_take (by rfl) (take_row _ _ rfl ge rfl _ _ _ CE Tryz.underlying40 rfl (einfo2 HNA.out)) ?_)
                 | (refine wpOU_take (v := ?_) (by rfl) ?_ ?_; rotate_left 1; (intro wx hSx; have hc_0 := CN wx hSx; go_simp; try with_reducible rfl)))
           (try simp only [Act.put, zA4, zA5, zA6])
          refine wpOU_done ?_
          go_wp2_with fail
          have HO7 := own_mono HEz.out HWF.out
          rw [HCS.out] at HO7
          go_roundw
          case rel =>
           refine ⟨k + 1, c3, A3, repS (joinE fs) st m k2, by omega, by rw [HLN.out]; exact hmk1, by go_num, by rw [HLN.out], ?_, HEW5, HG5, HRN5, zh (HBF.out.trans (HSv4.out.mono HWF.out))⟩
           rw [HLN.out]; exact HO7
          case measure => simp [intOf]; omega
         ·(refine wpOU_solo (zO rfl) ?_)
          intro K hK
          rw [if_pos (by rfl)]
          refine wp_one8 _ rfl nacc HNA.out rfl ?_
          have hb : Below v1.heap.size v1 (v1.alloc (.cells (uv nacc) 40)) := (zB _ _).alloc (zL _) _
          have hon := RowAt.new v1 40 (uv nacc)
          obtain ⟨no, hno⟩ : ∃ z, z = v1.heap.size := ⟨_, rfl⟩
          have HNEO : Hid (ne ≠ no) := zh (by have := (HEf1.out.lt ne rfl).2; omega)
          rw [← hno] at hon ⊢
          generalize v1.alloc (.cells (uv nacc) 40) = v2 at *
          have HSv2 : Hid (Below wF.heap.size wF v2) := zh (HSv1.out.trans (hb.mono HSv1.out.size))
          have HEf2 := zh (own_below HEf1.out hb (zL _))
          have HON2 := zh hon
          clear hb hon hno
          refine hK.out _ _ HSv2.out ?_
          clear hK K
          (try simp only [Act.put, zA4, zA5, zA6])
          (refine wpOU_solo (zO rfl) ?_)
          intro K hK
          rw [if_pos (by rfl)]
          refine wp_cat8 _ _ 37 rfl 40 zeroE 8 64 Tryz.underlying37 infoElemZ rfl (by decide) (by decide) wF.heap.size (some ⟨ne, 0, none⟩) 0 0 [] rfl HEf2.out wF.heap.size (some ⟨g, 0, none⟩) m c' (escells (st.take m)) rfl HLM.out hm42 (HST.out.below HSv2.out) (ec_one _) (by omega) HSv2.out.size ?_
          intro A2 c2 v3 hown hbe hgr _
          rw [Nat.zero_add] at hown ⊢
          have HEf3 : Hid (v3.ownsRow wF.heap.size 40 8 (.slice A2 m c2) m (escells (st.take m))) := zh (by simpa using hown)
          have HSv3 : Hid (Below wF.heap.size wF v3) := zh (HSv2.out.trans hbe)
          have HON3 : Hid (RowAt v3 no 40 (uv nacc)) := zh (HON2.out.grown hgr fun e => by simp [Value.ownBlock] at e; exact HNEO.out e)
          clear hown hbe hgr
          refine hK.out _ _ HSv3.out ?_
          clear hK K
          (try simp only [Act.put, zA4, zA5, zA6])
          (refine wpOU_solo (zO rfl) ?_)
          intro K hK
          rw [if_pos (by rfl)]
          refine wp_moreS _ _ 37 rfl 40 zeroE 8 64 Tryz.underlying37 infoElemZ rfl (by decide) wF.heap.size A2 m c2 (escells (st.take m)) rfl HEf3.out no (ucells nacc) rfl (uc_len HNA.out) (uc_cells HON3.out) (uc_one _) hmb1 hmb2 HSv3.out.size ?_
          intro A3 c3 v4 hown hbe _ _
          have HSv4 : Hid (Below wF.heap.size wF v4) := zh (HSv3.out.trans hbe)
          have HEz := zh hown
          clear hown hbe
          refine hK.out _ _ HSv4.out ?_
          clear hK K
          (try simp only [Act.put, zA4, zA5, zA6])
          iterate 1
           (refine wpOU_step (zO rfl) ?_)
           (first
                 | (refine wpOU_skip (by rfl) ?_)
                 | (refine wpOU_take (by rfl) (take_pre _ _ _ rfl (some ⟨g, 0, none⟩) sl c' m 8 rfl rfl (by kernel_rfl) hsl8 hmc rfl) ?_)
                 | (refine wpOU_take (by rfl) (take_row _ _ rfl ge rfl _ _ _ CE Tryz.underlying40 rfl (einfo2 HNA.out)) ?_)
                 | (refine wpOU_take (v := ?_) (by rfl) ?_ ?_; rotate_left 1; (intro wx hSx; have hc_0 := CN wx hSx; go_simp; try with_reducible rfl)))
           (try simp only [Act.put, zA4, zA5, zA6])
          refine wpOU_done ?_
          go_wp2_with fail
          have HO7 := own_mono HEz.out HWF.out
          rw [HCS.out] at HO7
          go_roundw
          case rel =>
           refine ⟨k + 1, c3, A3, repS (joinE fs) st m k2, by omega, by rw [HLN.out]; exact hmk1, by go_num, by rw [HLN.out], ?_, HEW5, HG5, HRN5, zh (HBF.out.trans (HSv4.out.mono HWF.out))⟩
           rw [HLN.out]; exact HO7
          case measure => simp [intOf]; omega
        ·(refine wpOU_solo (zO rfl) ?_)
         intro K hK
         rw [if_pos (by rfl)]
         refine wp_one8 _ rfl nacc HNA.out rfl ?_
         have hb : Below v0.heap.size v0 (v0.alloc (.cells (uv nacc) 40)) := (zB _ _).alloc (zL _) _
         have hon := RowAt.new v0 40 (uv nacc)
         obtain ⟨no, hno⟩ : ∃ z, z = v0.heap.size := ⟨_, rfl⟩
         rw [← hno] at hon ⊢
         generalize v0.alloc (.cells (uv nacc) 40) = v1 at *
         have HSv1 : Hid (Below wF.heap.size wF v1) := zh (HSv0.out.trans (hb.mono HSv0.out.size))
         have HON1 := zh hon
         clear hb hon hno
         refine hK.out _ _ HSv1.out ?_
         clear hK K
         (try simp only [Act.put, zA4, zA5, zA6])
         (refine wpOU_solo (zO rfl) ?_)
         intro K hK
         rw [if_pos (by rfl)]
         refine wp_none8 rfl ?_
         intro v2 hem hb
         have HSv2 : Hid (Below wF.heap.size wF v2) := zh (HSv1.out.trans (hb.mono HSv1.out.size))
         have HON2 := zh (HON1.out.below hb HON1.out.lt)
         obtain ⟨ne, hne⟩ : ∃ z, z = v1.heap.size := ⟨_, rfl⟩
         have HNEO : Hid (ne ≠ no) := zh (by have := HON1.out.lt; omega)
         rw [← hne] at hem ⊢
         have HEf2 := zh (own_mono hem (show wF.heap.size ≤ ne by have := HSv1.out.size; omega))
         clear hem hb hne
         refine hK.out _ _ HSv2.out ?_
         clear hK K
         (try simp only [Act.put, zA4, zA5, zA6])
         (refine wpOU_solo (zO rfl) ?_)
         intro K hK
         rw [if_pos (by rfl)]
         refine wp_cat8 _ _ 37 rfl 40 zeroE 8 64 Tryz.underlying37 infoElemZ rfl (by decide) (by decide) wF.heap.size (some ⟨ne, 0, none⟩) 0 0 [] rfl HEf2.out wF.heap.size (some ⟨g, 0, none⟩) m c' (escells (st.take m)) rfl HLM.out hm42 (HST.out.below HSv2.out) (ec_one _) (by omega) HSv2.out.size ?_
         intro A2 c2 v3 hown hbe hgr _
         rw [Nat.zero_add] at hown ⊢
         have HEf3 : Hid (v3.ownsRow wF.heap.size 40 8 (.slice A2 m c2) m (escells (st.take m))) := zh (by simpa using hown)
         have HSv3 : Hid (Below wF.heap.size wF v3) := zh (HSv2.out.trans hbe)
         have HON3 : Hid (RowAt v3 no 40 (uv nacc)) := zh (HON2.out.grown hgr fun e => by simp [Value.ownBlock] at e; exact HNEO.out e)
         clear hown hbe hgr
         refine hK.out _ _ HSv3.out ?_
         clear hK K
         (try simp only [Act.put, zA4, zA5, zA6])
         (refine wpOU_solo (zO rfl) ?_)
         intro K hK
         rw [if_pos (by rfl)]
         refine wp_moreS _ _ 37 rfl 40 zeroE 8 64 Tryz.underlying37 infoElemZ rfl (by decide) wF.heap.size A2 m c2 (escells (st.take m)) rfl HEf3.out no (ucells nacc) rfl (uc_len HNA.out) (uc_cells HON3.out) (uc_one _) hmb1 hmb2 HSv3.out.size ?_
         intro A3 c3 v4 hown hbe _ _
         have HSv4 : Hid (Below wF.heap.size wF v4) := zh (HSv3.out.trans hbe)
         have HEz := zh hown
         clear hown hbe
         refine hK.out _ _ HSv4.out ?_
         clear hK K
         (try simp only [Act.put, zA4, zA5, zA6])
         iterate 1
          (refine wpOU_step (zO rfl) ?_)
          (first
                   | (refine wpOU_skip (by rfl) ?_)
                   | (refine wpOU_take (by rfl) (take_pre _ _ _ rfl (some ⟨g, 0, none⟩) sl c' m 8 rfl rfl (by kernel_rfl) hsl8 hmc rfl) ?_)
                   | (refine wpOU_take (by rfl) (take_row _ _ rfl ge rfl _ _ _ CE Tryz.underlying40 rfl (einfo2 HNA.out)) ?_)
                   | (refine wpOU_take (v := ?_) (by rfl) ?_ ?_; rotate_left 1; (intro wx hSx; have hc_0 := CN wx hSx; go_simp; try with_reducible rfl)))
          (try simp only [Act.put, zA4, zA5, zA6])
         refine wpOU_done ?_
         go_wp2_with fail
         have HO7 := own_mono HEz.out HWF.out
         rw [HCS.out] at HO7
         go_roundw
         case rel =>
          refine ⟨k + 1, c3, A3, repS (joinE fs) st m k2, by omega, by rw [HLN.out]; exact hmk1, by go_num, by rw [HLN.out], ?_, HEW5, HG5, HRN5, zh (HBF.out.trans (HSv4.out.mono HWF.out))⟩
          rw [HLN.out]; exact HO7
         case measure => simp [intOf]; omega
     ·rw [if_neg (by decide)] at hrun
      have HEW5 : Hid (∀ e ∈ repS (meetE) st m k2, EW e) := zh (repS_ew (fun a b ha _ => meetE_ew b ha) HES.out hmk)
      have hln : (repS (meetE) st m k2).length = m + 1 := repS_len _ _ hml
      have HG5 : Hid (∃ mx, rgtB (roomG (l.drop (k + 1)) (repS (meetE) st m k2).length mx) = true) := zh ⟨_, by rw [hln]; exact hg⟩
      have HRN5 : Hid (runG (joinE fs) meetE v (l.drop (k + 1)) (repS (meetE) st m k2) = R) := zh hrun
      have HLN := zh hln
      have hmst : m ≤ sl := by have := HM1.out; omega
      have hCSV : ∀ va, va = repV (meetE) ((st.drop m).take k2) (st.getD s0 []) (downTo k2 k2) → escells (st.take m) ++ ucells va = escells (repS (meetE) st m k2) := fun va h => by
       unfold repS
       rw [escells_app, ← HS0.out, ← h]
       simp [escells]
      have HCSV := zh hCSV
      have HESx : Hid (∀ i, i < k2 → ((st.drop m).take k2).getD i [] = st.getD (m + i) []) := zh fun i hi => by
       rw [List.getD_eq_getElem?_getD, List.getD_eq_getElem?_getD, List.getElem?_take, if_pos hi, List.getElem?_drop]
      clear hg hrun hml hmk hln hCSV
      generalize hv0 : st.getD s0 [] = v00 at *
      have HV00 := zh hv0; clear hv0
      go_upto_region 15 with (first
       | (refine wpList_loadElemIn (by rfl) _ rfl g (s0 * 8) rfl _ HV0.out HRG.out ?_)
       | (refine wpList_stRow (by rfl) _ _ _ rfl w4.heap.size (uv v00) rfl rfl _ _ (RowAt.new _ _ _) (einfo2 HV0.out) (by have := HV0.out.1; simp [uv, ucells, this]) (uv8_one _) ?_; intro wE rE he; have HRE := zh rE; have HBE : Hid (Below w4.heap.size w4 wE) := zh (((zB _ _).alloc (zL _) _).trans (he.below (zL _))); clear rE he))
      have HGE : Hid (gi < w4.heap.size) := zh HR4.out.lt
      have HWE : Hid (w2.heap.size ≤ w4.heap.size) := zh HBW4.out.size
      have HBWE : Hid (Below w2.heap.size w2 wE) := zh (HBW4.out.trans (HBE.out.mono HWE.out))
      have HOE := zh (own_below HO4.out HBE.out (zL _))
      have HRIE := zh (HR4.out.below HBE.out HGE.out)
      have HGLE : Hid (g < w4.heap.size) := HGL
      obtain ⟨ge, hge⟩ : ∃ z, z = w4.heap.size := ⟨_, rfl⟩
      rw [← hge] at HRE HGE HWE HGLE ⊢
      clear hge c0 c1 HC2
      have HIN : Hid (∀ W, Below ge wE W → W.cell? ⟨gi, 0, none⟩ = some (.int .i64 4) ∧ W.cell? ⟨gi, 1, none⟩ = some (.int .i64 (j : Int))) := zh fun W hW => by
       obtain ⟨x0, x1, _⟩ := ins_cells (HRIE.out.below hW HGE.out)
       exact ⟨x0, x1⟩
      go_upto_region 16 with fail
      go_loopw [12] (fun kv wr => ∃ (p kk : Nat), p ≤ k2 ∧ kk = p + 2 ∧ kv = .int .i64 kk ∧ Hid (RowAt wr ge 40 (uv (repV (meetE) ((st.drop m).take k2) v00 (downTo k2 p)))) ∧ Hid (EW (repV (meetE) ((st.drop m).take k2) v00 (downTo k2 p))) ∧ Hid (Below ge wE wr)) (fun kv _ => (k2 + 2) - (intOf kv).toNat)
      case atStart => exact ⟨0, 2, by omega, rfl, rfl, HRE, HV0, zh (zB _ _)⟩
      case round =>
       obtain ⟨p, kk, hp, hkk, rfl, HRi, HACC, HBi⟩ := hrel
       obtain ⟨y0, y1⟩ := HIN.out _ HBi.out
       by_cases hpl : p < k2
       ·obtain ⟨z, hz⟩ : ∃ z, z = m + (k2 - 1 - p) := ⟨_, rfl⟩
        have hzst : z < st.length := by have := HM1.out; have := HM2.out; rw [HSL.out]; omega
        have hkj : (kk : Int) ≤ (j : Int) := by have := HM2.out; omega
        have hzw : IntKind.i64.wrap ((sl : Int) - (kk : Int)) = (z : Int) := by have := HM1.out; have := HM2.out; rw [IntWalk.i64_in _ ⟨by omega, by omega⟩]; omega
        have hzl : (z : Int) < (sl : Int) := by have := HSL.out; omega
        have HXE : Hid (EW (st.getD z [])) := zh (HES.out _ (eget_mem hzst))
        have hrz := els_rng HSE.out HES.out hzst
        rw [Nat.zero_add] at hrz
        have CSE : ∀ W, Below ge wE W → W.rangeAt g (z * 8) (ucells (st.getD z [])) := fun W hW j' u hu => (hW.cell (p := ⟨g, z * 8 + j', none⟩) HGLE.out).trans ((HBE.out.cell (p := ⟨g, z * 8 + j', none⟩) HGL.out).trans (hrz j' u hu))
        have CS3 : ∀ W, Below ge wE W → RowAt W w.heap.size 24 (sv t SA fs.length sc) := fun W hW => HR3.out.below (HBWE.out.trans (hW.mono HWE.out)) HR3.out.lt
        have hacc : repV (meetE) ((st.drop m).take k2) v00 (downTo k2 (p + 1)) = (meetE) (st.getD z []) (repV (meetE) ((st.drop m).take k2) v00 (downTo k2 p)) := by
             rw [downTo_succ, repV_snoc, HESx.out _ (by omega), hz]
        have HAE := zh hacc; clear hacc
        generalize repV (meetE) ((st.drop m).take k2) v00 (downTo k2 p) = acc at *
        generalize st.getD z [] = xe at *
        have HNA : Hid (EW ((meetE) xe acc)) := zh ((fun a b ha _ => meetE_ew b ha) xe acc HXE.out HACC.out)
        have HCJ := zh fun V (hV : Below ge wE V) => qmeet8_any xe acc HXE.out HACC.out V
        have HKK := zh hkk
        have hkkb : kk ≤ 1000002 := by omega
        have HPL := zh hpl
        clear hkk hz hzst hrz hpl hp
        generalize (meetE) xe acc = nacc at *
        go_upto_region 20 with fail
        clear y0 y1
        have CN : ∀ W, Below ge wE W → W.cell? ⟨gi, 1, none⟩ = some (.int .i64 (j : Int)) := fun W hW => (HIN.out W hW).2
        have HSvA : Hid (Below ge wE wr.drew) := zh HBi.out.drew
        have HREvA : Hid (RowAt wr.drew ge 40 (uv acc)) := HRi
        refine wp_region_ou (fun V => Below ge wE V) ((.take 0 (.take 1 (.take 2 (.take 3 (.take 4 (.take 5 (.take 6 (.solo 7 (.solo 8 (.solo 9 .nil))))))))))) (by kernel_rfl) (by kernel_rfl) rfl (by kernel_rfl) HSvA.out ?_
        generalize wr.drew = v0 at HSvA HREvA ⊢
        have HSv0 := HSvA
        have HREv0 := HREvA
        have HGE0 : Hid (ge ≤ v0.heap.size) := zh (Nat.le_of_lt HREv0.out.lt)
        iterate 7
             (refine wpOU_step (zO rfl) ?_)
             (first
              | (refine wpOU_skip (by rfl) ?_)
              | (refine wpOU_take (by rfl) (take_loadElemIn _ rfl g (z * 8) rfl _ HXE.out CSE) ?_)
              | (refine wpOU_take (v := ?_) (by rfl) ?_ ?_; rotate_left 1; (intro wx hSx; go_simp; try with_reducible rfl)))
             (try simp only [Act.put, zA4, zA5, zA6])
        (refine wpOU_solo (zO rfl) ?_)
        intro K hK
        rw [if_pos (by rfl)]
        refine wp_load_row _ _ rfl ge rfl _ _ (0, 0) _ HREv0.out Tryz.underlying40 rfl (einfo2 HACC.out) ?_
        refine hK.out _ _ HSv0.out ?_
        clear hK K
        (try simp only [Act.put, zA4, zA5, zA6])
        (refine wpOU_solo (zO rfl) ?_)
        intro K hK
        go_simp
        go_at_call 49
        refine (HCJ.out _ HSv0.out).mono ?_
        rintro e v1 ⟨rfl, hb⟩
        have HSv1 : Hid (Below ge wE v1) := zh (HSv0.out.trans (hb.mono HGE0.out))
        have HREv1 := zh (HREv0.out.below hb HREv0.out.lt)
        clear hb
        refine hK.out _ _ HSv1.out ?_
        clear hK K
        (try simp only [Act.put, zA4, zA5, zA6])
        (refine wpOU_solo (zO rfl) ?_)
        intro K hK
        rw [if_pos (by rfl)]
        refine wp_store_row _ _ _ rfl ge (uv nacc) rfl rfl _ _ HREv1.out (einfo2 HNA.out) (by rw [uv8_size HACC.out, uv8_size HNA.out]) (uv8_one _) ?_
        have HSv2 : Hid (Below ge wE (v1.setRow ge (uv nacc))) := zh (HSv1.out.trans (Else.below (Else.setRow v1 ge _) (zL _)))
        have HREv2 := zh (HREv1.out.setRow (uv nacc))
        refine hK.out _ _ HSv2.out ?_
        clear hK K
        (try simp only [Act.put, zA4, zA5, zA6])
        generalize v1.setRow ge (uv nacc) = v2 at *
        refine wpOU_done ?_
        go_wp2_with fail
        go_roundw
        case rel =>
             have h1 := HKK.out
             have h2 := HPL.out
             refine ⟨p + 1, kk + 1, by omega, by omega, by go_num, ?_, ?_, HSv2⟩
             ·rw [HAE.out]; exact HREv2
             ·rw [HAE.out]; exact HNA
        case measure =>
             have h1 := HKK.out
             have h2 := HPL.out
             simp [intOf]; omega
       ·obtain rfl : p = k2 := by omega
        have hkj : ¬ (kk : Int) ≤ (j : Int) := by have := HM2.out; omega
        have hkd : decide ((kk : Int) ≤ (j : Int)) = false := zF hkj
        have hkn : decide (kk ≤ j) = false := zF (by omega)
        go_upto_region 21 with fail
        clear y0 y1
        have HCS : Hid (escells (st.take m) ++ ucells (repV (meetE) ((st.drop m).take p) v00 (downTo p p)) = escells (repS (meetE) st m p)) := zh (HCSV.out _ rfl)
        have HNA := HACC
        generalize repV (meetE) ((st.drop m).take p) v00 (downTo p p) = nacc at *
        have HBF : Hid (Below w2.heap.size w2 wr) := zh (HBWE.out.trans (HBi.out.mono HWE.out))
        have HWF : Hid (w2.heap.size ≤ wr.heap.size) := zh HBF.out.size
        have HLM : Hid ((escells (st.take m)).length = m * 8) := zh (by rw [escells_len fun e he => HES.out e (List.mem_of_mem_take he), List.length_take, HSL.out, Nat.min_eq_left hmst])
        have HSW : Hid (Sl wr wr.heap.size (some ⟨g, 0, none⟩) (escells (st.take m))) := zh (by
             have h1 := own_cut8 HOE.out m hmst (by simp)
             rw [escells_take HES.out m (by rw [HSL.out]; exact hmst)] at h1
             intro hne
             obtain ⟨b9, o9, e9, hb9, hc9⟩ := Sl.of_own h1 hne
             injection e9 with e9
             injection e9 with e91 e92 _
             subst e91 e92
             have hgw : g < wr.heap.size := by have := HRi.out.lt; have := HGLE.out; omega
             exact ⟨g, 0, rfl, hgw, fun q9 u hu => (HBi.out.cell (p := ⟨g, 0 + q9, none⟩) HGLE.out).trans (hc9 q9 u hu)⟩)
        have hmc : m ≤ c' := by have := HCA.out; omega
        have hmb1 : m + 1 ≤ maxLen := by simp only [maxLen]; omega
        have hmb2 : (m + 1) * 64 ≤ 140737488355328 := by omega
        have hm42 : m ≤ 4294967296 := by omega
        have hmw : IntKind.i64.wrap ((sl : Int) - (j : Int)) = (m : Int) := by have := HM1.out; rw [IntWalk.i64_in _ ⟨by omega, by omega⟩]; omega
        have hgi2 : gi < wr.heap.size := by have := HRi.out.lt; have := HGE.out; omega
        have HCNw : Hid (RowAt wr gi 85 _) := zh (HRIE.out.below HBi.out HGE.out)
        have CN : ∀ V, Below wr.heap.size wr V → V.cell? ⟨gi, 1, none⟩ = some (.int .i64 (j : Int)) := fun V hV => (ins_cells (HCNw.out.below hV hgi2)).2.1
        have CE : ∀ V, Below wr.heap.size wr V → RowAt V ge 40 (uv nacc) := fun V hV => HRi.out.below hV HRi.out.lt
        have HST := HSW
        have HSv0 : Hid (Below wr.heap.size wr wr.drew) := zh (zB _ _).drew
        obtain ⟨k2, hk2⟩ : ∃ z, z = p := ⟨_, rfl⟩
        subst hk2
        clear hkj hkd hkn hgi2 HSW
        have HBT := HBF
        obtain ⟨wF, hwF⟩ : ∃ z, z = wr := ⟨_, rfl⟩
        subst hwF
        refine wp_region_ou (fun V => Below wF.heap.size wF V) ((.take 1 (.take 2 (.take 3 (.take 4 (.take 5 (.take 6 (.take 7 (.take 9 (.two 0 (.two 8 (.solo 10 (.solo 11 (.take 12 .nil))) 10 (.solo 8 (.solo 11 (.take 12 .nil)))) 10 (.solo 0 (.solo 8 (.solo 11 (.take 12 .nil)))))))))))))) (by kernel_rfl) (by kernel_rfl) rfl (by kernel_rfl) HSv0.out ?_
        generalize wF.drew = v0 at HSv0 ⊢
        iterate 8
             (refine wpOU_step (zO rfl) ?_)
             (first
              | (refine wpOU_skip (by rfl) ?_)
              | (refine wpOU_take (by rfl) (take_pre _ _ _ rfl (some ⟨g, 0, none⟩) sl c' m 8 rfl rfl (by kernel_rfl) hsl8 hmc rfl) ?_)
              | (refine wpOU_take (by rfl) (take_row _ _ rfl ge rfl _ _ _ CE Tryz.underlying40 rfl (einfo2 HNA.out)) ?_)
              | (refine wpOU_take (v := ?_) (by rfl) ?_ ?_; rotate_left 1; (intro wx hSx; have hc_0 := CN wx hSx; go_simp; try with_reducible rfl)))
             (try simp only [Act.put, zA4, zA5, zA6])
        refine wpOU_two ?_ ?_
        ·(refine wpOU_solo (zO rfl) ?_)
         intro K hK
         rw [if_pos (by rfl)]
         refine wp_none8 rfl ?_
         intro v1 hem hb
         have HSv1 : Hid (Below wF.heap.size wF v1) := zh (HSv0.out.trans (hb.mono HSv0.out.size))
         obtain ⟨ne, hne⟩ : ∃ z, z = v0.heap.size := ⟨_, rfl⟩
         rw [← hne] at hem ⊢
         have HEf1 := zh (own_mono hem (show wF.heap.size ≤ ne by have := HSv0.out.size; omega))
         clear hem hb hne
         refine hK.out _ _ HSv1.out ?_
         clear hK K
         (try simp only [Act.put, zA4, zA5, zA6])
         refine wpOU_two ?_ ?_
         ·(refine wpOU_solo (zO rfl) ?_)
          intro K hK
          rw [if_pos (by rfl)]
          refine wp_cat8 _ _ 37 rfl 40 zeroE 8 64 Tryz.underlying37 infoElemZ rfl (by decide) (by decide) wF.heap.size (some ⟨ne, 0, none⟩) 0 0 [] rfl HEf1.out wF.heap.size (some ⟨g, 0, none⟩) m c' (escells (st.take m)) rfl HLM.out hm42 (HST.out.below HSv1.out) (ec_one _) (by omega) HSv1.out.size ?_
          intro A2 c2 v2 hown hbe hgr _
          rw [Nat.zero_add] at hown ⊢
          have HEf2 : Hid (v2.ownsRow wF.heap.size 40 8 (.slice A2 m c2) m (escells (st.take m))) := zh (by simpa using hown)
          have HSv2 : Hid (Below wF.heap.size wF v2) := zh (HSv1.out.trans hbe)
          clear hown hbe hgr
          refine hK.out _ _ HSv2.out ?_
          clear hK K
          (try simp only [Act.put, zA4, zA5, zA6])
          (refine wpOU_solo (zO rfl) ?_)
          intro K hK
          rw [if_pos (by rfl)]
          refine wp_one8 _ rfl nacc HNA.out rfl ?_
          have hb : Below v2.heap.size v2 (v2.alloc (.cells (uv nacc) 40)) := (zB _ _).alloc (zL _) _
          have hon := RowAt.new v2 40 (uv nacc)
          obtain ⟨no, hno⟩ : ∃ z, z = v2.heap.size := ⟨_, rfl⟩
          rw [← hno] at hon ⊢
          generalize v2.alloc (.cells (uv nacc) 40) = v3 at *
          have HSv3 : Hid (Below wF.heap.size wF v3) := zh (HSv2.out.trans (hb.mono HSv2.out.size))
          have HEf3 := zh (own_below HEf2.out hb (zL _))
          have HON3 := zh hon
          clear hb hon hno
          refine hK.out _ _ HSv3.out ?_
          clear hK K
          (try simp only [Act.put, zA4, zA5, zA6])
          (refine wpOU_solo (zO rfl) ?_)
          intro K hK
          rw [if_pos (by rfl)]
          refine wp_moreS _ _ 37 rfl 40 zeroE 8 64 Tryz.underlying37 infoElemZ rfl (by decide) wF.heap.size A2 m c2 (escells (st.take m)) rfl HEf3.out no (ucells nacc) rfl (uc_len HNA.out) (uc_cells HON3.out) (uc_one _) hmb1 hmb2 HSv3.out.size ?_
          intro A3 c3 v4 hown hbe _ _
          have HSv4 : Hid (Below wF.heap.size wF v4) := zh (HSv3.out.trans hbe)
          have HEz := zh hown
          clear hown hbe
          refine hK.out _ _ HSv4.out ?_
          clear hK K
          (try simp only [Act.put, zA4, zA5, zA6])
          iterate 1
           (refine wpOU_step (zO rfl) ?_)
           (first
                 | (refine wpOU_skip (by rfl) ?_)
                 | (refine wpOU_take (by rfl) (take_pre _ _ _ rfl (some ⟨g, 0, none⟩) sl c' m 8 rfl rfl (by kernel_rfl) hsl8 hmc rfl) ?_)
                 | (refine wpOU_take (by rfl) (take_row _ _ rfl ge rfl _ _ _ CE Tryz.underlying40 rfl (einfo2 HNA.out)) ?_)
                 | (refine wpOU_take (v := ?_) (by rfl) ?_ ?_; rotate_left 1; (intro wx hSx; have hc_0 := CN wx hSx; go_simp; try with_reducible rfl)))
           (try simp only [Act.put, zA4, zA5, zA6])
          refine wpOU_done ?_
          go_wp2_with fail
          have HO7 := own_mono HEz.out HWF.out
          rw [HCS.out] at HO7
          go_roundw
          case rel =>
           refine ⟨k + 1, c3, A3, repS (meetE) st m k2, by omega, by rw [HLN.out]; exact hmk1, by go_num, by rw [HLN.out], ?_, HEW5, HG5, HRN5, zh (HBF.out.trans (HSv4.out.mono HWF.out))⟩
           rw [HLN.out]; exact HO7
          case measure => simp [intOf]; omega
         ·(refine wpOU_solo (zO rfl) ?_)
          intro K hK
          rw [if_pos (by rfl)]
          refine wp_one8 _ rfl nacc HNA.out rfl ?_
          have hb : Below v1.heap.size v1 (v1.alloc (.cells (uv nacc) 40)) := (zB _ _).alloc (zL _) _
          have hon := RowAt.new v1 40 (uv nacc)
          obtain ⟨no, hno⟩ : ∃ z, z = v1.heap.size := ⟨_, rfl⟩
          have HNEO : Hid (ne ≠ no) := zh (by have := (HEf1.out.lt ne rfl).2; omega)
          rw [← hno] at hon ⊢
          generalize v1.alloc (.cells (uv nacc) 40) = v2 at *
          have HSv2 : Hid (Below wF.heap.size wF v2) := zh (HSv1.out.trans (hb.mono HSv1.out.size))
          have HEf2 := zh (own_below HEf1.out hb (zL _))
          have HON2 := zh hon
          clear hb hon hno
          refine hK.out _ _ HSv2.out ?_
          clear hK K
          (try simp only [Act.put, zA4, zA5, zA6])
          (refine wpOU_solo (zO rfl) ?_)
          intro K hK
          rw [if_pos (by rfl)]
          refine wp_cat8 _ _ 37 rfl 40 zeroE 8 64 Tryz.underlying37 infoElemZ rfl (by decide) (by decide) wF.heap.size (some ⟨ne, 0, none⟩) 0 0 [] rfl HEf2.out wF.heap.size (some ⟨g, 0, none⟩) m c' (escells (st.take m)) rfl HLM.out hm42 (HST.out.below HSv2.out) (ec_one _) (by omega) HSv2.out.size ?_
          intro A2 c2 v3 hown hbe hgr _
          rw [Nat.zero_add] at hown ⊢
          have HEf3 : Hid (v3.ownsRow wF.heap.size 40 8 (.slice A2 m c2) m (escells (st.take m))) := zh (by simpa using hown)
          have HSv3 : Hid (Below wF.heap.size wF v3) := zh (HSv2.out.trans hbe)
          have HON3 : Hid (RowAt v3 no 40 (uv nacc)) := zh (HON2.out.grown hgr fun e => by simp [Value.ownBlock] at e; exact HNEO.out e)
          clear hown hbe hgr
          refine hK.out _ _ HSv3.out ?_
          clear hK K
          (try simp only [Act.put, zA4, zA5, zA6])
          (refine wpOU_solo (zO rfl) ?_)
          intro K hK
          rw [if_pos (by rfl)]
          refine wp_moreS _ _ 37 rfl 40 zeroE 8 64 Tryz.underlying37 infoElemZ rfl (by decide) wF.heap.size A2 m c2 (escells (st.take m)) rfl HEf3.out no (ucells nacc) rfl (uc_len HNA.out) (uc_cells HON3.out) (uc_one _) hmb1 hmb2 HSv3.out.size ?_
          intro A3 c3 v4 hown hbe _ _
          have HSv4 : Hid (Below wF.heap.size wF v4) := zh (HSv3.out.trans hbe)
          have HEz := zh hown
          clear hown hbe
          refine hK.out _ _ HSv4.out ?_
          clear hK K
          (try simp only [Act.put, zA4, zA5, zA6])
          iterate 1
           (refine wpOU_step (zO rfl) ?_)
           (first
                 | (refine wpOU_skip (by rfl) ?_)
                 | (refine wpOU_take (by rfl) (take_pre _ _ _ rfl (some ⟨g, 0, none⟩) sl c' m 8 rfl rfl (by kernel_rfl) hsl8 hmc rfl) ?_)
                 | (refine wpOU_take (by rfl) (take_row _ _ rfl ge rfl _ _ _ CE Tryz.underlying40 rfl (einfo2 HNA.out)) ?_)
                 | (refine wpOU_take (v := ?_) (by rfl) ?_ ?_; rotate_left 1; (intro wx hSx; have hc_0 := CN wx hSx; go_simp; try with_reducible rfl)))
           (try simp only [Act.put, zA4, zA5, zA6])
          refine wpOU_done ?_
          go_wp2_with fail
          have HO7 := own_mono HEz.out HWF.out
          rw [HCS.out] at HO7
          go_roundw
          case rel =>
           refine ⟨k + 1, c3, A3, repS (meetE) st m k2, by omega, by rw [HLN.out]; exact hmk1, by go_num, by rw [HLN.out], ?_, HEW5, HG5, HRN5, zh (HBF.out.trans (HSv4.out.mono HWF.out))⟩
           rw [HLN.out]; exact HO7
          case measure => simp [intOf]; omega
        ·(refine wpOU_solo (zO rfl) ?_)
         intro K hK
         rw [if_pos (by rfl)]
         refine wp_one8 _ rfl nacc HNA.out rfl ?_
         have hb : Below v0.heap.size v0 (v0.alloc (.cells (uv nacc) 40)) := (zB _ _).alloc (zL _) _
         have hon := RowAt.new v0 40 (uv nacc)
         obtain ⟨no, hno⟩ : ∃ z, z = v0.heap.size := ⟨_, rfl⟩
         rw [← hno] at hon ⊢
         generalize v0.alloc (.cells (uv nacc) 40) = v1 at *
         have HSv1 : Hid (Below wF.heap.size wF v1) := zh (HSv0.out.trans (hb.mono HSv0.out.size))
         have HON1 := zh hon
         clear hb hon hno
         refine hK.out _ _ HSv1.out ?_
         clear hK K
         (try simp only [Act.put, zA4, zA5, zA6])
         (refine wpOU_solo (zO rfl) ?_)
         intro K hK
         rw [if_pos (by rfl)]
         refine wp_none8 rfl ?_
         intro v2 hem hb
         have HSv2 : Hid (Below wF.heap.size wF v2) := zh (HSv1.out.trans (hb.mono HSv1.out.size))
         have HON2 := zh (HON1.out.below hb HON1.out.lt)
         obtain ⟨ne, hne⟩ : ∃ z, z = v1.heap.size := ⟨_, rfl⟩
         have HNEO : Hid (ne ≠ no) := zh (by have := HON1.out.lt; omega)
         rw [← hne] at hem ⊢
         have HEf2 := zh (own_mono hem (show wF.heap.size ≤ ne by have := HSv1.out.size; omega))
         clear hem hb hne
         refine hK.out _ _ HSv2.out ?_
         clear hK K
         (try simp only [Act.put, zA4, zA5, zA6])
         (refine wpOU_solo (zO rfl) ?_)
         intro K hK
         rw [if_pos (by rfl)]
         refine wp_cat8 _ _ 37 rfl 40 zeroE 8 64 Tryz.underlying37 infoElemZ rfl (by decide) (by decide) wF.heap.size (some ⟨ne, 0, none⟩) 0 0 [] rfl HEf2.out wF.heap.size (some ⟨g, 0, none⟩) m c' (escells (st.take m)) rfl HLM.out hm42 (HST.out.below HSv2.out) (ec_one _) (by omega) HSv2.out.size ?_
         intro A2 c2 v3 hown hbe hgr _
         rw [Nat.zero_add] at hown ⊢
         have HEf3 : Hid (v3.ownsRow wF.heap.size 40 8 (.slice A2 m c2) m (escells (st.take m))) := zh (by simpa using hown)
         have HSv3 : Hid (Below wF.heap.size wF v3) := zh (HSv2.out.trans hbe)
         have HON3 : Hid (RowAt v3 no 40 (uv nacc)) := zh (HON2.out.grown hgr fun e => by simp [Value.ownBlock] at e; exact HNEO.out e)
         clear hown hbe hgr
         refine hK.out _ _ HSv3.out ?_
         clear hK K
         (try simp only [Act.put, zA4, zA5, zA6])
         (refine wpOU_solo (zO rfl) ?_)
         intro K hK
         rw [if_pos (by rfl)]
         refine wp_moreS _ _ 37 rfl 40 zeroE 8 64 Tryz.underlying37 infoElemZ rfl (by decide) wF.heap.size A2 m c2 (escells (st.take m)) rfl HEf3.out no (ucells nacc) rfl (uc_len HNA.out) (uc_cells HON3.out) (uc_one _) hmb1 hmb2 HSv3.out.size ?_
         intro A3 c3 v4 hown hbe _ _
         have HSv4 : Hid (Below wF.heap.size wF v4) := zh (HSv3.out.trans hbe)
         have HEz := zh hown
         clear hown hbe
         refine hK.out _ _ HSv4.out ?_
         clear hK K
         (try simp only [Act.put, zA4, zA5, zA6])
         iterate 1
          (refine wpOU_step (zO rfl) ?_)
          (first
                  | (refine wpOU_skip (by rfl) ?_)
                  | (refine wpOU_take (by rfl) (take_pre _ _ _ rfl (some ⟨g, 0, none⟩) sl c' m 8 rfl rfl (by kernel_rfl) hsl8 hmc rfl) ?_)
                  | (refine wpOU_take (by rfl) (take_row _ _ rfl ge rfl _ _ _ CE Tryz.underlying40 rfl (einfo2 HNA.out)) ?_)
                  | (refine wpOU_take (v := ?_) (by rfl) ?_ ?_; rotate_left 1; (intro wx hSx; have hc_0 := CN wx hSx; go_simp; try with_reducible rfl)))
          (try simp only [Act.put, zA4, zA5, zA6])
         refine wpOU_done ?_
         go_wp2_with fail
         have HO7 := own_mono HEz.out HWF.out
         rw [HCS.out] at HO7
         go_roundw
         case rel =>
          refine ⟨k + 1, c3, A3, repS (meetE) st m k2, by omega, by rw [HLN.out]; exact hmk1, by go_num, by rw [HLN.out], ?_, HEW5, HG5, HRN5, zh (HBF.out.trans (HSv4.out.mono HWF.out))⟩
          rw [HLN.out]; exact HO7
         case measure => simp [intOf]; omega
    ·obtain rfl : k = n := by omega
     obtain ⟨mx, hg⟩ := HG.out
     have hrun := HRN.out
     rw [← HN.out, List.drop_eq_nil_of_le (zL _)] at hg hrun
     have hs1 : st.length = 1 := by
      have h : (st.length == 1) = true := hg
      simpa using h
     have hr2 : some st = R := hrun
     have hev : some (st.getD 0 []) = evG fs v l := by rw [HRV.out, ← hr2]; rfl
     have HEV := zh hev
     obtain ⟨g, rfl, hg1, hg2⟩ := own_some HO.out (by omega)
     have HS0 := zh (Sl.of_own HO.out)
     have HE0 : Hid (EW (st.getD 0 [])) := zh (HES.out _ (eget_mem (by omega)))
     have hrg := els_rng HS0.out HES.out (k := 0) (by omega)
     rw [Nat.zero_add, Nat.zero_mul] at hrg
     have HRG := zh hrg
     have HR6k := zh (HR6.out.below HBr.out HR6.out.lt)
     have h1l : (0 : Int) < (st.length : Int) := by omega
     clear hg hrun hs1 hr2 hev hrg hg1 hg2 HO
     generalize st.getD 0 [] = ve at *
     generalize st.length = sl at *
     go_wp2_with (first
      | (refine wpList_loadElemIn (by rfl) _ rfl g 0 rfl _ HE0.out HRG.out ?_)
      | (refine wpList_stRow (by rfl) _ _ _ rfl (w.heap.size + 1) (uv ve) rfl rfl _ _ HR6k.out (einfo2 HE0.out) (by rw [uv8_size HZ8.out, uv8_size HE0.out]) (uv8_one _) ?_; intro w5 r5 he; have HR65 := zh r5; have HE5 := zh he; clear r5 he))
     have hgg := HG3.out
     exact bodyPost_ret (ret2 rfl _ _ (w.heap.size + 1) _ _ (0, 0) _ (.bool true) rfl rfl HR65.out Tryz.underlying40 rfl (einfo2 HE0.out)) rfl (HEND.out (some ve) w5 HEV.out ((HB.out.trans (HBr.out.mono HSZ.out)).trans (HE5.out.below (by omega))))
end
end Go.Proofs.YtdahllhbpdbknaaGreatDoor
