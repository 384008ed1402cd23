/- Texts that all the claims need. Conditions: those that each states. -/

import Derived.Test.YtdahllhbpdbknaaGreatDoorTb16
import Derived.Test.YtdahllhbpdbknaaGreatDoorTb18
set_option linter.unusedSimpArgs false
set_option linter.unusedVariables false
set_option maxRecDepth 100000
set_option maxHeartbeats 40000000
namespace Go.Proofs.YtdahllhbpdbknaaGreatDoor
section
open Go.RowKit RM Go.Maps
def Fr (τ : TypeId) : Prop := τ ≠ 97 ∧ τ ≠ 98 ∧ τ ≠ 104 ∧ τ ≠ 38 ∧ τ ≠ 119 ∧ τ ≠ 74
theorem Fr.elem : Fr 40 := by unfold Fr; decide
theorem TabAt.elem {W W' : World} {lo mb jb g : Nat} {n : Int} {l : List Nat} {cs : Array Value} {fr : Nat × Nat} {τ : TypeId} (h : TabAt W lo mb jb n l) (hm : Mut g W W') (hg : W.heap[g]? = some (.cells cs τ fr)) (hτ : Fr τ) : TabAt W' lo mb jb n l := by
 obtain ⟨⟨k, hf⟩, h1, h2, cur, f2, gs, h3, h4⟩ := h
 have hmb : mb ≠ g := fun e => by
  obtain ⟨es, clock, hx⟩ := hf.map
  rw [e, hg] at hx
  cases hx
 have hjb : jb ≠ g := blk_apart h3 hg (fun e => hτ.2.2.2.2.1 e.symm)
 refine ⟨⟨k, hf.same (hm.block _ hf.lt hmb)⟩, h1, h2, cur, f2, gs, (hm.block _ (Array.getElem?_eq_some_iff.1 h3).1 hjb).trans h3, fun i hi => ?_⟩
 obtain ⟨h5, h6, h7⟩ := h4 i hi
 have hgi : gs i ≠ g := fun e => by
  unfold SideAt at h7
  exact blk_apart h7 hg (fun e => hτ.2.2.2.1 e.symm) e
 exact ⟨h5, h6, h7.mut hm hgi⟩
theorem JDone.elem {W W' : World} {lo go gt g : Nat} {t : Bool} {fs : List Fac} {cs : Array Value} {fr : Nat × Nat} {τ : TypeId} (h : JDone W lo go gt t fs) (hm : Mut g W W') (hg : W.heap[g]? = some (.cells cs τ fr)) (hτ : Fr τ) : JDone W' lo go gt t fs := by
 obtain ⟨h1, h2⟩ := h
 refine ⟨h1.mut hm (blk_apart h1 hg (fun e => hτ.1 e.symm)), ?_⟩
 rcases h2 with ⟨h3, h4⟩ | ⟨h3, tb, h4, cur, h5, h6, h7⟩
 ·exact .inl ⟨h3, h4.mut hm (blk_apart h4 hg (fun e => hτ.2.1 e.symm))⟩
 ·refine .inr ⟨h3, tb, h4.mut hm (blk_apart h4 hg (fun e => hτ.2.1 e.symm)), cur, h5, h6.mut hm (blk_apart h6 hg (fun e => hτ.2.2.1 e.symm)), h7.1, fun i hi => ?_⟩
  obtain ⟨m, s, e1, e2, h8⟩ := h7.2 i hi
  refine ⟨m, s, e1, e2, ?_⟩
  split
  ·rename_i hc
   rw [if_pos hc] at h8
   obtain ⟨mb, jb, c, e3, e4, h9⟩ := h8
   exact ⟨mb, jb, c, e3, e4, h9.elem hm hg hτ⟩
  ·rename_i hc
   rw [if_neg hc] at h8
   exact h8
theorem But.mut {M : Nat → Prop} {w w1 w2 : World} {g : Nat} (h : But M w w1) (hm : Mut g w1 w2) (hg : w.heap.size ≤ g) : But M w w2 := ⟨hm.os.trans h.os, hm.tape.trans h.tape, hm.output.trans h.output, zM h.size hm.size, fun k hk hn => (hm.block k (zT hk h.size) (by omega)).trans (h.block k hk hn)⟩
end
section
open Go.RowKit RM
theorem roomG_bd : ∀ (l : List In) (sz mx m s : Nat), roomG l sz mx = some (m, s) → m ≤ max mx (sz + l.length)
 | [], sz, mx, m, s, h => by
   unfold roomG at h
   simp only [Option.some.injEq, Prod.mk.injEq] at h
   omega
 | i :: l, sz, mx, m, s, h => by
   unfold roomG at h
   rw [zA8]
   split at h
   ·have := roomG_bd l _ _ _ _ h; omega
   ·split at h
    ·split at h
     ·cases h
     ·have := roomG_bd l _ _ _ _ h; omega
    ·cases h
theorem mstI_bd (l : List In) : mstI (roomG l 0 0) ≤ l.length := by
 cases h : roomG l 0 0 with
 | none => exact Nat.zero_le _
 | some r =>
   obtain ⟨m, s⟩ := r
   have := roomG_bd l 0 0 m s h
   show m ≤ _
   omega
def repS (B : List Nat → List Nat → List Nat) (st : List (List Nat)) (m k : Nat) : List (List Nat) := st.take m ++ [repV B ((st.drop m).take k) (st.getD (m + k) []) (downTo k k)]
theorem repV_ew {B : List Nat → List Nat → List Nat} (hB : ∀ a b, EW a → EW b → EW (B a b)) {es : List (List Nat)} (hE : ∀ e ∈ es, EW e) : ∀ (l : List Nat) (v : List Nat), EW v → (∀ i ∈ l, i < es.length) → EW (repV B es v l)
 | [], v, hv, _ => hv
 | i :: l, v, hv, h => by
   show EW (repV B es (B (es.getD i []) v) l)
   exact repV_ew hB hE l _ (hB _ _ (hE _ (eget_mem (h i (by simp)))) hv) fun j hj => h j (by simp [hj])
theorem repS_ew {B : List Nat → List Nat → List Nat} (hB : ∀ a b, EW a → EW b → EW (B a b)) {st : List (List Nat)} (hE : ∀ e ∈ st, EW e) {m k : Nat} (hmk : m + k < st.length) : ∀ e ∈ repS B st m k, EW e := by
 intro e he
 unfold repS at he
 rcases List.mem_append.1 he with he | he
 ·exact hE e (List.mem_of_mem_take he)
 ·rw [List.mem_singleton] at he
  subst he
  refine repV_ew hB (fun f hf => hE f (List.mem_of_mem_drop (List.mem_of_mem_take hf))) _ _ (hE _ (eget_mem hmk)) fun i hi => ?_
  unfold downTo at hi
  obtain ⟨j, hj, rfl⟩ := List.mem_map.1 hi
  rw [List.mem_range] at hj
  rw [List.length_take, List.length_drop]
  omega
theorem repS_len (B : List Nat → List Nat → List Nat) (st : List (List Nat)) {m k : Nat} (hm : m ≤ st.length) : (repS B st m k).length = m + 1 := by
 unfold repS
 rw [zA7, List.length_take, Nat.min_eq_left hm]; rfl
def runG (J M : List Nat → List Nat → List Nat) (v : List (List Nat)) : List In → List (List Nat) → Option (List (List Nat))
 | [], st => some st
 | i :: l, st =>
   if i.op = 1 then (if 0 ≤ i.n ∧ i.n < (v.length : Int) then runG J M v l (st ++ [v.getD i.n.toNat []]) else none)
   else if i.op = 2 then runG J M v l (st ++ [i.e.1])
   else runG J M v l (repS (if i.op = 3 then J else M) st (st.length - i.n.toNat) (i.n.toNat - 1))
theorem runG_at (J M : List Nat → List Nat → List Nat) (v : List (List Nat)) {l : List In} {k : Nat} (hk : k < l.length) (st : List (List Nat)) : runG J M v (l.drop k) st =
 if (l.getD k in0).op = 1 then (if 0 ≤ (l.getD k in0).n ∧ (l.getD k in0).n < (v.length : Int) then runG J M v (l.drop (k + 1)) (st ++ [v.getD (l.getD k in0).n.toNat []]) else none)
 else if (l.getD k in0).op = 2 then runG J M v (l.drop (k + 1)) (st ++ [(l.getD k in0).e.1])
 else runG J M v (l.drop (k + 1)) (repS (if (l.getD k in0).op = 3 then J else M) st (st.length - (l.getD k in0).n.toNat) ((l.getD k in0).n.toNat - 1)) := by
 rw [List.drop_eq_getElem_cons hk, List.getD_eq_getElem?_getD, List.getElem?_eq_getElem hk]
 rfl
def z8 : List Nat := List.replicate 8 0
theorem zero_z8 : (#[.int .u64 0, .int .u64 0, .int .u64 0, .int .u64 0, .int .u64 0, .int .u64 0, .int .u64 0, .int .u64 0] : Array Value) = uv z8 := zero_elem
def evG (fs : List Fac) (v : List (List Nat)) (l : List In) : Option (List Nat) := if rgtB (roomG l 0 0) = true then (runG (joinE fs) meetE v l []).map (fun st => st.getD 0 []) else none
def retE (r : Option (List Nat)) : Value := .tuple #[.agg (uv (r.getD z8)), .bool r.isSome]
theorem wpList_one8 {ops : Array Oper} {rest : List Oper} {o : Oper} {a : Act} {w : World} {Q : Exit → Act → World → Prop} (hgd : o.guard = none) (x : Operand) (ho : o.op = .buildSlice 37 1 #[(0, x)])
 (e : List Nat) (he : EW e) (hx : a.eval x = .agg (uv e))
 (h : ∀ w', RowAt w' w.heap.size 40 (uv e) → Below w.heap.size w w' → wpList Tryz.prog ops Q rest (a.put o.dst (.slice (some ⟨w.heap.size, 0, none⟩) 1 1)) w') : wpList Tryz.prog ops Q (o :: rest) a w :=
 wpList_plain hgd fun _ hK => wp_one8 x ho e he hx (hK _ _ (h _ (RowAt.new _ _ _) ((zB _ _).alloc (zL _) _)))
theorem uc_cells {w : World} {g : Nat} {e : List Nat} (h : RowAt w g 40 (uv e)) : ∀ j u, (ucells e)[j]? = some u → w.cell? ⟨g, j, none⟩ = some u := fun j u hu => (h.cell j).trans (by unfold uv; simpa [ucells] using hu)
theorem uc_one (e : List Nat) : ∀ u ∈ ucells e, u.oneCell' = true := fun u hu => by unfold ucells at hu; obtain ⟨z, _, rfl⟩ := List.mem_map.1 hu; rfl
theorem uc_len {e : List Nat} (h : EW e) : (ucells e).length = 8 := by rw [ucells_length]; exact h.1
theorem codeEval_any (t : Bool) (SA : Option Addr) (sc : Nat) (fs : List Fac) (LA : Option Addr) (lc : Nat) (l : List In) (VA : Option Addr) (vc : Nat) (v : List (List Nat)) (w : World) (hT : Tab w) (hF : Facs w SA fs) (hl : l.length ≤ 1000000) (hL : Ls insC w LA l)
 (hvl : v.length ≤ 1000000) (hV : Sl w w.heap.size VA (escells v)) (hE : ∀ e ∈ v, EW e) :
 Calls Tryz.prog 20 #[.agg (sv t SA fs.length sc), .slice LA l.length lc, .slice VA v.length vc] w fun e w' => e = .returned (retE (evG fs v l)) ∧ Below w.heap.size w w' := by
 obtain ⟨r3, r6, hb⟩ := two_rows w (sv t SA fs.length sc) (uv z8) 24 40
 refine cHid fun Q' hQ => ?_
 have HQ := zh hQ; clear hQ
 rw [← zero_z8] at r6 hb r3
 go_enter Tryz.func20, Tryz.ntmps20
 go_upto_region 1 with fail
 rw [zero_z8] at r6 hb r3 ⊢
 change Code.wp _ _ _ _ ((w.alloc (.cells (sv t SA fs.length sc) 24)).alloc (.cells (uv z8) 40))
 generalize (w.alloc (.cells (sv t SA fs.length sc) 24)).alloc (.cells (uv z8) 40) = w1 at *
 have HB := zh hb
 have HSZ := zh hb.size
 have HZ8 : Hid (EW z8) := zh EW.zeros
 have HR3 := zh r3
 have HR6 := zh r6
 have HTf : Hid (∀ W, Below w1.heap.size w1 W → Tab W) := zh fun W hW => (hT.below hb).below hW
 have HFf : Hid (∀ W, Below w1.heap.size w1 W → Facs W SA fs) := zh fun W hW => (hF.below hb).below hW
 have HL1 := zh (hL.below hb)
 have HV1 : Hid (Sl w1 w1.heap.size VA (escells v)) := zh ((hV.below hb).mono hb.size)
 have HE := zh hE
 have HRM := zh (room_any LA lc l w1 hl (hL.below hb))
 have hmb := mstI_bd l
 have HREV : Hid (evG fs v l = if rgtB (roomG l 0 0) = true then (runG (joinE fs) meetE v l []).map (fun st => st.getD 0 []) else none) := zh rfl
 have HEND : Hid (∀ r W, r = evG fs v l → Below w.heap.size w W → Q' (.returned (retE r)) W) := zh fun r W hr hW => HQ.out _ _ ⟨by rw [hr], hW⟩
 have HG0 : Hid (rgtB (roomG (l.drop 0) 0 0) = true ∨ rgtB (roomG l 0 0) = false) := zh (by
  rw [List.drop_zero]
  cases rgtB (roomG l 0 0)
  ·exact .inr rfl
  ·exact .inl rfl)
 have HN0 : Hid (runG (joinE fs) meetE v (l.drop 0) [] = runG (joinE fs) meetE v l []) := zh (by rw [List.drop_zero])
 clear hT hF hL hV hE hb r3 r6 HQ
 generalize mstI (roomG l 0 0) = mst at *
 cases hrb : rgtB (roomG l 0 0) with
 | false =>
   rw [hrb] at HRM
   have hev : none = evG fs v l := by rw [HREV.out, hrb]; rfl
   have HQ2 := zh (HEND.out none)
   have HEV := zh hev
   clear hev hrb
   go_wp2_with (first
    | (go_at_call 35; refine HRM.out.mono ?_; rintro e w2 ⟨rfl, hb2⟩; have HB2 := zh hb2; have HR62 := zh (HR6.out.below hb2 HR6.out.lt); clear hb2)
    | (refine wpList_stRow (by rfl) _ _ _ rfl (w.heap.size + 1) (uv z8) rfl rfl _ _ HR62.out (einfo2 HZ8.out) rfl (uv8_one _) ?_; intro w3 r3 he; have HR63 := zh r3; have HE3 := zh he; clear r3 he))
   have h1 := HB2.out.size
   have h2 := HSZ.out
   exact bodyPost_ret (ret2 rfl _ _ (w.heap.size + 1) _ _ (0, 0) _ (.bool false) rfl rfl HR63.out Tryz.underlying40 rfl (einfo2 HZ8.out)) rfl (HQ2.out w3 HEV.out ((HB.out.trans (HB2.out.mono HSZ.out)).trans (HE3.out.below (by omega))))
 | true =>
   rw [hrb] at HRM
   have HRV : Hid (evG fs v l = (runG (joinE fs) meetE v l []).map (fun st => st.getD 0 [])) := zh (by rw [HREV.out, if_pos hrb])
   have HG1 : Hid (∃ mx, rgtB (roomG (l.drop 0) 0 mx) = true) := zh ⟨0, by rw [List.drop_zero]; exact hrb⟩
   clear hrb HREV HG0
   obtain ⟨i0, hi0, hz0, hi1, hi2⟩ := info_parts infoElemZ
   have hb2 : i0.bytes * mst ≤ 281474976710656 := by rw [hi2]; omega
   have hb3 : mst ≤ maxLen := by simp only [maxLen]; omega
   go_upto_region 6 with (first
    | (go_at_call 35; refine HRM.out.mono ?_; rintro e w2 ⟨rfl, hb2'⟩; have HB2 := zh hb2'; clear hb2')
    | (at_make; refine wpList_make_own _ rfl _ _ 37 rfl w1.heap.size 40 i0 zeroE 8 Tryz.underlying37 hi0 hz0 hi1 .i64 .i64 (mst : Int) mst rfl rfl rfl hb2 hb3 HB2.out.size ?_; intro w3 hown1 hg1))
   have HB3 : Hid (Below w1.heap.size w1 w3) := zh (HB2.out.trans ((zB _ w2).grown hg1 HB2.out.size (fun k hk => by cases hk)))
   have HO3 := zh hown1
   clear hown1 hg1 hb2 hb3 hi0 hz0 hi1 hi2 HRM
   obtain ⟨R, hR⟩ : ∃ R, R = runG (joinE fs) meetE v l [] := ⟨_, rfl⟩
   rw [← hR] at HRV HN0
   clear hR
   have HRA := zh fun k (hk : k < l.length) => runG_at (joinE fs) meetE v hk
   have HGA := zh fun k (hk : k < l.length) => roomG_at hk
   generalize hn : l.length = n at *
   have HN := zh hn; clear hn
   generalize hq : v.length = q at *
   have HQV := zh hq; clear hq
   have HG3 : Hid (w.heap.size + 1 < w1.heap.size) := zh HR6.out.lt
   generalize w2.heap.size = gs at *
   clear HB2
   go_upto_region 7 with fail
   go_loopw [11, 27] (fun sv kv wr => ∃ (k c' : Nat) (A' : Option Addr) (st : List (List Nat)), k ≤ n ∧ st.length ≤ k ∧ kv = .int .i64 k ∧ sv = .slice A' st.length c' ∧ Hid (wr.ownsRow w1.heap.size 40 8 (.slice A' st.length c') st.length (escells st)) ∧ Hid (∀ e ∈ st, EW e) ∧ Hid (∃ mx, rgtB (roomG (l.drop k) st.length mx) = true) ∧ Hid (runG (joinE fs) meetE v (l.drop k) st = R) ∧ Hid (Below w1.heap.size w1 wr)) (fun _ kv _ => n - (intOf kv).toNat)
   case atStart => exact ⟨0, mst, some ⟨gs, 0, none⟩, [], by omega, by simp, rfl, rfl, HO3, zh (fun e he => by cases he), HG1, HN0, HB3⟩
   case round =>
    clear HB3 HO3 HG1 HN0
    obtain ⟨k, c', A', st, hk, hst, rfl, rfl, HO, HES, HG, HRN, HBr⟩ := hrel
    by_cases hlt : k < n
    ·obtain ⟨b, o, rfl, hbl, hc⟩ := (HL1.out.below HBr.out).at 10 insC_len (by omega) in0 (i := k) (by rw [HN.out]; exact hlt)
     have hr := hc k (by rw [HN.out]; exact hlt)
     have hci := infoInsL (l.getD k in0)
     have hrun := HRN.out
     rw [HRA.out k hlt] at hrun
     obtain ⟨mx, hg⟩ := HG.out
     rw [HGA.out k hlt] at hg
     have HRW := zh hr; clear hr hc HRN HG hbl
     generalize l.getD k in0 = x at *
     have hsz := HBr.out.size
     go_upto_region 9 with (first
      | (refine wpList_ldIn (by rfl) _ _ rfl b (o + k * 10) rfl _ _ HRW.out Tryz.underlying85 rfl hci ?_)
      | (refine wpList_stRow (by rfl) _ _ _ rfl wr.heap.size (insC x).toArray rfl rfl _ _ (RowAt.new _ _ _) (infoIns x) (by rw [insC_size]; rfl) (insC_one x) ?_; intro w4 r4 he; have HR4 := zh r4; have HB4 : Hid (Below wr.heap.size wr w4) := zh (((zB _ _).alloc (zL _) _).trans (he.below (zL _))); clear r4 he))
     have HBW4 : Hid (Below w1.heap.size w1 w4) := zh (HBr.out.trans (HB4.out.mono hsz))
     have HO4 := zh (own_below HO.out HB4.out (zL _))
     obtain ⟨c0, c1, c2⟩ := ins_cells HR4.out
     have HC2 := zh c2
     clear HR4 HB4 HRW hci HO c2 hsz
     generalize wr.heap.size = gi at *
     obtain ⟨op, nn, e, hew⟩ := x
     dsimp only at c0 c1 HC2 hrun hg
     have HEW : Hid (EW e) := zh hew
     obtain ⟨sl, hsl⟩ : ∃ z, z = st.length := ⟨_, rfl⟩
     have HSL : Hid (st.length = sl) := zh hsl.symm
     have hbd1 : sl + 1 ≤ maxLen := by simp only [maxLen]; omega
     have hbd2 : (sl + 1) * 64 ≤ 140737488355328 := by omega
     rw [← hsl] at hg hrun HO4 hst ⊢
     clear hsl
     by_cases h1 : op = 1
     ·subst h1
      rw [if_pos (.inl rfl)] at hg
      rw [if_pos rfl] at hrun
      by_cases hin : 0 ≤ nn ∧ nn < (q : Int)
      ·rw [if_pos hin] at hrun
       obtain ⟨j, rfl⟩ : ∃ j : Nat, nn = (j : Int) := ⟨nn.toNat, by omega⟩
       rw [Int.toNat_natCast] at hrun
       have hjl : j < v.length := by have := HQV.out; omega
       obtain ⟨b2, o2, rfl, hrng⟩ := els_at (HV1.out.below HBW4.out) HE.out (k := j) hjl
       have hrv := hrng j hjl
       have HVE : Hid (EW (v.getD j [])) := zh (HE.out _ (eget_mem hjl))
       have hjq : (j : Int) < (q : Int) := hin.2
       have hqj : ¬ (q : Int) ≤ (j : Int) := by omega
       have hqd : decide ((q : Int) ≤ (j : Int)) = false := zF hqj
       have hqn : decide (q ≤ j) = false := zF (by omega)
       generalize v.getD j [] = ve at *
       have HRV := zh hrv
       have HG5 : Hid (∃ mx, rgtB (roomG (l.drop (k + 1)) (st ++ [ve]).length mx) = true) := zh ⟨_, by rw [zA7, HSL.out]; exact hg⟩
       have HRN5 : Hid (runG (joinE fs) meetE v (l.drop (k + 1)) (st ++ [ve]) = R) := zh hrun
       clear hin hrng hrv hg hrun hjl
       go_wp2_with (first
        | (refine wpList_loadElemIn (by rfl) _ rfl b2 (o2 + j * 8) rfl _ HVE.out HRV.out ?_)
        | (refine wpList_one8 rfl _ rfl ve HVE.out rfl ?_; intro w5 r5 hb5; have HR5 := zh r5; have HB5 := zh hb5; have HO5 := zh (own_below HO4.out hb5 (zL _)); have HS5 := zh (zM HBW4.out.size hb5.size); clear r5 hb5)
        | (refine wpList_moreS _ rfl _ _ 37 rfl 40 zeroE 8 64 Tryz.underlying37 infoElemZ rfl (by decide) w1.heap.size A' sl c' (escells st) rfl HO5.out w4.heap.size (ucells ve) rfl (uc_len HVE.out) (uc_cells HR5.out) (uc_one _) hbd1 hbd2 HS5.out ?_; intro A2 c2 w6 hown6 hb6 _ _; have HO6 := zh hown6; have HB6 := zh hb6; clear hown6 hb6))
       have hln : (st ++ [ve]).length = sl + 1 := by rw [zA7, HSL.out]; rfl
       have hcs : escells st ++ ucells ve = escells (st ++ [ve]) := by rw [escells_app]; simp [escells]
       have HO7 := HO6.out
       rw [hcs] at HO7
       go_roundw
       case rel =>
        refine ⟨k + 1, c2, A2, st ++ [ve], by omega, by omega, by go_num, by rw [hln], ?_, ?_, HG5, HRN5, zh ((HBW4.out.trans (HB5.out.mono HBW4.out.size)).trans HB6.out)⟩
        ·rw [hln]; exact HO7
        ·show ∀ y ∈ st ++ [ve], EW y
         intro y hy
         rcases List.mem_append.1 hy with hy | hy
         ·exact HES.out y hy
         ·rw [List.mem_singleton.1 hy]; exact HVE.out
       case measure => simp [intOf]; omega
      ·rw [if_neg hin] at hrun
       have HNONE : Hid (∀ W, Below w.heap.size w W → Q' (.returned (retE none)) W) := zh fun W hW => HEND.out none W (by rw [HRV.out, ← hrun]; rfl) hW
       clear hrun hg
       have hgg := HG3.out
       by_cases hn0 : nn < 0
       ·have q1 : decide (nn < 0) = true := zE hn0
        clear hin
        have HR64 := zh (HR6.out.below HBW4.out HR6.out.lt)
        go_wp2_with (refine wpList_stRow (by rfl) _ _ _ rfl (w.heap.size + 1) (uv z8) rfl rfl _ _ HR64.out (einfo2 HZ8.out) rfl (uv8_one _) ?_; intro w5 r5 he; have HR65 := zh r5; have HE5 := zh he; clear r5 he)
        exact bodyPost_ret (ret2 rfl _ _ (w.heap.size + 1) _ _ (0, 0) _ (.bool false) rfl rfl HR65.out Tryz.underlying40 rfl (einfo2 HZ8.out)) rfl (HNONE.out w5 ((HB.out.trans (HBW4.out.mono HSZ.out)).trans (HE5.out.below (by omega))))
       ·have q1 : decide (nn < 0) = false := zF hn0
        have hq2 : (q : Int) ≤ nn := by omega
        have q2 : decide ((q : Int) ≤ nn) = true := zE hq2
        clear hin
        have HR64 := zh (HR6.out.below HBW4.out HR6.out.lt)
        go_wp2_with (refine wpList_stRow (by rfl) _ _ _ rfl (w.heap.size + 1) (uv z8) rfl rfl _ _ HR64.out (einfo2 HZ8.out) rfl (uv8_one _) ?_; intro w5 r5 he; have HR65 := zh r5; have HE5 := zh he; clear r5 he)
        exact bodyPost_ret (ret2 rfl _ _ (w.heap.size + 1) _ _ (0, 0) _ (.bool false) rfl rfl HR65.out Tryz.underlying40 rfl (einfo2 HZ8.out)) rfl (HNONE.out w5 ((HB.out.trans (HBW4.out.mono HSZ.out)).trans (HE5.out.below (by omega))))
     rw [if_neg h1] at hrun
     have n1 : (op == 1) = false := by simpa using h1
     by_cases h2 : op = 2
     ·subst h2
      rw [if_pos (.inr rfl)] at hg
      rw [if_pos rfl] at hrun
      have HVE : Hid (EW e) := HEW
      have HG5 : Hid (∃ mx, rgtB (roomG (l.drop (k + 1)) (st ++ [e]).length mx) = true) := zh ⟨_, by rw [zA7, HSL.out]; exact hg⟩
      have HRN5 : Hid (runG (joinE fs) meetE v (l.drop (k + 1)) (st ++ [e]) = R) := zh hrun
      clear hg hrun h1 n1
      go_wp2_with (first
       | (refine wpList_loadElemIn (by rfl) _ rfl gi 2 rfl _ HEW.out HC2.out ?_)
       | (refine wpList_one8 rfl _ rfl e HEW.out rfl ?_; intro w5 r5 hb5; have HR5 := zh r5; have HB5 := zh hb5; have HO5 := zh (own_below HO4.out hb5 (zL _)); have HS5 := zh (zM HBW4.out.size hb5.size); clear r5 hb5)
       | (refine wpList_moreS _ rfl _ _ 37 rfl 40 zeroE 8 64 Tryz.underlying37 infoElemZ rfl (by decide) w1.heap.size A' sl c' (escells st) rfl HO5.out w4.heap.size (ucells e) rfl (uc_len HEW.out) (uc_cells HR5.out) (uc_one _) hbd1 hbd2 HS5.out ?_; intro A2 c2 w6 hown6 hb6 _ _; have HO6 := zh hown6; have HB6 := zh hb6; clear hown6 hb6))
      have hln : (st ++ [e]).length = sl + 1 := by rw [zA7, HSL.out]; rfl
      have hcs : escells st ++ ucells e = escells (st ++ [e]) := by rw [escells_app]; simp [escells]
      have HO7 := HO6.out
      rw [hcs] at HO7
      go_roundw
      case rel =>
       refine ⟨k + 1, c2, A2, st ++ [e], by omega, by omega, by go_num, by rw [hln], ?_, ?_, HG5, HRN5, zh ((HBW4.out.trans (HB5.out.mono HBW4.out.size)).trans HB6.out)⟩
       ·rw [hln]; exact HO7
       ·show ∀ y ∈ st ++ [e], EW y
        intro y hy
        rcases List.mem_append.1 hy with hy | hy
        ·exact HES.out y hy
        ·rw [List.mem_singleton.1 hy]; exact HVE.out
      case measure => simp [intOf]; omega
     rw [if_neg h2] at hrun
     rw [if_neg (by omega)] at hg
     have n2 : (op == 2) = false := by simpa using h2
     have h34 : op = 3 ∨ op = 4 := by
      by_cases h : op = 3 ∨ op = 4
      ·exact h
      ·rw [if_neg h] at hg; cases hg
     rw [if_pos h34] at hg
     have hbnd : ¬ (nn < 1 ∨ (sl : Int) < nn) := fun h => by rw [if_pos h] at hg; cases hg
     rw [if_neg hbnd] at hg
     obtain ⟨j, rfl⟩ : ∃ j : Nat, nn = (j : Int) := ⟨nn.toNat, by omega⟩
     rw [Int.toNat_natCast] at hrun hg
     obtain ⟨m, hm⟩ : ∃ z, z = sl - j := ⟨_, rfl⟩
     obtain ⟨k2, hk2⟩ : ∃ z, z = j - 1 := ⟨_, rfl⟩
     have hm1 : sl = m + j := by omega
     have hm2 : j = k2 + 1 := by omega
     have hmk : m + k2 < st.length := by rw [HSL.out]; omega
     have hml : m ≤ st.length := by rw [HSL.out]; omega
     have hmk1 : m + 1 ≤ k + 1 := by omega
     have hsj : sl + 1 - j = m + 1 := by omega
     rw [← hm, ← hk2] at hrun
     rw [hsj] at hg
     have hmax : sl ≤ 1000000 := by omega
     have HM1 := zh hm1
     have HM2 := zh hm2
     clear hm hk2 hsj hbnd h1 h2 hm1 hm2 hst
     rcases h34 with rfl | rfl
     ·rw [if_pos rfl] at hrun
      have HRP : Hid (Calls Tryz.prog 38 #[.slice A' sl c', .int .i64 (j : Int), .func (.func 36) #[] #[.pointer (some ⟨w.heap.size, 0, none⟩)]] w4 fun e w' => ∃ A2 c2, e = .returned (.slice A2 (m + 1) c2) ∧ w'.ownsRow w1.heap.size 40 8 (.slice A2 (m + 1) c2) (m + 1) (escells (repS (joinE fs) st m k2)) ∧ Below w1.heap.size w4 w') := zh (replace_any 36 #[.pointer (some ⟨w.heap.size, 0, none⟩)] (joinE fs) (fun a b ha hb => joinE_ew fs ha hb) st HES.out sl k2 j m HSL.out HM1.out HM2.out hmax A' c' w1.heap.size w4 HBW4.out.size HO4.out (fun _ _ => by kernel_rfl) (fun a b W ha hb hW => evJoin_any t SA sc fs a b ha hb w.heap.size W (HTf.out W (HBW4.out.trans hW)) (HFf.out W (HBW4.out.trans hW)) (HR3.out.below (HBW4.out.trans hW) HR3.out.lt)))
      have HEW5 : Hid (∀ e ∈ repS (joinE fs) st m k2, EW e) := zh (repS_ew (fun a b ha hb => joinE_ew fs ha hb) HES.out hmk)
      have hln : (repS (joinE fs) st m k2).length = m + 1 := repS_len _ _ hml
      have HG5 : Hid (∃ mx, rgtB (roomG (l.drop (k + 1)) (repS (joinE fs) st m k2).length mx) = true) := zh ⟨_, by rw [hln]; exact hg⟩
      have HRN5 : Hid (runG (joinE fs) meetE v (l.drop (k + 1)) (repS (joinE fs) st m k2) = R) := zh hrun
      have HLN := zh hln
      clear hg hrun hml hmk hln
      go_wp2_with (go_at_call 38; refine HRP.out.mono ?_; rintro e w5 ⟨A2, c2, rfl, hown5, hb5⟩; have HO5 := zh hown5; have HB5 := zh hb5; clear hown5 hb5)
      go_roundw
      case rel =>
       refine ⟨k + 1, c2, A2, repS (joinE fs) st m k2, by omega, by rw [HLN.out]; exact hmk1, by go_num, by rw [HLN.out], ?_, HEW5, HG5, HRN5, zh (HBW4.out.trans HB5.out)⟩
       rw [HLN.out]; exact HO5
      case measure => simp [intOf]; omega
     ·rw [if_neg (by decide)] at hrun
      have HRP : Hid (Calls Tryz.prog 38 #[.slice A' sl c', .int .i64 (j : Int), .func (.func 39) #[] #[]] w4 fun e w' => ∃ A2 c2, e = .returned (.slice A2 (m + 1) c2) ∧ w'.ownsRow w1.heap.size 40 8 (.slice A2 (m + 1) c2) (m + 1) (escells (repS (meetE) st m k2)) ∧ Below w1.heap.size w4 w') := zh (replace_any 39 #[] (meetE) (fun a b ha _ => meetE_ew b ha) st HES.out sl k2 j m HSL.out HM1.out HM2.out hmax A' c' w1.heap.size w4 HBW4.out.size HO4.out (fun _ _ => by kernel_rfl) (fun a b W ha hb _ => smeet_any a b ha hb W))
      have HEW5 : Hid (∀ e ∈ repS (meetE) st m k2, EW e) := zh (repS_ew (fun a b ha _ => meetE_ew b ha) HES.out hmk)
      have hln : (repS (meetE) st m k2).length = m + 1 := repS_len _ _ hml
      have HG5 : Hid (∃ mx, rgtB (roomG (l.drop (k + 1)) (repS (meetE) st m k2).length mx) = true) := zh ⟨_, by rw [hln]; exact hg⟩
      have HRN5 : Hid (runG (joinE fs) meetE v (l.drop (k + 1)) (repS (meetE) st m k2) = R) := zh hrun
      have HLN := zh hln
      clear hg hrun hml hmk hln
      go_wp2_with (go_at_call 38; refine HRP.out.mono ?_; rintro e w5 ⟨A2, c2, rfl, hown5, hb5⟩; have HO5 := zh hown5; have HB5 := zh hb5; clear hown5 hb5)
      go_roundw
      case rel =>
       refine ⟨k + 1, c2, A2, repS (meetE) st m k2, by omega, by rw [HLN.out]; exact hmk1, by go_num, by rw [HLN.out], ?_, HEW5, HG5, HRN5, zh (HBW4.out.trans HB5.out)⟩
       rw [HLN.out]; exact HO5
      case measure => simp [intOf]; omega
    ·obtain rfl : k = n := by omega
     obtain ⟨mx, hg⟩ := HG.out
     have hrun := HRN.out
     rw [← HN.out, List.drop_eq_nil_of_le (zL _)] at hg hrun
     have hs1 : st.length = 1 := by
      have h : (st.length == 1) = true := hg
      simpa using h
     have hr2 : some st = R := hrun
     have hev : some (st.getD 0 []) = evG fs v l := by rw [HRV.out, ← hr2]; rfl
     have HEV := zh hev
     obtain ⟨g, rfl, hg1, hg2⟩ := own_some HO.out (by omega)
     have HS0 := zh (Sl.of_own HO.out)
     have HE0 : Hid (EW (st.getD 0 [])) := zh (HES.out _ (eget_mem (by omega)))
     have hrg := els_rng HS0.out HES.out (k := 0) (by omega)
     rw [Nat.zero_add, Nat.zero_mul] at hrg
     have HRG := zh hrg
     have HR6k := zh (HR6.out.below HBr.out HR6.out.lt)
     have h1l : (0 : Int) < (st.length : Int) := by omega
     clear hg hrun hs1 hr2 hev hrg hg1 hg2 HO
     generalize st.getD 0 [] = ve at *
     generalize st.length = sl at *
     go_wp2_with (first
      | (refine wpList_loadElemIn (by rfl) _ rfl g 0 rfl _ HE0.out HRG.out ?_)
      | (refine wpList_stRow (by rfl) _ _ _ rfl (w.heap.size + 1) (uv ve) rfl rfl _ _ HR6k.out (einfo2 HE0.out) (by rw [uv8_size HZ8.out, uv8_size HE0.out]) (uv8_one _) ?_; intro w5 r5 he; have HR65 := zh r5; have HE5 := zh he; clear r5 he))
     have hgg := HG3.out
     exact bodyPost_ret (ret2 rfl _ _ (w.heap.size + 1) _ _ (0, 0) _ (.bool true) rfl rfl HR65.out Tryz.underlying40 rfl (einfo2 HE0.out)) rfl (HEND.out (some ve) w5 HEV.out ((HB.out.trans (HBr.out.mono HSZ.out)).trans (HE5.out.below (by omega))))
end
section
open Go.RowKit RM
theorem qword_any (n : Int) (l : List Nat) (hl : RW l) (i : Int) (w : World) :
 Calls Tryz.prog 68 #[.agg (rv n l), .int .i64 i] w fun e w' => e = .returned (.int .u64 ((wordN n l i : Nat) : Int)) ∧ Below w.heap.size w w' := by
 have hr1 := RelAt.new w n l
 have hb : Below w.heap.size w (w.alloc (.cells (rv n l) 59)) := (zB _ _).alloc (zL _) _
 have HB := zh hb; clear hb
 have HPT : Hid (∀ w, Calls Tryz.prog 79 #[.agg (rv n l)] w fun e w' => e = .returned (.int .i64 ((pts n : Nat) : Int)) ∧ Below w.heap.size w w') := fun w => qpoints_any n l w
 have HHAS : Hid (∀ (k : Nat) w, Calls Tryz.prog 80 #[.agg (rv n l), .int .i64 (k : Int), .int .i64 i] w fun e w' => e = .returned (.bool (hasR n l k i)) ∧ Below w.heap.size w w') := fun k w => qhas_any n l hl k i w
 have hp := pts_le n
 have HSY : Hid (∀ k : Nat, k < pts n → hasR n l k i = true → MM.elsTo (wordN n l i) (k + 1) = MM.elsTo (wordN n l i) k ++ [k]) := fun k h1 h => elsTo_yes (by rw [wordN_bit, h]; simp [h1])
 have HSN : Hid (∀ k : Nat, k < pts n → hasR n l k i = false → MM.elsTo (wordN n l i) (k + 1) = MM.elsTo (wordN n l i) k) := fun k h1 h => elsTo_no (by rw [wordN_bit, h]; simp)
 have HSE : Hid (MM.elsTo (wordN n l i) (pts n) = MM.els (wordN n l i)) := elsTo_all hp fun t h1 _ => by rw [wordN_bit, show decide (t < pts n) = false by simp; omega]; rfl
 have HOE : Hid (MM.ofN (ei (MM.els (wordN n l i))) = wordN n l i) := ofN_ei (wordN_lt _ _ _)
 generalize wordN n l i = s at *
 generalize hasR n l = R at *
 generalize pts n = p at *
 go_enter Tryz.func68, Tryz.ntmps68
 go_wp2_with fail
 go_loopw [5, 6] (fun lv iv wr => ∃ (i k c : Nat) (A : Option Addr), i ≤ p ∧ iv = .int .i64 i ∧ lv = .slice A k c ∧ Hid (k = (MM.elsTo s i).length) ∧ k ≤ 64 ∧ Hid (OwnI wr w.heap.size A c (ei (MM.elsTo s i))) ∧ RelAt wr w.heap.size n l ∧ Hid (Below w.heap.size w wr)) (fun _ iv _ => p - (intOf iv).toNat)
 case atStart => exact ⟨0, 0, 0, none, by omega, rfl, rfl, rfl, by omega, World.ownsRow_nil _ _ _ _, hr1, HB⟩
 case round =>
  clear hr1 HB
  obtain ⟨j, k, c, A, hj, rfl, rfl, HK, hk, HO, rr, HB⟩ := hrel
  go_wp2_with (refine wpList_loadRel rfl _ rfl w.heap.size rfl _ l hl rr ?_)
  refine (HPT.out _).mono ?_
  rintro e w3 ⟨rfl, hb3⟩
  have s3 := rr.below hb3 rr.lt
  have HO3 : Hid (OwnI w3 w.heap.size A c (ei (MM.elsTo s j))) := own_below HO.out hb3 (zL _)
  have HB3 := zh (HB.out.trans (hb3.mono HB.out.size))
  clear rr HO HB hb3
  by_cases hlt : j < p
  ·go_wp2_with (refine wpList_loadRel rfl _ rfl w.heap.size rfl _ l hl s3 ?_)
   refine (HHAS.out j _).mono ?_
   rintro e w4 ⟨rfl, hb4⟩
   have s1 := s3.below hb4 s3.lt
   have HO4 : Hid (OwnI w4 w.heap.size A c (ei (MM.elsTo s j))) := own_below HO3.out hb4 (zL _)
   have HB4 := zh (HB3.out.trans (hb4.mono HB3.out.size))
   clear s3 HO3 HB3 hb4
   cases hbt : R (j : Int) i with
   | false =>
     have HP := zh (HSN.out j hlt hbt)
     clear hbt
     go_wp2_with fail
     go_roundw
     case rel => exact ⟨j + 1, k, c, A, by omega, by go_num, rfl, by rw [HP.out]; exact HK, hk, by rw [HP.out]; exact HO4, s1, HB4⟩
     case measure => simp [intOf]; omega
   | true =>
     have HP := zh (HSY.out j hlt hbt)
     have hlen := elsTo_le64 s (j + 1) (by omega)
     have HEV : Hid ((j : Int) = ((j : Nat) : Int)) := rfl
     clear hbt
     have hown' : w4.ownsRow w.heap.size 3 1 (.slice A k c) k (cells (ei (MM.elsTo s j))) := by
      have h4 := HO4.out
      unfold OwnI at h4
      rw [ei_length, ← HK.out] at h4
      exact h4
     have hbs := HB4.out.size
     have N1 := zh (own_block hown' s1 (by decide))
     have HLEN := zh hlen; clear hlen HO4
     go_wp2_with (at_builtin; refine wpList_more _ rfl _ _ 120 rfl 3 (.int .i64 0) 1 8 Tryz.underlying120 infoInt rfl (by decide) (by decide) w.heap.size A k c (cells (ei (MM.elsTo s j))) rfl (hown'.alloc _) w4.heap.size 1 1 [.int .i64 ((j : Int))] rfl rfl (by decide) (one_new _ _ _) ?c1 ?c2 ?c3 ?_; (case c1 => simp [Value.oneCell']); (case c2 => omega); (case c3 => simp; omega); intro A2 c2 w5 hown2 hb5 hgr; have HGR := zh hgr; clear hgr)
     have t1 := RelAt.grown (s1.alloc (.cells #[.int .i64 ((j : Int))] 3)) HGR.out N1.out
     have HB5 := zh ((HB4.out.alloc hbs (.cells #[.int .i64 ((j : Int))] 3)).trans hb5)
     have HK5 : Hid (k + 1 = (MM.elsTo s (j + 1)).length) := by rw [HP.out, zA7, ← HK.out]; exact rfl
     have hk5 : k + 1 ≤ 64 := by have := HLEN.out; rw [← HK5.out] at this; omega
     have HO5 : Hid (OwnI w5 w.heap.size A2 c2 (ei (MM.elsTo s (j + 1)))) := by
      show OwnI w5 w.heap.size A2 c2 (ei (MM.elsTo s (j + 1)))
      unfold OwnI
      rw [HP.out, ei_snoc, cells_snoc, zA7, ei_length, ← HK.out]
      exact hown2
     clear hown2 hb5 hown' hbs s1 HB4 N1 HLEN
     go_wp2_with fail
     go_roundw
     case rel => exact ⟨j + 1, k + 1, c2, A2, by omega, by go_num, rfl, HK5, hk5, HO5, t1, HB5⟩
     case measure => simp [intOf]; omega
  ·have e : j = p := by omega
   subst e
   rw [HSE.out] at HK HO3
   have hof := fun w h => refOf_any A c (ei (MM.els s)) w (by rw [ei_length, ← HK.out]; omega) h
   rw [ei_length, ← HK.out, HOE.out] at hof
   have HOFF := zh hof; clear hof
   have HI := zh HO3.out.ints
   go_wp2_with (go_at_call 81; refine (HOFF.out _ HI.out).mono ?_; rintro e w' ⟨rfl, rfl⟩)
   go_ret
   exact ⟨rfl, HB3.out⟩
theorem qpoint_any (n : Int) (l : List Nat) (hl : RW l) (v : Nat) (w : World) :
 Calls Tryz.prog 66 #[.agg (rv n l), .int .u64 (v : Int)] w fun e w' => e = .returned (optV (ptO n l v)) ∧ Below w.heap.size w w' := by
 have hr1 := RelAt.new w n l
 have hb : Below w.heap.size w (w.alloc (.cells (rv n l) 59)) := (zB _ _).alloc (zL _) _
 have HB := zh hb; clear hb
 have HPT : Hid (∀ w, Calls Tryz.prog 79 #[.agg (rv n l)] w fun e w' => e = .returned (.int .i64 ((pts n : Nat) : Int)) ∧ Below w.heap.size w w') := fun w => qpoints_any n l w
 have HWD : Hid (∀ (i : Nat) w, Calls Tryz.prog 68 #[.agg (rv n l), .int .i64 (i : Int)] w fun e w' => e = .returned (.int .u64 ((wordN n l i : Nat) : Int)) ∧ Below w.heap.size w w') := fun i w => qword_any n l hl i w
 have hp := pts_le n
 have HHIT : Hid (∀ k : Nat, k < pts n → (wordN n l k == v) = true → (∀ j : Nat, j < k → (wordN n l j == v) = false) → optV (ptO n l v) = .tuple #[.int .i64 (k : Int), .bool true]) := fun k h1 h2 h3 => by
  unfold ptO; rw [fnd_hit (P := ptT n l v) h1 h2 h3, optV_some]
 have HNO : Hid ((∀ j : Nat, j < pts n → (wordN n l j == v) = false) → optV (ptO n l v) = .tuple #[.int .i64 0, .bool false]) := fun h => by
  unfold ptO; rw [fnd_none (P := ptT n l v) h, optV_none]
 generalize optV (ptO n l v) = res at *
 generalize pts n = p at *
 go_enter Tryz.func66, Tryz.ntmps66
 go_wp2_with fail
 go_loopw [6] (fun kv wr => ∃ k : Nat, k ≤ p ∧ kv = .int .i64 k ∧ RelAt wr w.heap.size n l ∧ Hid (Below w.heap.size w wr) ∧ Hid (∀ j : Nat, j < k → (wordN n l j == v) = false)) (fun kv _ => p - (intOf kv).toNat)
 case atStart => exact ⟨0, by omega, rfl, hr1, HB, fun j hj => by omega⟩
 case round =>
  clear hr1 HB
  obtain ⟨k, hk, rfl, rr, HB, HK⟩ := hrel
  go_wp2_with (refine wpList_loadRel rfl _ rfl w.heap.size rfl _ l hl rr ?_)
  refine (HPT.out _).mono ?_
  rintro e w1 ⟨rfl, hb1⟩
  have r1 := rr.below hb1 rr.lt
  have HB1 := zh (HB.out.trans (hb1.mono HB.out.size)); clear hb1 rr HB
  by_cases hlt : k < p
  ·have HC := zh (HWD.out k)
   have HKN : Hid ((wordN n l k == v) = false → ∀ j : Nat, j < k + 1 → (wordN n l j == v) = false) := fun h j hj => by
        by_cases e : j = k
        ·subst e; exact h
        ·exact HK.out j (by omega)
   have HR : Hid ((wordN n l k == v) = true → res = .tuple #[.int .i64 (k : Int), .bool true]) := fun h => HHIT.out k hlt h HK.out
   have hxv : (((wordN n l k : Nat) : Int) == (v : Int)) = (wordN n l k == v) := by rw [Bool.eq_iff_iff]; simp; omega
   generalize wordN n l k = x at *
   go_wp2_with (refine wpList_loadRel rfl _ rfl w.heap.size rfl n l hl r1 ?_)
   refine (HC.out _).mono ?_
   rintro e w2 ⟨rfl, hb2⟩
   have r2 := r1.below hb2 r1.lt
   have HB2 := zh (HB1.out.trans (hb2.mono HB1.out.size)); clear hb2 r1 HB1
   cases ht : (x == v) with
   | false =>
     rw [ht] at hxv
     have HKN2 := zh (HKN.out ht); clear ht HR HKN
     go_wp2_with fail
     go_roundw
     case rel => exact ⟨k + 1, by omega, by go_num, r2, HB2, HKN2⟩
     case measure => simp [intOf]; omega
   | true =>
     rw [ht] at hxv
     have HR2 := zh (HR.out ht); clear ht HR HKN
     go_wp2_with fail
     go_ret2
     exact ⟨congrArg Ending.returned HR2.out.symm, HB2.out⟩
  ·have e : k = p := by omega
   subst e
   have HR := zh (HNO.out HK.out)
   go_wp2_with fail
   go_ret2
   exact ⟨congrArg Ending.returned HR.out.symm, HB1.out⟩
end
section
open Go.RowKit RM
def allT (R : Int → Int → Bool) (i j : Int) (u v : Nat) : Bool := (List.range v).all fun x => !(R i x && R j x) || R u x
theorem allT_next (R : Int → Int → Bool) (i j : Int) (u v : Nat) : allT R i j u (v + 1) = (allT R i j u v && (!(R i v && R j v) || R u v)) := by
 unfold allT
 rw [List.range_succ, List.all_append]
 simp
theorem qjoin_any (n : Int) (l : List Nat) (hl : RW l) (i j : Int) (w : World) :
 Calls Tryz.prog 67 #[.agg (rv n l), .int .i64 i, .int .i64 j] w fun e w' => e = .returned (optV (joinR n l i j)) ∧ Below w.heap.size w w' := by
 have hr1 := RelAt.new w n l
 have hb : Below w.heap.size w (w.alloc (.cells (rv n l) 59)) := (zB _ _).alloc (zL _) _
 have HB := zh hb; clear hb
 have HPT : Hid (∀ w, Calls Tryz.prog 79 #[.agg (rv n l)] w fun e w' => e = .returned (.int .i64 ((pts n : Nat) : Int)) ∧ Below w.heap.size w w') := fun w => qpoints_any n l w
 have HHAS : Hid (∀ (a b : Int) w, Calls Tryz.prog 80 #[.agg (rv n l), .int .i64 a, .int .i64 b] w fun e w' => e = .returned (.bool ((hasR n l) a b)) ∧ Below w.heap.size w w') := fun a b w => qhas_any n l hl a b w
 have HTT : Hid (∀ u : Nat, bndT (pts n) (hasR n l) i j u = ((hasR n l) i u && (hasR n l) j u && allT (hasR n l) i j u (pts n))) := fun _ => rfl
 have HHIT : Hid (∀ k : Nat, k < pts n → bndT (pts n) (hasR n l) i j k = true → (∀ a : Nat, a < k → bndT (pts n) (hasR n l) i j a = false) → optV (joinR n l i j) = .tuple #[.int .i64 (k : Int), .bool true]) := fun k h1 h2 h3 => by
  unfold joinR bndO; rw [fnd_hit h1 h2 h3, optV_some]
 have HNO : Hid ((∀ a : Nat, a < pts n → bndT (pts n) (hasR n l) i j a = false) → optV (joinR n l i j) = .tuple #[.int .i64 0, .bool false]) := fun h => by
  unfold joinR bndO; rw [fnd_none h, optV_none]
 have hp := pts_le n
 generalize optV (joinR n l i j) = res at *
 generalize bndT (pts n) (hasR n l) i j = T at *
 generalize (hasR n l) = R at *
 generalize pts n = p at *
 go_enter Tryz.func67, Tryz.ntmps67
 go_wp2_with fail
 go_loopw [8, 9, 10] (fun uv _ _ wr => ∃ u : Nat, u ≤ p ∧ uv = .int .i64 u ∧ RelAt wr w.heap.size n l ∧ Hid (Below w.heap.size w wr) ∧ Hid (∀ a, a < u → T a = false)) (fun uv _ _ _ => p - (intOf uv).toNat)
 case atStart => exact ⟨0, by omega, rfl, hr1, HB, fun a ha => by omega⟩
 case round =>
  clear hr1 HB
  obtain ⟨u, hu, rfl, rr, HB, HA⟩ := hrel
  go_wp2_with (refine wpList_loadRel rfl _ rfl w.heap.size rfl n l hl rr ?_)
  refine (HPT.out _).mono ?_
  rintro e w1 ⟨rfl, hb1⟩
  have r1 := rr.below hb1 rr.lt
  have HB1 := zh (HB.out.trans (hb1.mono HB.out.size)); clear hb1 rr HB
  by_cases hlt : u < p
  ·go_wp2_with (refine wpList_loadRel (by rfl) _ rfl w.heap.size rfl n l hl r1 ?_)
   refine (HHAS.out i (u : Int) _).mono ?_
   rintro e w2 ⟨rfl, hb⟩
   have r2 := r1.below hb r1.lt
   have HB2 := zh (HB1.out.trans (hb.mono HB1.out.size)); clear hb
   clear r1 HB1
   cases d1 : R i (u : Int) with
   | false =>
     go_wp2_with fail
     have HG : Hid (false = (R i u && R j u && allT R i j u 0)) := by show _ = _; rw [d1]; simp
     obtain ⟨wo, rfl⟩ : ∃ wo : World, wo = w2 := ⟨_, rfl⟩
     go_loopw [9, 10] (fun gv vv wr => ∃ (v : Nat) (q : Bool), v ≤ p ∧ gv = .bool q ∧ vv = .int .i64 v ∧ RelAt wr w.heap.size n l ∧ Hid (Below w.heap.size w wr) ∧ Hid (q = (R i u && R j u && allT R i j u v))) (fun _ vv _ => p - (intOf vv).toNat)
     case atStart => exact ⟨0, false, by omega, rfl, rfl, r2, HB2, HG⟩
     case round =>
      clear r2 HB2 HG
      obtain ⟨v, q, hv, rfl, rfl, rr, HB, HG⟩ := hrel
      go_wp2_with (refine wpList_loadRel rfl _ rfl w.heap.size rfl n l hl rr ?_)
      refine (HPT.out _).mono ?_
      rintro e v1 ⟨rfl, hb⟩
      have k1 := rr.below hb rr.lt
      have HK1 := zh (HB.out.trans (hb.mono HB.out.size)); clear hb rr HB
      by_cases hvp : v < p
      ·have HNX := zh (allT_next R i j u v)
       go_wp2_with (refine wpList_loadRel (by rfl) _ rfl w.heap.size rfl n l hl k1 ?_)
       refine (HHAS.out i (v : Int) _).mono ?_
       rintro e v2 ⟨rfl, hb⟩
       have k2 := k1.below hb k1.lt
       have HK2 := zh (HK1.out.trans (hb.mono HK1.out.size)); clear hb
       clear k1 HK1
       cases c1 : R i (v : Int) with
       | false =>
         have HG2 : Hid (q = (R i u && R j u && allT R i j u (v + 1))) := by show _ = _; rw [HNX.out, c1, HG.out]; simp
         clear c1
         go_wp2_with fail
         go_roundw
         case rel => exact ⟨v + 1, q, by omega, rfl, by go_num, k2, HK2, HG2⟩
         case measure => simp [intOf]; omega
       | true =>
         have C1 := zh c1; clear c1
         go_wp2_with (refine wpList_loadRel (by rfl) _ rfl w.heap.size rfl n l hl k2 ?_)
         refine (HHAS.out j (v : Int) _).mono ?_
         rintro e v3 ⟨rfl, hb⟩
         have k3 := k2.below hb k2.lt
         have HK3 := zh (HK2.out.trans (hb.mono HK2.out.size)); clear hb
         clear k2 HK2
         cases c2 : R j (v : Int) with
         | false =>
           have HG2 : Hid (q = (R i u && R j u && allT R i j u (v + 1))) := by show _ = _; rw [HNX.out, c2, HG.out]; simp
           clear c2
           go_wp2_with fail
           go_roundw
           case rel => exact ⟨v + 1, q, by omega, rfl, by go_num, k3, HK3, HG2⟩
           case measure => simp [intOf]; omega
         | true =>
           have C2 := zh c2; clear c2
           go_wp2_with (refine wpList_loadRel (by rfl) _ rfl w.heap.size rfl n l hl k3 ?_)
           refine (HHAS.out u (v : Int) _).mono ?_
           rintro e v4 ⟨rfl, hb⟩
           have k4 := k3.below hb k3.lt
           have HK4 := zh (HK3.out.trans (hb.mono HK3.out.size)); clear hb
           clear k3 HK3
           cases c3 : R u (v : Int) with
           | false =>
             have HG2 : Hid (false = (R i u && R j u && allT R i j u (v + 1))) := by show _ = _; rw [HNX.out, C1.out, C2.out, c3]; simp
             clear c3
             go_wp2_with fail
             go_roundw
             case rel => exact ⟨v + 1, false, by omega, rfl, by go_num, k4, HK4, HG2⟩
             case measure => simp [intOf]; omega
           | true =>
             have HG2 : Hid (q = (R i u && R j u && allT R i j u (v + 1))) := by show _ = _; rw [HNX.out, c3, HG.out]; simp
             clear c3
             go_wp2_with fail
             go_roundw
             case rel => exact ⟨v + 1, q, by omega, rfl, by go_num, k4, HK4, HG2⟩
             case measure => simp [intOf]; omega
      ·have e : v = p := by omega
       subst e
       cases q with
       | false =>
         have HA2 : Hid (∀ a, a < u + 1 → T a = false) := fun a ha => by
          by_cases h : a < u
          ·exact HA.out a h
          ·obtain rfl : a = u := by omega
           rw [HTT.out]; exact HG.out.symm
         go_wp2_with fail
         go_roundw
         case rel => exact ⟨u + 1, by omega, by go_num, k1, HK1, HA2⟩
         case measure => simp [intOf]; omega
       | true =>
         have HR := zh (HHIT.out u hlt ((HTT.out u).trans HG.out.symm) HA.out)
         go_wp2_with fail
         go_ret2
         exact ⟨congrArg Ending.returned HR.out.symm, HK1.out⟩
   | true =>
     have D1 := zh d1; clear d1
     go_wp2_with (refine wpList_loadRel (by rfl) _ rfl w.heap.size rfl n l hl r2 ?_)
     refine (HHAS.out j (u : Int) _).mono ?_
     rintro e w3 ⟨rfl, hb⟩
     have r3 := r2.below hb r2.lt
     have HB3 := zh (HB2.out.trans (hb.mono HB2.out.size)); clear hb
     clear r2 HB2
     obtain ⟨q0, d2⟩ : ∃ q0, R j (u : Int) = q0 := ⟨_, rfl⟩
     have D2 := zh d2; rw [d2]; clear d2
     go_wp2_with fail
     have HG : Hid (q0 = (R i u && R j u && allT R i j u 0)) := by show _ = _; rw [D1.out, D2.out]; simp [allT]
     obtain ⟨wo, rfl⟩ : ∃ wo : World, wo = w3 := ⟨_, rfl⟩
     go_loopw [9, 10] (fun gv vv wr => ∃ (v : Nat) (q : Bool), v ≤ p ∧ gv = .bool q ∧ vv = .int .i64 v ∧ RelAt wr w.heap.size n l ∧ Hid (Below w.heap.size w wr) ∧ Hid (q = (R i u && R j u && allT R i j u v))) (fun _ vv _ => p - (intOf vv).toNat)
     case atStart => exact ⟨0, q0, by omega, rfl, rfl, r3, HB3, HG⟩
     case round =>
      clear r3 HB3 HG
      obtain ⟨v, q, hv, rfl, rfl, rr, HB, HG⟩ := hrel
      go_wp2_with (refine wpList_loadRel rfl _ rfl w.heap.size rfl n l hl rr ?_)
      refine (HPT.out _).mono ?_
      rintro e v1 ⟨rfl, hb⟩
      have k1 := rr.below hb rr.lt
      have HK1 := zh (HB.out.trans (hb.mono HB.out.size)); clear hb rr HB
      by_cases hvp : v < p
      ·have HNX := zh (allT_next R i j u v)
       go_wp2_with (refine wpList_loadRel (by rfl) _ rfl w.heap.size rfl n l hl k1 ?_)
       refine (HHAS.out i (v : Int) _).mono ?_
       rintro e v2 ⟨rfl, hb⟩
       have k2 := k1.below hb k1.lt
       have HK2 := zh (HK1.out.trans (hb.mono HK1.out.size)); clear hb
       clear k1 HK1
       cases c1 : R i (v : Int) with
       | false =>
         have HG2 : Hid (q = (R i u && R j u && allT R i j u (v + 1))) := by show _ = _; rw [HNX.out, c1, HG.out]; simp
         clear c1
         go_wp2_with fail
         go_roundw
         case rel => exact ⟨v + 1, q, by omega, rfl, by go_num, k2, HK2, HG2⟩
         case measure => simp [intOf]; omega
       | true =>
         have C1 := zh c1; clear c1
         go_wp2_with (refine wpList_loadRel (by rfl) _ rfl w.heap.size rfl n l hl k2 ?_)
         refine (HHAS.out j (v : Int) _).mono ?_
         rintro e v3 ⟨rfl, hb⟩
         have k3 := k2.below hb k2.lt
         have HK3 := zh (HK2.out.trans (hb.mono HK2.out.size)); clear hb
         clear k2 HK2
         cases c2 : R j (v : Int) with
         | false =>
           have HG2 : Hid (q = (R i u && R j u && allT R i j u (v + 1))) := by show _ = _; rw [HNX.out, c2, HG.out]; simp
           clear c2
           go_wp2_with fail
           go_roundw
           case rel => exact ⟨v + 1, q, by omega, rfl, by go_num, k3, HK3, HG2⟩
           case measure => simp [intOf]; omega
         | true =>
           have C2 := zh c2; clear c2
           go_wp2_with (refine wpList_loadRel (by rfl) _ rfl w.heap.size rfl n l hl k3 ?_)
           refine (HHAS.out u (v : Int) _).mono ?_
           rintro e v4 ⟨rfl, hb⟩
           have k4 := k3.below hb k3.lt
           have HK4 := zh (HK3.out.trans (hb.mono HK3.out.size)); clear hb
           clear k3 HK3
           cases c3 : R u (v : Int) with
           | false =>
             have HG2 : Hid (false = (R i u && R j u && allT R i j u (v + 1))) := by show _ = _; rw [HNX.out, C1.out, C2.out, c3]; simp
             clear c3
             go_wp2_with fail
             go_roundw
             case rel => exact ⟨v + 1, false, by omega, rfl, by go_num, k4, HK4, HG2⟩
             case measure => simp [intOf]; omega
           | true =>
             have HG2 : Hid (q = (R i u && R j u && allT R i j u (v + 1))) := by show _ = _; rw [HNX.out, c3, HG.out]; simp
             clear c3
             go_wp2_with fail
             go_roundw
             case rel => exact ⟨v + 1, q, by omega, rfl, by go_num, k4, HK4, HG2⟩
             case measure => simp [intOf]; omega
      ·have e : v = p := by omega
       subst e
       cases q with
       | false =>
         have HA2 : Hid (∀ a, a < u + 1 → T a = false) := fun a ha => by
          by_cases h : a < u
          ·exact HA.out a h
          ·obtain rfl : a = u := by omega
           rw [HTT.out]; exact HG.out.symm
         go_wp2_with fail
         go_roundw
         case rel => exact ⟨u + 1, by omega, by go_num, k1, HK1, HA2⟩
         case measure => simp [intOf]; omega
       | true =>
         have HR := zh (HHIT.out u hlt ((HTT.out u).trans HG.out.symm) HA.out)
         go_wp2_with fail
         go_ret2
         exact ⟨congrArg Ending.returned HR.out.symm, HK1.out⟩
  ·have e : u = p := by omega
   subst e
   have HR := zh (HNO.out HA.out)
   go_wp2_with fail
   go_ret2
   exact ⟨congrArg Ending.returned HR.out.symm, HB1.out⟩
theorem qraise_any (n : Int) (l : List Nat) (hl : RW l) (a b : Nat) (ha : a < 18446744073709551616) (hb : b < 18446744073709551616) (w : World) :
 Calls Tryz.prog 47 #[.agg (rv n l), .int .u64 (a : Int), .int .u64 (b : Int)] w fun e w' => e = .returned (.int .u64 ((raiseN n l a b : Nat) : Int)) ∧ Below w.heap.size w w' := by
 have hr1 := RelAt.new w n l
 have hb0 : Below w.heap.size w (w.alloc (.cells (rv n l) 59)) := (zB _ _).alloc (zL _) _
 have HB := zh hb0; clear hb0
 obtain ⟨pa, ea⟩ : ∃ pa, pa = ptO n l a := ⟨_, rfl⟩
 obtain ⟨pb, eb⟩ : ∃ pb, pb = ptO n l b := ⟨_, rfl⟩
 obtain ⟨k, ek⟩ : ∃ k, k = joinR n l ((pa.getD 0 : Nat) : Int) ((pb.getD 0 : Nat) : Int) := ⟨_, rfl⟩
 have HPA : Hid (∀ w, Calls Tryz.prog 66 #[.agg (rv n l), .int .u64 (a : Int)] w fun e w' => e = .returned (optV pa) ∧ Below w.heap.size w w') := fun w => by rw [ea]; exact qpoint_any n l hl a w
 have HPB : Hid (∀ w, Calls Tryz.prog 66 #[.agg (rv n l), .int .u64 (b : Int)] w fun e w' => e = .returned (optV pb) ∧ Below w.heap.size w w') := fun w => by rw [eb]; exact qpoint_any n l hl b w
 have HJ : Hid (∀ w, Calls Tryz.prog 67 #[.agg (rv n l), .int .i64 ((pa.getD 0 : Nat) : Int), .int .i64 ((pb.getD 0 : Nat) : Int)] w fun e w' => e = .returned (optV k) ∧ Below w.heap.size w w') := fun w => by rw [ek]; exact qjoin_any n l hl _ _ w
 have HWD : Hid (∀ w, Calls Tryz.prog 68 #[.agg (rv n l), .int .i64 ((k.getD 0 : Nat) : Int)] w fun e w' => e = .returned (.int .u64 ((wordN n l ((k.getD 0 : Nat) : Int) : Nat) : Int)) ∧ Below w.heap.size w w') := fun w => qword_any n l hl _ w
 have HV : Hid (raiseN n l a b = if pa.isSome && pb.isSome && k.isSome then wordN n l ((k.getD 0 : Nat) : Int) else a ||| b) := by
  show raiseN n l a b = _
  unfold raiseN raiseF
  rw [← ea, ← eb, ← ek]
 have hor : bits BinOp.or IntKind.u64 (a : Int) (b : Int) = ((a ||| b : Nat) : Int) := u64_or_nat a b ha hb
 have HOR := zh hor; clear hor
 clear ea eb ek
 unfold optV at HPA HPB HJ
 generalize raiseN n l a b = res at *
 generalize wordN n l ((k.getD 0 : Nat) : Int) = wd at *
 generalize pa.getD 0 = x at *
 generalize pb.getD 0 = y at *
 generalize k.getD 0 = z at *
 generalize pa.isSome = b1 at *
 generalize pb.isSome = b2 at *
 generalize k.isSome = b3 at *
 go_enter Tryz.func47, Tryz.ntmps47
 go_wp2_with (refine wpList_loadRel rfl _ rfl w.heap.size rfl n l hl hr1 ?_)
 refine (HPA.out _).mono ?_
 rintro e w1 ⟨rfl, hb1⟩
 have r1 := hr1.below hb1 hr1.lt
 have HB1 := zh (HB.out.trans (hb1.mono HB.out.size)); clear hb1
 go_wp2_with (refine wpList_loadRel rfl _ rfl w.heap.size rfl n l hl r1 ?_)
 refine (HPB.out _).mono ?_
 rintro e w2 ⟨rfl, hb2⟩
 have r2 := r1.below hb2 r1.lt
 have HB2 := zh (HB1.out.trans (hb2.mono HB1.out.size)); clear hb2
 go_wp2_with (refine wpList_loadRel rfl _ rfl w.heap.size rfl n l hl r2 ?_)
 refine (HJ.out _).mono ?_
 rintro e w3 ⟨rfl, hb3⟩
 have r3 := r2.below hb3 r2.lt
 have HB3 := zh (HB2.out.trans (hb3.mono HB2.out.size)); clear hb3
 clear hr1 r1 r2 HB HB1 HB2 HPA HPB HJ
 cases b1 with
 | false =>
   go_wp2_with fail
   go_ret
   exact ⟨ret_eq (by rw [HV.out]; exact int_eq HOR.out), HB3.out⟩
 | true =>
   cases b2 with
   | false =>
     go_wp2_with fail
     go_ret
     exact ⟨ret_eq (by rw [HV.out]; exact int_eq HOR.out), HB3.out⟩
   | true =>
     cases b3 with
     | false =>
       go_wp2_with fail
       go_ret
       exact ⟨ret_eq (by rw [HV.out]; exact int_eq HOR.out), HB3.out⟩
     | true =>
       go_wp2_with (refine wpList_loadRel rfl _ rfl w.heap.size rfl n l hl r3 ?_)
       refine (HWD.out _).mono ?_
       rintro e w4 ⟨rfl, hb4⟩
       have HB4 := zh (HB3.out.trans (hb4.mono HB3.out.size)); clear hb4
       go_wp2_with fail
       go_ret
       exact ⟨ret_eq (by rw [HV.out]; rfl), HB4.out⟩
end
section
open Go.RowKit RM
end
section
open Go.RowKit RM
theorem set_at_self {l : List Nat} (h : EW l) (k x : Nat) (hk : k < 8) : (uv (l.set k x))[k]? = some (.int .u64 (x : Int)) := by
 have h1 := h.1
 simp [uv, h1, hk]
theorem qleq_any (a b : List Nat) (ha : EW a) (hb : EW b) (w : World) :
 Calls Tryz.prog 23 #[.agg (uv a), .agg (uv b)] w fun x w' => x = .returned (.bool (leqE a b)) ∧ Below w.heap.size w w' := by
 have r0 : RowAt ((w.alloc (.cells (uv a) 40)).alloc (.cells (uv b) 40)) w.heap.size 40 (uv a) := (RowAt.new w _ _).alloc _
 have q0 : RowAt ((w.alloc (.cells (uv a) 40)).alloc (.cells (uv b) 40)) (w.heap.size + 1) 40 (uv b) := by
  have := RowAt.new (w.alloc (.cells (uv a) 40)) 40 (uv b)
  simpa using this
 have HB0 : Hid (Below w.heap.size w ((w.alloc (.cells (uv a) 40)).alloc (.cells (uv b) 40))) := ((zB _ _).alloc (zL _) _).alloc (by simp) _
 have HBAD : Hid (∀ k, k < 8 → MM.subN (a.getD k 0) (b.getD k 0) = false → leqE a b = false) := fun k hk h => leq_bad hk h
 have HEND : Hid ((∀ k, k < 8 → MM.subN (a.getD k 0) (b.getD k 0) = true) → leqE a b = true) := fun h => leq_iff.2 h
 have HA : Hid (∀ k, k < 8 → (uv a)[k]? = some (.int .u64 ((a.getD k 0 : Nat) : Int))) := fun k hk => ev_at ha k hk
 have HC : Hid (∀ k, k < 8 → (uv b)[k]? = some (.int .u64 ((b.getD k 0 : Nat) : Int))) := fun k hk => ev_at hb k hk
 have HLA := zh ha.lt
 have HLB := zh hb.lt
 clear ha hb
 generalize leqE a b = res at *
 generalize uv a = U at *
 generalize uv b = V2 at *
 go_enter Tryz.func23, Tryz.ntmps23
 go_upto_region 1 with fail
 generalize (w.alloc (.cells U 40)).alloc (.cells V2 40) = w0 at *
 go_wp2_with fail
 go_loopw [5] (fun kv wr => ∃ k : Nat, k ≤ 8 ∧ kv = .int .i64 k ∧ RowAt wr w.heap.size 40 U ∧ RowAt wr (w.heap.size + 1) 40 V2 ∧ Hid (∀ j, j < k → MM.subN (a.getD j 0) (b.getD j 0) = true) ∧ Hid (Below w.heap.size w wr)) (fun kv _ => 8 - (intOf kv).toNat)
 case atStart => exact ⟨0, by omega, rfl, r0, q0, fun j hj => by omega, HB0⟩
 case round =>
  clear r0 q0 HB0
  obtain ⟨k, hk, rfl, r1, q1, HK, HB1⟩ := hrel
  by_cases hlt : k < 8
  ·have hk8 : (k : Int) < 8 := by omega
   have HR := zh (HBAD.out k hlt)
   have HKN : Hid (MM.subN (a.getD k 0) (b.getD k 0) = true → ∀ j, j < k + 1 → MM.subN (a.getD j 0) (b.getD j 0) = true) := fun h j hj => by
        by_cases e : j = k
        ·subst e; exact h
        ·exact HK.out j (by omega)
   have hxa := HA.out k hlt
   have hxb := HC.out k hlt
   have h1 := HLA.out k
   have h2 := HLB.out k
   have HSB : Hid (∀ W, Calls Tryz.prog 46 #[.int .u64 ((a.getD k 0 : Nat) : Int), .int .u64 ((b.getD k 0 : Nat) : Int)] W fun x w' => x = .returned (.bool (MM.subN (a.getD k 0) (b.getD k 0))) ∧ Below W.heap.size W w') := fun W => refSub_any _ _ h1 h2 W
   clear h1 h2
   generalize MM.subN (a.getD k 0) (b.getD k 0) = bw at *
   generalize a.getD k 0 = x at *
   generalize b.getD k 0 = y at *
   obtain ⟨S, HS, pW, keepS⟩ := ex_gen wr
   have PR : Hid (∀ w', S w' → RowAt w' w.heap.size 40 U) := fun w' h => r1.below (pW w' h) r1.lt
   have PQ : Hid (∀ w', S w' → RowAt w' (w.heap.size + 1) 40 V2) := fun w' h => q1.below (pW w' h) q1.lt
   have cA : ∀ w', S w' → w'.cell? ⟨w.heap.size, k, none⟩ = some (.int .u64 (x : Int)) := fun w' h => ((PR.out w' h).cell k).trans hxa
   have cB : ∀ w', S w' → w'.cell? ⟨w.heap.size + 1, k, none⟩ = some (.int .u64 (y : Int)) := fun w' h => ((PQ.out w' h).cell k).trans hxb
   have PB : Hid (∀ w', S w' → Below w.heap.size w w') := fun w' h => HB1.out.trans ((pW w' h).mono HB1.out.size)
   clear pW r1 q1 HB1 hxa hxb
   go_wp2_with fail
   refine wp_region_ord S [(0, true), (1, true), (2, true), (3, true), (4, true), (5, true), (6, false), (7, true)] (by kernel_rfl) (by kernel_rfl) rfl (by kernel_rfl) HS.out ?_
   generalize wr.drew = V at HS ⊢
   iterate 6
        (refine wpOrd_step (zO rfl) ?_)
        (first
         | (refine wpOrd_skip (by rfl) ?_)
         | (refine wpOrd_take (v := ?_) (by rfl) ?_ ?_; rotate_left 1; (intro wx hSx; have hc_0 := cA wx hSx; have hc_1 := cB wx hSx; go_simp; try with_reducible rfl)))
        (try simp only [Act.put, zA4, zA5, zA6])
   (refine wpOrd_solo (zO rfl) ?_)
   intro K hK
   go_simp
   go_at_call 46
   refine (HSB.out _).mono ?_
   rintro e w5 ⟨rfl, hb⟩
   have hS := keepS _ _ HS.out hb
   clear HS
   have HS := zh hS; clear hS hb
   refine hK.out _ _ HS.out ?_
   clear hK K
   (try simp only [Act.put, zA4, zA5, zA6])
   iterate 1
        (refine wpOrd_step (zO rfl) ?_)
        (first
         | (refine wpOrd_skip (by rfl) ?_)
         | (refine wpOrd_take (v := ?_) (by rfl) ?_ ?_; rotate_left 1; (intro wx hSx; go_simp; try with_reducible rfl)))
        (try simp only [Act.put, zA4, zA5, zA6])
   refine wpOrd_done ?_
   have HB5 := zh (PB.out _ HS.out)
   have r5 := PR.out _ HS.out
   have q5 := PQ.out _ HS.out
   clear PR PQ cA cB PB HS keepS
   cases bw with
   | false =>
     have HR2 := zh (HR.out rfl)
     clear HR HKN
     go_wp2_with fail
     go_ret
     exact ⟨ret_eq (bool_eq HR2.out.symm), HB5.out⟩
   | true =>
     have HKN2 := zh (HKN.out rfl)
     clear HR HKN
     go_wp2_with fail
     go_roundw
     case rel => exact ⟨k + 1, by omega, by go_num, r5, q5, HKN2, HB5⟩
     case measure => simp [intOf]; omega
  ·have e1 : k = 8 := by omega
   subst e1
   have HE2 := zh (HEND.out HK.out)
   go_wp2_with fail
   go_ret
   exact ⟨ret_eq (bool_eq HE2.out.symm), HB1.out⟩
theorem qmeet8_any (a b : List Nat) (ha : EW a) (hb : EW b) (w : World) :
 Calls Tryz.prog 49 #[.agg (uv a), .agg (uv b)] w fun x w' => x = .returned (.agg (uv (meetE a b))) ∧ Below w.heap.size w w' := by
 have z8 := EW.zeros
 obtain ⟨r0, q0, p0, s0, hb0⟩ := four_rows w (uv a) (uv b) (uv (List.replicate 8 0)) (uv (List.replicate 8 0)) 40 40 40 40
 have HB0 := zh hb0; clear hb0
 have HA : Hid (∀ k, k < 8 → (uv a)[k]? = some (.int .u64 ((a.getD k 0 : Nat) : Int))) := fun k hk => ev_at ha k hk
 have HC : Hid (∀ k, k < 8 → (uv b)[k]? = some (.int .u64 ((b.getD k 0 : Nat) : Int))) := fun k hk => ev_at hb k hk
 have HLA := zh ha.lt
 have HLB := zh hb.lt
 have hG : meetE a b = sdTo (fun i => a.getD i 0 &&& b.getD i 0) 8 8 := (sdTo_end (fun i => a.getD i 0 &&& b.getD i 0) 8).symm
 rw [hG]
 have HEW : Hid (∀ k, EW (sdTo (fun i => a.getD i 0 &&& b.getD i 0) 8 k)) := sdTo_ew fun i => and_lt _ (ha.lt i)
 have HZ : Hid (sdTo (fun i => a.getD i 0 &&& b.getD i 0) 8 0 = List.replicate 8 0) := sdTo_zero _ 8
 have HNX : Hid (∀ k, (uv (sdTo (fun i => a.getD i 0 &&& b.getD i 0) 8 k)).setIfInBounds k (.int .u64 ((a.getD k 0 &&& b.getD k 0 : Nat) : Int)) = uv (sdTo (fun i => a.getD i 0 &&& b.getD i 0) 8 (k + 1))) := fun k => by rw [uv_set, ← sdTo_set]
 clear ha hb hG
 generalize sdTo (fun i => a.getD i 0 &&& b.getD i 0) 8 = G at *
 generalize uv a = U at *
 generalize uv b = V2 at *
 rw [← zero_elem] at r0 q0 p0 s0 HB0
 go_enter Tryz.func49, Tryz.ntmps49
 go_upto_region 2 with fail
 rw [zero_elem] at r0 q0 p0 s0 HB0 ⊢
 generalize (((w.alloc (.cells U 40)).alloc (.cells V2 40)).alloc (.cells (uv (List.replicate 8 0)) 40)).alloc (.cells (uv (List.replicate 8 0)) 40) = w0 at *
 have n1 : w.heap.size ≠ w.heap.size + 3 := by omega
 have n2 : w.heap.size + 1 ≠ w.heap.size + 3 := by omega
 have n3 : w.heap.size + 2 ≠ w.heap.size + 3 := by omega
 have n4 : w.heap.size ≤ w.heap.size + 3 := by omega
 have n5 : w.heap.size ≤ w.heap.size + 2 := by omega
 rw [← HZ.out] at s0
 generalize hgE : w.heap.size + 3 = gE at *
 generalize hgR : w.heap.size + 2 = gR at *
 rw [← HZ.out] at p0
 rw [HZ.out] at p0
 go_wp2_with fail
 go_loopw [6] (fun kv wr => ∃ k : Nat, k ≤ 8 ∧ kv = .int .i64 k ∧ RowAt wr w.heap.size 40 U ∧ RowAt wr (w.heap.size + 1) 40 V2 ∧ RowAt wr gR 40 (uv (List.replicate 8 0)) ∧ RowAt wr gE 40 (uv (G k)) ∧ Hid (Below w.heap.size w wr)) (fun kv _ => 8 - (intOf kv).toNat)
 case atStart => exact ⟨0, by omega, rfl, r0, q0, p0, s0, HB0⟩
 case round =>
  clear r0 q0 p0 s0 HB0
  obtain ⟨k, hk, rfl, r1, q1, p1, s1, HB1⟩ := hrel
  by_cases hlt : k < 8
  ·have hk8 : (k : Int) < 8 := by omega
   have hxa := HA.out k hlt
   have hxb := HC.out k hlt
   have hor := u64_and_nat (a.getD k 0) (b.getD k 0) (HLA.out k) (HLB.out k)
   have hce0 := ev_at (HEW.out k) k hlt
   have hnx := HNX.out k
   generalize (G k).getD k 0 = x0 at *
   generalize a.getD k 0 &&& b.getD k 0 = z at *
   generalize a.getD k 0 = x at *
   generalize b.getD k 0 = y at *
   have HNX2 := zh hnx; clear hnx
   obtain ⟨S, HS, pM, keepS, SI⟩ := ex_mut gE wr
   have PM := zh pM
   have PR : Hid (∀ w', S w' → RowAt w' w.heap.size 40 U) := fun w' h => r1.mut (pM w' h) n1
   have PQ : Hid (∀ w', S w' → RowAt w' (w.heap.size + 1) 40 V2) := fun w' h => q1.mut (pM w' h) n2
   have PP : Hid (∀ w', S w' → RowAt w' gR 40 (uv (List.replicate 8 0))) := fun w' h => p1.mut (pM w' h) n3
   have cA : ∀ w', S w' → w'.cell? ⟨w.heap.size, k, none⟩ = some (.int .u64 (x : Int)) := fun w' h => ((PR.out w' h).cell k).trans hxa
   have cB : ∀ w', S w' → w'.cell? ⟨w.heap.size + 1, k, none⟩ = some (.int .u64 (y : Int)) := fun w' h => ((PQ.out w' h).cell k).trans hxb
   have PB : Hid (∀ w', S w' → Below w.heap.size w w') := fun w' h => HB1.out.trans ((pM w' h).below n4 HB1.out.size)
   have s2 := s1.drew
   have hce := (s2.cell k).trans hce0
   have hfe := s2.free k
   have HCF := zh (And.intro hce hfe)
   clear pM r1 q1 p1 s1 HB1 hxa hxb hce0 hce hfe
   go_wp2_with fail
   refine wp_region_ord S [(0, true), (1, true), (2, true), (3, true), (4, true), (5, true), (6, true), (7, true), (8, true), (9, false)] (by kernel_rfl) (by kernel_rfl) rfl (by kernel_rfl) HS.out ?_
   generalize wr.drew = V at HS s2 HCF ⊢
   iterate 9
        (refine wpOrd_step (zO rfl) ?_)
        (first
         | (refine wpOrd_skip (by rfl) ?_)
         | (refine wpOrd_take (v := ?_) (by rfl) ?_ ?_; rotate_left 1; (intro wx hSx; have hc_0 := cA wx hSx; have hc_1 := cB wx hSx; go_simp; try with_reducible rfl)))
        (try simp only [Act.put, zA4, zA5, zA6])
   obtain ⟨hce, hfe⟩ := HCF.out
   (refine wpOrd_solo (zO rfl) ?_)
   intro K hK
   go_simp
   have HM5 := zh ((PM.out _ HS.out).trans (Mut.of_set V gE k (.int .u64 ((z : Nat) : Int))))
   have p5 := s2.put k (.int .u64 ((z : Nat) : Int))
   rw [HNX2.out] at p5
   refine hK.out _ _ (SI.out _ HM5.out) ?_
   clear hK K
   (try simp only [Act.put, zA4, zA5, zA6])
   refine wpOrd_done ?_
   have HB5 := zh (PB.out _ (SI.out _ HM5.out))
   have r5 := PR.out _ (SI.out _ HM5.out)
   have q5 := PQ.out _ (SI.out _ HM5.out)
   have p6 := PP.out _ (SI.out _ HM5.out)
   clear PR PQ PP PM cA cB PB HS keepS SI HM5 hce hfe HCF hor s2
   go_wp2_with fail
   go_roundw
   case rel => exact ⟨k + 1, by omega, by go_num, r5, q5, p6, p5, HB5⟩
   case measure => simp [intOf]; omega
  ·have e1 : k = 8 := by omega
   subst e1
   have hew := HEW.out 8
   go_wp2_with (first | (refine wpList_loadElem (by rfl) _ rfl gE rfl _ hew s1 ?_) | (refine wpList_storeElem (by rfl) _ _ rfl gR rfl _ hew rfl _ z8 p1 ?_; intro w7 q7 he))
   exact bodyPost_ret (ret_elem rfl _ _ gR _ hew rfl q7) rfl ⟨rfl, HB1.out.trans (he.below n5)⟩
theorem qjoin8_any (t : Bool) (A : Option Addr) (c : Nat) (fs : List Fac) (a b : List Nat) (ha : EW a) (hb : EW b) (w : World) (hF : Facs w A fs) :
 Calls Tryz.prog 24 #[.agg (sv t A fs.length c), .agg (uv a), .agg (uv b)] w fun x w' => x = .returned (.agg (uv (joinE fs a b))) ∧ Below w.heap.size w w' := by
 have z8 := EW.zeros
 have HT : Hid True := trivial
 obtain ⟨r0, q0, t0, p0, s0, hb0⟩ := five_rows w (sv t A fs.length c) (uv a) (uv b) (uv (List.replicate 8 0)) (uv (List.replicate 8 0)) 24 40 40 40 40
 have HB0 := zh hb0; clear hb0
 have HA : Hid (∀ k, k < 8 → (uv a)[k]? = some (.int .u64 ((a.getD k 0 : Nat) : Int))) := fun k hk => ev_at ha k hk
 have HC : Hid (∀ k, k < 8 → (uv b)[k]? = some (.int .u64 ((b.getD k 0 : Nat) : Int))) := fun k hk => ev_at hb k hk
 have HLA := zh ha.lt
 have HLB := zh hb.lt
 have HS1 : Hid (∀ W, RowAt W w.heap.size 24 (sv t A fs.length c) → W.cell? ⟨w.heap.size, 0, none⟩ = some (.bool t) ∧ W.cell? ⟨w.heap.size, 1, none⟩ = some (.slice A fs.length c)) := fun W h => shape_cells h
 have HF : Hid (∀ W, Below w.heap.size w W → Facs W A fs) := fun W h => hF.below h
 have hG : joinE fs a b = sdTo (fun i => joinS fs i (a.getD i 0) (b.getD i 0)) 8 8 := (sdTo_end (fun i => joinS fs i (a.getD i 0) (b.getD i 0)) 8).symm
 rw [hG]
 have HEW : Hid (∀ k, EW (sdTo (fun i => joinS fs i (a.getD i 0) (b.getD i 0)) 8 k)) := sdTo_ew fun i => joinS_lt fs i (ha.lt i) (hb.lt i)
 have HZ : Hid (sdTo (fun i => joinS fs i (a.getD i 0) (b.getD i 0)) 8 0 = List.replicate 8 0) := sdTo_zero _ 8
 have HNX : Hid (∀ k, (uv (sdTo (fun i => joinS fs i (a.getD i 0) (b.getD i 0)) 8 k)).setIfInBounds k (.int .u64 ((joinS fs k (a.getD k 0) (b.getD k 0) : Nat) : Int)) = uv (sdTo (fun i => joinS fs i (a.getD i 0) (b.getD i 0)) 8 (k + 1))) := fun k => by rw [uv_set, ← sdTo_set]
 clear ha hb hG hF
 generalize sdTo (fun i => joinS fs i (a.getD i 0) (b.getD i 0)) 8 = G at *
 generalize hn : fs.length = n at *
 have HN := zh hn; clear hn
 generalize uv a = U at *
 generalize uv b = V2 at *
 generalize sv t A n c = V at *
 rw [← zero_elem] at r0 q0 t0 p0 s0 HB0
 go_enter Tryz.func24, Tryz.ntmps24
 go_upto_region 2 with fail
 rw [zero_elem] at r0 q0 t0 p0 s0 HB0 ⊢
 generalize ((((w.alloc (.cells V 24)).alloc (.cells U 40)).alloc (.cells V2 40)).alloc (.cells (uv (List.replicate 8 0)) 40)).alloc (.cells (uv (List.replicate 8 0)) 40) = w0 at *
 have n1 : w.heap.size ≠ w.heap.size + 4 := by omega
 have n2 : w.heap.size + 1 ≠ w.heap.size + 4 := by omega
 have n3 : w.heap.size + 2 ≠ w.heap.size + 4 := by omega
 have n4 : w.heap.size ≤ w.heap.size + 4 := by omega
 have n5 : w.heap.size + 3 ≠ w.heap.size + 4 := by omega
 have n6 : w.heap.size ≤ w.heap.size + 3 := by omega
 generalize hgE : w.heap.size + 4 = gE at *
 generalize hgR : w.heap.size + 3 = gR at *
 rw [← HZ.out] at s0
 go_wp2_with fail
 go_loopw [8] (fun kv wr => ∃ k : Nat, k ≤ 8 ∧ kv = .int .i64 k ∧ RowAt wr w.heap.size 24 V ∧ RowAt wr (w.heap.size + 1) 40 U ∧ RowAt wr (w.heap.size + 2) 40 V2 ∧ RowAt wr gR 40 (uv (List.replicate 8 0)) ∧ RowAt wr gE 40 (uv (G k)) ∧ Hid (Below w.heap.size w wr)) (fun kv _ => 8 - (intOf kv).toNat)
 case atStart => exact ⟨0, by omega, rfl, r0, q0, t0, p0, s0, HB0⟩
 case round =>
  clear r0 q0 t0 p0 s0 HB0
  obtain ⟨k, hk, rfl, r1, q1, t1, p1, s1, HB1⟩ := hrel
  by_cases h8 : k < 8
  ·have hk8 : (k : Int) < 8 := by omega
   have HXA := zh (HA.out k h8)
   have HXB := zh (HC.out k h8)
   have hx := HLA.out k
   have hy := HLB.out k
   have hor := u64_or_nat (a.getD k 0) (b.getD k 0) hx hy
   have hce0 := ev_at (HEW.out k) k h8
   have HCE0 := zh hce0; clear hce0
   have hnx := HNX.out k
   generalize (G k).getD k 0 = x0 at *
   generalize a.getD k 0 = x at *
   generalize b.getD k 0 = y at *
   obtain ⟨c0, c1⟩ := HS1.out _ r1
   by_cases hlt : k < n
   ·have hFk := HF.out _ HB1.out
    obtain ⟨b, o, rfl, _, hr⟩ := hFk.at (k := k) (by rw [HN.out]; exact hlt)
    have hrg := hr k (by rw [HN.out]; exact hlt)
    have hck := fac_kind hrg
    have hl := (hFk.okAt (i := k) (by rw [HN.out]; exact hlt)).rows
    have HRG : Hid (∀ W, Below w.heap.size w W → W.rangeAt b (o + k * 67 + 2) (rvl (fs.getD k f0).n (fs.getD k f0).l)) := fun W h => fac_rel ((HF.out W h).rng (by rw [HN.out]; exact hlt))
    rw [joinS_in (by rw [HN.out]; exact hlt)] at hnx
    have HRK : Hid (∀ W, Below w.heap.size w W → W.cell? ⟨b, o + k * 67, none⟩ = some (.int .i64 (fs.getD k f0).kind)) := fun W h => fac_kind ((HF.out W h).rng (by rw [HN.out]; exact hlt))
    clear hr hFk hrg hck c0 c1
    by_cases e4 : (fs.getD k f0).kind = 4
    ·have hJ : joinW (fs.getD k f0) x y = raiseN (fs.getD k f0).n (fs.getD k f0).l x y := by unfold joinW; rw [if_pos e4]
     have HRS : Hid (∀ W, Calls Tryz.prog 47 #[.agg (rv (fs.getD k f0).n (fs.getD k f0).l), .int .u64 (x : Int), .int .u64 (y : Int)] W fun e w' => e = .returned (.int .u64 ((raiseN (fs.getD k f0).n (fs.getD k f0).l x y : Nat) : Int)) ∧ Below W.heap.size W w') := fun W => qraise_any _ _ hl x y hx hy W
     rw [hJ] at hnx
     clear hJ
     have HNX2 := zh hnx; clear hnx hx hy
     generalize raiseN (fs.getD k f0).n (fs.getD k f0).l x y = z at *
     generalize (fs.getD k f0).n = nf at *
     generalize (fs.getD k f0).l = lf at *
     generalize (fs.getD k f0).kind = kd at *
     have HNX3 : Hid ((uv ((G k).set k (x ||| y))).setIfInBounds k (.int .u64 (z : Int)) = uv (G (k + 1))) := by
      show (uv ((G k).set k (x ||| y))).setIfInBounds k (.int .u64 (z : Int)) = uv (G (k + 1))
      rw [uv_set, List.set_set, ← uv_set]
      exact HNX2.out
     have hce1 := set_at_self (HEW.out k) k (x ||| y) h8
     have HCE1 := zh hce1; clear hce1 HNX2
     have HNX2 : Hid ((uv (G k)).setIfInBounds k (.int .u64 ((x ||| y : Nat) : Int)) = uv ((G k).set k (x ||| y))) := uv_set _ _ _
     generalize (G k).set k (x ||| y) = L1 at *
     generalize x ||| y = zo at *
     obtain ⟨S, HS, pM, keepS, SI⟩ := ex_mut gE wr
     have PM := zh pM
     have PR : Hid (∀ w', S w' → RowAt w' w.heap.size 24 V) := fun w' h => r1.mut (pM w' h) n1
     have PQ : Hid (∀ w', S w' → RowAt w' (w.heap.size + 1) 40 U) := fun w' h => q1.mut (pM w' h) n2
     have PT : Hid (∀ w', S w' → RowAt w' (w.heap.size + 2) 40 V2) := fun w' h => t1.mut (pM w' h) n3
     have PP : Hid (∀ w', S w' → RowAt w' gR 40 (uv (List.replicate 8 0))) := fun w' h => p1.mut (pM w' h) n5
     have cS : ∀ w', S w' → w'.cell? ⟨w.heap.size, 1, none⟩ = some (.slice (some ⟨b, o, none⟩) n c) := fun w' h => (HS1.out _ (PR.out w' h)).2
     have cA : ∀ w', S w' → w'.cell? ⟨w.heap.size + 1, k, none⟩ = some (.int .u64 (x : Int)) := fun w' h => ((PQ.out w' h).cell k).trans HXA.out
     have cB : ∀ w', S w' → w'.cell? ⟨w.heap.size + 2, k, none⟩ = some (.int .u64 (y : Int)) := fun w' h => ((PT.out w' h).cell k).trans HXB.out
     have PB : Hid (∀ w', S w' → Below w.heap.size w w') := fun w' h => HB1.out.trans ((pM w' h).below n4 HB1.out.size)
     have s2 := s1.drew
     clear pM r1 q1 t1 p1 s1 HB1
     have hce := (s2.cell k).trans HCE0.out
     have hfe := s2.free k
     have HCF := zh (And.intro hce hfe)
     clear hce hfe
     go_wp2_with fail
     refine wp_region_ord S [(0, true), (1, true), (2, true), (3, true), (4, true), (5, true), (6, true), (7, true), (8, true), (9, false)] (by kernel_rfl) (by kernel_rfl) rfl (by kernel_rfl) HS.out ?_
     generalize wr.drew = VV at HS s2 HCF ⊢
     iterate 9
      (refine wpOrd_step (zO rfl) ?_)
      (first
       | (refine wpOrd_skip (by rfl) ?_)
       | (refine wpOrd_take (v := ?_) (by rfl) ?_ ?_; rotate_left 1; (intro wx hSx; have hc_0 := cA wx hSx; have hc_1 := cB wx hSx; go_simp; try with_reducible rfl)))
      (try simp only [Act.put, zA4, zA5, zA6])
     obtain ⟨hce, hfe⟩ := HCF.out
     (refine wpOrd_solo (zO rfl) ?_)
     intro K hK
     go_simp
     have HM5 := zh ((PM.out _ HS.out).trans (Mut.of_set VV gE k (.int .u64 ((zo : Nat) : Int))))
     have p5 := s2.put k (.int .u64 ((zo : Nat) : Int))
     rw [HNX2.out] at p5
     refine hK.out _ _ (SI.out _ HM5.out) ?_
     clear hK K
     (try simp only [Act.put, zA4, zA5, zA6])
     refine wpOrd_done ?_
     have HB5 := zh (PB.out _ (SI.out _ HM5.out))
     have r5 := PR.out _ (SI.out _ HM5.out)
     have q5 := PQ.out _ (SI.out _ HM5.out)
     have t5 := PT.out _ (SI.out _ HM5.out)
     have p6 := PP.out _ (SI.out _ HM5.out)
     clear PR PQ PT PP PM cS cA cB PB HS keepS SI HM5 hce hfe
     clear HCF s2
     generalize VV.setCell ⟨gE, k, none⟩ (.int .u64 ((zo : Nat) : Int)) = wq at *
     clear HNX2 HCE0
     have HNX2 := HNX3
     clear HNX3
     have hck5 := HRK.out _ HB5.out
     obtain ⟨d0, d1⟩ := HS1.out _ r5
     go_wp2_with fail
     clear d0 d1 hck5
     have r1 := r5; have q1 := q5; have t1 := t5; have p1 := p6; have s1 := p5; have HB1 := HB5
     clear r5 q5 t5 p6 p5 HB5
     obtain ⟨S, HS, pM, keepS, SI⟩ := ex_mut gE wq
     have PM := zh pM
     have PR : Hid (∀ w', S w' → RowAt w' w.heap.size 24 V) := fun w' h => r1.mut (pM w' h) n1
     have PQ : Hid (∀ w', S w' → RowAt w' (w.heap.size + 1) 40 U) := fun w' h => q1.mut (pM w' h) n2
     have PT : Hid (∀ w', S w' → RowAt w' (w.heap.size + 2) 40 V2) := fun w' h => t1.mut (pM w' h) n3
     have PP : Hid (∀ w', S w' → RowAt w' gR 40 (uv (List.replicate 8 0))) := fun w' h => p1.mut (pM w' h) n5
     have cS : ∀ w', S w' → w'.cell? ⟨w.heap.size, 1, none⟩ = some (.slice (some ⟨b, o, none⟩) n c) := fun w' h => (HS1.out _ (PR.out w' h)).2
     have cA : ∀ w', S w' → w'.cell? ⟨w.heap.size + 1, k, none⟩ = some (.int .u64 (x : Int)) := fun w' h => ((PQ.out w' h).cell k).trans HXA.out
     have cB : ∀ w', S w' → w'.cell? ⟨w.heap.size + 2, k, none⟩ = some (.int .u64 (y : Int)) := fun w' h => ((PT.out w' h).cell k).trans HXB.out
     have PB : Hid (∀ w', S w' → Below w.heap.size w w') := fun w' h => HB1.out.trans ((pM w' h).below n4 HB1.out.size)
     have s2 := s1.drew
     clear pM r1 q1 t1 p1 s1 HB1
     have pR : ∀ w', S w' → w'.rangeAt b (o + k * 67 + 2) (rvl nf lf) := fun w' h => HRG.out w' (PB.out w' h)
     refine wp_region_ord S [(0, true), (1, true), (2, true), (3, true), (4, true), (5, true), (6, true), (7, true), (8, true), (9, true), (10, true), (11, true), (12, true), (13, false), (14, true), (15, false)] (by kernel_rfl) (by kernel_rfl) rfl (by kernel_rfl) HS.out ?_
     generalize wq.drew = VV at HS s2 ⊢
     iterate 13
      (refine wpOrd_step (zO rfl) ?_)
      (first
       | (refine wpOrd_skip (by rfl) ?_)
       | (refine wpOrd_take (by rfl) (take_loadRelIn _ rfl _ _ rfl _ _ hl pR) ?_)
       | (refine wpOrd_take (v := ?_) (by rfl) ?_ ?_; rotate_left 1; (intro wx hSx; have hc_0 := cS wx hSx; have hc_1 := cA wx hSx; have hc_2 := cB wx hSx; go_simp; try with_reducible rfl)))
      (try simp only [Act.put, zA4, zA5, zA6])
     (refine wpOrd_solo (zO rfl) ?_)
     intro K hK
     go_simp
     go_at_call 47
     refine (HRS.out _).mono ?_
     rintro e w4 ⟨rfl, hb⟩; have s4 := s2.below hb s2.lt; clear s2
     have hS := keepS _ _ HS.out hb
     clear HS
     have HS := zh hS; clear hS hb
     refine hK.out _ _ HS.out ?_
     clear hK K
     (try simp only [Act.put, zA4, zA5, zA6])
     iterate 1
      (refine wpOrd_step (zO rfl) ?_)
      (first
       | (refine wpOrd_skip (by rfl) ?_)
       | (refine wpOrd_take (v := ?_) (by rfl) ?_ ?_; rotate_left 1; (intro wx hSx; go_simp; try with_reducible rfl)))
      (try simp only [Act.put, zA4, zA5, zA6])
     have hce := (s4.cell k).trans HCE1.out
     have hfe := s4.free k
     (refine wpOrd_solo (zO rfl) ?_)
     intro K hK
     go_simp
     have HM5 := zh ((PM.out _ HS.out).trans (Mut.of_set w4 gE k (.int .u64 ((z : Nat) : Int))))
     have p5 := s4.put k (.int .u64 ((z : Nat) : Int))
     rw [HNX2.out] at p5
     refine hK.out _ _ (SI.out _ HM5.out) ?_
     clear hK K
     (try simp only [Act.put, zA4, zA5, zA6])
     refine wpOrd_done ?_
     have HB5 := zh (PB.out _ (SI.out _ HM5.out))
     have r5 := PR.out _ (SI.out _ HM5.out)
     have q5 := PQ.out _ (SI.out _ HM5.out)
     have t5 := PT.out _ (SI.out _ HM5.out)
     have p6 := PP.out _ (SI.out _ HM5.out)
     clear PR PQ PT PP PM cS cA cB PB HS keepS SI HM5 hce hfe
     clear pR s4
     go_wp2_with fail
     go_roundw
     case rel => exact ⟨k + 1, by omega, by go_num, r5, q5, t5, p6, p5, HB5⟩
     case measure => simp [intOf]; omega
    ·have hJ : joinW (fs.getD k f0) x y = x ||| y := by unfold joinW; rw [if_neg e4]
     rw [hJ] at hnx
     clear hJ
     have HNX2 := zh hnx; clear hnx hx hy HRG hl
     generalize x ||| y = zo at *
     generalize (fs.getD k f0).kind = kd at *
     obtain ⟨S, HS, pM, keepS, SI⟩ := ex_mut gE wr
     have PM := zh pM
     have PR : Hid (∀ w', S w' → RowAt w' w.heap.size 24 V) := fun w' h => r1.mut (pM w' h) n1
     have PQ : Hid (∀ w', S w' → RowAt w' (w.heap.size + 1) 40 U) := fun w' h => q1.mut (pM w' h) n2
     have PT : Hid (∀ w', S w' → RowAt w' (w.heap.size + 2) 40 V2) := fun w' h => t1.mut (pM w' h) n3
     have PP : Hid (∀ w', S w' → RowAt w' gR 40 (uv (List.replicate 8 0))) := fun w' h => p1.mut (pM w' h) n5
     have cS : ∀ w', S w' → w'.cell? ⟨w.heap.size, 1, none⟩ = some (.slice (some ⟨b, o, none⟩) n c) := fun w' h => (HS1.out _ (PR.out w' h)).2
     have cA : ∀ w', S w' → w'.cell? ⟨w.heap.size + 1, k, none⟩ = some (.int .u64 (x : Int)) := fun w' h => ((PQ.out w' h).cell k).trans HXA.out
     have cB : ∀ w', S w' → w'.cell? ⟨w.heap.size + 2, k, none⟩ = some (.int .u64 (y : Int)) := fun w' h => ((PT.out w' h).cell k).trans HXB.out
     have PB : Hid (∀ w', S w' → Below w.heap.size w w') := fun w' h => HB1.out.trans ((pM w' h).below n4 HB1.out.size)
     have s2 := s1.drew
     clear pM r1 q1 t1 p1 s1 HB1
     have hce := (s2.cell k).trans HCE0.out
     have hfe := s2.free k
     have HCF := zh (And.intro hce hfe)
     clear hce hfe
     go_wp2_with fail
     refine wp_region_ord S [(0, true), (1, true), (2, true), (3, true), (4, true), (5, true), (6, true), (7, true), (8, true), (9, false)] (by kernel_rfl) (by kernel_rfl) rfl (by kernel_rfl) HS.out ?_
     generalize wr.drew = VV at HS s2 HCF ⊢
     iterate 9
      (refine wpOrd_step (zO rfl) ?_)
      (first
       | (refine wpOrd_skip (by rfl) ?_)
       | (refine wpOrd_take (v := ?_) (by rfl) ?_ ?_; rotate_left 1; (intro wx hSx; have hc_0 := cA wx hSx; have hc_1 := cB wx hSx; go_simp; try with_reducible rfl)))
      (try simp only [Act.put, zA4, zA5, zA6])
     obtain ⟨hce, hfe⟩ := HCF.out
     (refine wpOrd_solo (zO rfl) ?_)
     intro K hK
     go_simp
     have HM5 := zh ((PM.out _ HS.out).trans (Mut.of_set VV gE k (.int .u64 ((zo : Nat) : Int))))
     have p5 := s2.put k (.int .u64 ((zo : Nat) : Int))
     rw [HNX2.out] at p5
     refine hK.out _ _ (SI.out _ HM5.out) ?_
     clear hK K
     (try simp only [Act.put, zA4, zA5, zA6])
     refine wpOrd_done ?_
     have HB5 := zh (PB.out _ (SI.out _ HM5.out))
     have r5 := PR.out _ (SI.out _ HM5.out)
     have q5 := PQ.out _ (SI.out _ HM5.out)
     have t5 := PT.out _ (SI.out _ HM5.out)
     have p6 := PP.out _ (SI.out _ HM5.out)
     clear PR PQ PT PP PM cS cA cB PB HS keepS SI HM5 hce hfe
     clear HCF s2
     generalize VV.setCell ⟨gE, k, none⟩ (.int .u64 ((zo : Nat) : Int)) = wq at *
     have hck5 := HRK.out _ HB5.out
     obtain ⟨d0, d1⟩ := HS1.out _ r5
     go_wp2_with fail
     go_roundw
     case rel => exact ⟨k + 1, by omega, by go_num, r5, q5, t5, p6, p5, HB5⟩
     case measure => simp [intOf]; omega
   ·rw [joinS_out (by rw [HN.out]; exact hlt)] at hnx
    have HNX2 := zh hnx; clear hnx hx hy c0 c1
    generalize x ||| y = zo at *
    obtain ⟨S, HS, pM, keepS, SI⟩ := ex_mut gE wr
    have PM := zh pM
    have PR : Hid (∀ w', S w' → RowAt w' w.heap.size 24 V) := fun w' h => r1.mut (pM w' h) n1
    have PQ : Hid (∀ w', S w' → RowAt w' (w.heap.size + 1) 40 U) := fun w' h => q1.mut (pM w' h) n2
    have PT : Hid (∀ w', S w' → RowAt w' (w.heap.size + 2) 40 V2) := fun w' h => t1.mut (pM w' h) n3
    have PP : Hid (∀ w', S w' → RowAt w' gR 40 (uv (List.replicate 8 0))) := fun w' h => p1.mut (pM w' h) n5
    have cS : ∀ w', S w' → w'.cell? ⟨w.heap.size, 1, none⟩ = some (.slice A n c) := fun w' h => (HS1.out _ (PR.out w' h)).2
    have cA : ∀ w', S w' → w'.cell? ⟨w.heap.size + 1, k, none⟩ = some (.int .u64 (x : Int)) := fun w' h => ((PQ.out w' h).cell k).trans HXA.out
    have cB : ∀ w', S w' → w'.cell? ⟨w.heap.size + 2, k, none⟩ = some (.int .u64 (y : Int)) := fun w' h => ((PT.out w' h).cell k).trans HXB.out
    have PB : Hid (∀ w', S w' → Below w.heap.size w w') := fun w' h => HB1.out.trans ((pM w' h).below n4 HB1.out.size)
    have s2 := s1.drew
    clear pM r1 q1 t1 p1 s1 HB1
    have hce := (s2.cell k).trans HCE0.out
    have hfe := s2.free k
    have HCF := zh (And.intro hce hfe)
    clear hce hfe
    go_wp2_with fail
    refine wp_region_ord S [(0, true), (1, true), (2, true), (3, true), (4, true), (5, true), (6, true), (7, true), (8, true), (9, false)] (by kernel_rfl) (by kernel_rfl) rfl (by kernel_rfl) HS.out ?_
    generalize wr.drew = VV at HS s2 HCF ⊢
    iterate 9
     (refine wpOrd_step (zO rfl) ?_)
     (first
      | (refine wpOrd_skip (by rfl) ?_)
      | (refine wpOrd_take (v := ?_) (by rfl) ?_ ?_; rotate_left 1; (intro wx hSx; have hc_0 := cA wx hSx; have hc_1 := cB wx hSx; go_simp; try with_reducible rfl)))
     (try simp only [Act.put, zA4, zA5, zA6])
    obtain ⟨hce, hfe⟩ := HCF.out
    (refine wpOrd_solo (zO rfl) ?_)
    intro K hK
    go_simp
    have HM5 := zh ((PM.out _ HS.out).trans (Mut.of_set VV gE k (.int .u64 ((zo : Nat) : Int))))
    have p5 := s2.put k (.int .u64 ((zo : Nat) : Int))
    rw [HNX2.out] at p5
    refine hK.out _ _ (SI.out _ HM5.out) ?_
    clear hK K
    (try simp only [Act.put, zA4, zA5, zA6])
    refine wpOrd_done ?_
    have HB5 := zh (PB.out _ (SI.out _ HM5.out))
    have r5 := PR.out _ (SI.out _ HM5.out)
    have q5 := PQ.out _ (SI.out _ HM5.out)
    have t5 := PT.out _ (SI.out _ HM5.out)
    have p6 := PP.out _ (SI.out _ HM5.out)
    clear PR PQ PT PP PM cS cA cB PB HS keepS SI HM5 hce hfe
    clear HCF s2
    generalize VV.setCell ⟨gE, k, none⟩ (.int .u64 ((zo : Nat) : Int)) = wq at *
    obtain ⟨d0, d1⟩ := HS1.out _ r5
    go_wp2_with fail
    go_roundw
    case rel => exact ⟨k + 1, by omega, by go_num, r5, q5, t5, p6, p5, HB5⟩
    case measure => simp [intOf]; omega
  ·have e1 : k = 8 := by omega
   subst e1
   have hew := HEW.out 8
   go_wp2_with (first | (refine wpList_loadElem (by rfl) _ rfl gE rfl _ hew s1 ?_) | (refine wpList_storeElem (by rfl) _ _ rfl gR rfl _ hew rfl _ z8 p1 ?_; intro w7 q7 he))
   exact bodyPost_ret (ret_elem rfl _ _ gR _ hew rfl q7) rfl ⟨rfl, HB1.out.trans (he.below n6)⟩
end
section
open Go.RowKit RM
end
section
open Go.RowKit RM
end
section
open Go.RowKit RM
end
end Go.Proofs.YtdahllhbpdbknaaGreatDoor
