/- Texts that all the claims need. Conditions: those that each states. -/

import Derived.Test.YtdahllhbpdbknaaGreatDoorTc16
import Derived.Test.YtdahllhbpdbknaaGreatDoorTc18
set_option linter.unusedSimpArgs false
set_option linter.unusedVariables false
set_option maxRecDepth 100000
set_option maxHeartbeats 40000000
namespace Go.Proofs.YtdahllhbpdbknaaGreatDoor
section
open Go.RowKit RM Go.Maps
def Fr (τ : TypeId) : Prop := τ ≠ 97 ∧ τ ≠ 98 ∧ τ ≠ 104 ∧ τ ≠ 38 ∧ τ ≠ 119 ∧ τ ≠ 74
theorem Fr.elem : Fr 40 := by unfold Fr; decide
theorem TabAt.elem {W W' : World} {lo mb jb g : Nat} {n : Int} {l : List Nat} {cs : Array Value} {fr : Nat × Nat} {τ : TypeId} (h : TabAt W lo mb jb n l) (hm : Mut g W W') (hg : W.heap[g]? = some (.cells cs τ fr)) (hτ : Fr τ) : TabAt W' lo mb jb n l := by
 obtain ⟨⟨k, hf⟩, h1, h2, cur, f2, gs, h3, h4⟩ := h
 have hmb : mb ≠ g := fun e => by
  obtain ⟨es, clock, hx⟩ := hf.map
  rw [e, hg] at hx
  cases hx
 have hjb : jb ≠ g := blk_apart h3 hg (fun e => hτ.2.2.2.2.1 e.symm)
 refine ⟨⟨k, hf.same (hm.block _ hf.lt hmb)⟩, h1, h2, cur, f2, gs, (hm.block _ (Array.getElem?_eq_some_iff.1 h3).1 hjb).trans h3, fun i hi => ?_⟩
 obtain ⟨h5, h6, h7⟩ := h4 i hi
 have hgi : gs i ≠ g := fun e => by
  unfold SideAt at h7
  exact blk_apart h7 hg (fun e => hτ.2.2.2.1 e.symm) e
 exact ⟨h5, h6, h7.mut hm hgi⟩
theorem JDone.elem {W W' : World} {lo go gt g : Nat} {t : Bool} {fs : List Fac} {cs : Array Value} {fr : Nat × Nat} {τ : TypeId} (h : JDone W lo go gt t fs) (hm : Mut g W W') (hg : W.heap[g]? = some (.cells cs τ fr)) (hτ : Fr τ) : JDone W' lo go gt t fs := by
 obtain ⟨h1, h2⟩ := h
 refine ⟨h1.mut hm (blk_apart h1 hg (fun e => hτ.1 e.symm)), ?_⟩
 rcases h2 with ⟨h3, h4⟩ | ⟨h3, tb, h4, cur, h5, h6, h7⟩
 ·exact .inl ⟨h3, h4.mut hm (blk_apart h4 hg (fun e => hτ.2.1 e.symm))⟩
 ·refine .inr ⟨h3, tb, h4.mut hm (blk_apart h4 hg (fun e => hτ.2.1 e.symm)), cur, h5, h6.mut hm (blk_apart h6 hg (fun e => hτ.2.2.1 e.symm)), h7.1, fun i hi => ?_⟩
  obtain ⟨m, s, e1, e2, h8⟩ := h7.2 i hi
  refine ⟨m, s, e1, e2, ?_⟩
  split
  ·rename_i hc
   rw [if_pos hc] at h8
   obtain ⟨mb, jb, c, e3, e4, h9⟩ := h8
   exact ⟨mb, jb, c, e3, e4, h9.elem hm hg hτ⟩
  ·rename_i hc
   rw [if_neg hc] at h8
   exact h8
theorem But.mut {M : Nat → Prop} {w w1 w2 : World} {g : Nat} (h : But M w w1) (hm : Mut g w1 w2) (hg : w.heap.size ≤ g) : But M w w2 := ⟨hm.os.trans h.os, hm.tape.trans h.tape, hm.output.trans h.output, zM h.size hm.size, fun k hk hn => (hm.block k (zT hk h.size) (by omega)).trans (h.block k hk hn)⟩
end
section
open Go.RowKit RM
theorem roomG_bd : ∀ (l : List In) (sz mx m s : Nat), roomG l sz mx = some (m, s) → m ≤ max mx (sz + l.length)
 | [], sz, mx, m, s, h => by
   unfold roomG at h
   simp only [Option.some.injEq, Prod.mk.injEq] at h
   omega
 | i :: l, sz, mx, m, s, h => by
   unfold roomG at h
   rw [zA8]
   split at h
   ·have := roomG_bd l _ _ _ _ h; omega
   ·split at h
    ·split at h
     ·cases h
     ·have := roomG_bd l _ _ _ _ h; omega
    ·cases h
theorem mstI_bd (l : List In) : mstI (roomG l 0 0) ≤ l.length := by
 cases h : roomG l 0 0 with
 | none => exact Nat.zero_le _
 | some r =>
   obtain ⟨m, s⟩ := r
   have := roomG_bd l 0 0 m s h
   show m ≤ _
   omega
def repS (B : List Nat → List Nat → List Nat) (st : List (List Nat)) (m k : Nat) : List (List Nat) := st.take m ++ [repV B ((st.drop m).take k) (st.getD (m + k) []) (downTo k k)]
theorem repV_ew {B : List Nat → List Nat → List Nat} (hB : ∀ a b, EW a → EW b → EW (B a b)) {es : List (List Nat)} (hE : ∀ e ∈ es, EW e) : ∀ (l : List Nat) (v : List Nat), EW v → (∀ i ∈ l, i < es.length) → EW (repV B es v l)
 | [], v, hv, _ => hv
 | i :: l, v, hv, h => by
   show EW (repV B es (B (es.getD i []) v) l)
   exact repV_ew hB hE l _ (hB _ _ (hE _ (eget_mem (h i (by simp)))) hv) fun j hj => h j (by simp [hj])
theorem repS_ew {B : List Nat → List Nat → List Nat} (hB : ∀ a b, EW a → EW b → EW (B a b)) {st : List (List Nat)} (hE : ∀ e ∈ st, EW e) {m k : Nat} (hmk : m + k < st.length) : ∀ e ∈ repS B st m k, EW e := by
 intro e he
 unfold repS at he
 rcases List.mem_append.1 he with he | he
 ·exact hE e (List.mem_of_mem_take he)
 ·rw [List.mem_singleton] at he
  subst he
  refine repV_ew hB (fun f hf => hE f (List.mem_of_mem_drop (List.mem_of_mem_take hf))) _ _ (hE _ (eget_mem hmk)) fun i hi => ?_
  unfold downTo at hi
  obtain ⟨j, hj, rfl⟩ := List.mem_map.1 hi
  rw [List.mem_range] at hj
  rw [List.length_take, List.length_drop]
  omega
theorem repS_len (B : List Nat → List Nat → List Nat) (st : List (List Nat)) {m k : Nat} (hm : m ≤ st.length) : (repS B st m k).length = m + 1 := by
 unfold repS
 rw [zA7, List.length_take, Nat.min_eq_left hm]; rfl
def runG (J M : List Nat → List Nat → List Nat) (v : List (List Nat)) : List In → List (List Nat) → Option (List (List Nat))
 | [], st => some st
 | i :: l, st =>
   if i.op = 1 then (if 0 ≤ i.n ∧ i.n < (v.length : Int) then runG J M v l (st ++ [v.getD i.n.toNat []]) else none)
   else if i.op = 2 then runG J M v l (st ++ [i.e.1])
   else runG J M v l (repS (if i.op = 3 then J else M) st (st.length - i.n.toNat) (i.n.toNat - 1))
theorem runG_at (J M : List Nat → List Nat → List Nat) (v : List (List Nat)) {l : List In} {k : Nat} (hk : k < l.length) (st : List (List Nat)) : runG J M v (l.drop k) st =
 if (l.getD k in0).op = 1 then (if 0 ≤ (l.getD k in0).n ∧ (l.getD k in0).n < (v.length : Int) then runG J M v (l.drop (k + 1)) (st ++ [v.getD (l.getD k in0).n.toNat []]) else none)
 else if (l.getD k in0).op = 2 then runG J M v (l.drop (k + 1)) (st ++ [(l.getD k in0).e.1])
 else runG J M v (l.drop (k + 1)) (repS (if (l.getD k in0).op = 3 then J else M) st (st.length - (l.getD k in0).n.toNat) ((l.getD k in0).n.toNat - 1)) := by
 rw [List.drop_eq_getElem_cons hk, List.getD_eq_getElem?_getD, List.getElem?_eq_getElem hk]
 rfl
def z8 : List Nat := List.replicate 8 0
theorem zero_z8 : (#[.int .u64 0, .int .u64 0, .int .u64 0, .int .u64 0, .int .u64 0, .int .u64 0, .int .u64 0, .int .u64 0] : Array Value) = uv z8 := zero_elem
def evG (fs : List Fac) (v : List (List Nat)) (l : List In) : Option (List Nat) := if rgtB (roomG l 0 0) = true then (runG (joinE fs) meetE v l []).map (fun st => st.getD 0 []) else none
def retE (r : Option (List Nat)) : Value := .tuple #[.agg (uv (r.getD z8)), .bool r.isSome]
theorem wpList_one8 {ops : Array Oper} {rest : List Oper} {o : Oper} {a : Act} {w : World} {Q : Exit → Act → World → Prop} (hgd : o.guard = none) (x : Operand) (ho : o.op = .buildSlice 37 1 #[(0, x)])
 (e : List Nat) (he : EW e) (hx : a.eval x = .agg (uv e))
 (h : ∀ w', RowAt w' w.heap.size 40 (uv e) → Below w.heap.size w w' → wpList Tryz.prog ops Q rest (a.put o.dst (.slice (some ⟨w.heap.size, 0, none⟩) 1 1)) w') : wpList Tryz.prog ops Q (o :: rest) a w :=
 wpList_plain hgd fun _ hK => wp_one8 x ho e he hx (hK _ _ (h _ (RowAt.new _ _ _) ((zB _ _).alloc (zL _) _)))
theorem uc_cells {w : World} {g : Nat} {e : List Nat} (h : RowAt w g 40 (uv e)) : ∀ j u, (ucells e)[j]? = some u → w.cell? ⟨g, j, none⟩ = some u := fun j u hu => (h.cell j).trans (by unfold uv; simpa [ucells] using hu)
theorem uc_one (e : List Nat) : ∀ u ∈ ucells e, u.oneCell' = true := fun u hu => by unfold ucells at hu; obtain ⟨z, _, rfl⟩ := List.mem_map.1 hu; rfl
theorem uc_len {e : List Nat} (h : EW e) : (ucells e).length = 8 := by rw [ucells_length]; exact h.1
theorem codeEval_any (t : Bool) (SA : Option Addr) (sc : Nat) (fs : List Fac) (LA : Option Addr) (lc : Nat) (l : List In) (VA : Option Addr) (vc : Nat) (v : List (List Nat)) (w : World) (hT : Tab w) (hF : Facs w SA fs) (hl : l.length ≤ 1000000) (hL : Ls insC w LA l)
 (hvl : v.length ≤ 1000000) (hV : Sl w w.heap.size VA (escells v)) (hE : ∀ e ∈ v, EW e) :
 Calls Tryz.prog 20 #[.agg (sv t SA fs.length sc), .slice LA l.length lc, .slice VA v.length vc] w fun e w' => e = .returned (retE (evG fs v l)) ∧ Below w.heap.size w w' := by
 obtain ⟨r3, r6, hb⟩ := two_rows w (sv t SA fs.length sc) (uv z8) 24 40
 refine cHid fun Q' hQ => ?_
 have HQ := zh hQ; clear hQ
 rw [← zero_z8] at r6 hb r3
 go_enter Tryz.func20, Tryz.ntmps20
 go_upto_region 1 with fail
 rw [zero_z8] at r6 hb r3 ⊢
 change Code.wp _ _ _ _ ((w.alloc (.cells (sv t SA fs.length sc) 24)).alloc (.cells (uv z8) 40))
 generalize (w.alloc (.cells (sv t SA fs.length sc) 24)).alloc (.cells (uv z8) 40) = w1 at *
 have HB := zh hb
 have HSZ := zh hb.size
 have HZ8 : Hid (EW z8) := zh EW.zeros
 have HR3 := zh r3
 have HR6 := zh r6
 have HTf : Hid (∀ W, Below w1.heap.size w1 W → Tab W) := zh fun W hW => (hT.below hb).below hW
 have HFf : Hid (∀ W, Below w1.heap.size w1 W → Facs W SA fs) := zh fun W hW => (hF.below hb).below hW
 have HL1 := zh (hL.below hb)
 have HV1 : Hid (Sl w1 w1.heap.size VA (escells v)) := zh ((hV.below hb).mono hb.size)
 have HE := zh hE
 have HRM := zh (room_any LA lc l w1 hl (hL.below hb))
 have hmb := mstI_bd l
 have HREV : Hid (evG fs v l = if rgtB (roomG l 0 0) = true then (runG (joinE fs) meetE v l []).map (fun st => st.getD 0 []) else none) := zh rfl
 have HEND : Hid (∀ r W, r = evG fs v l → Below w.heap.size w W → Q' (.returned (retE r)) W) := zh fun r W hr hW => HQ.out _ _ ⟨by rw [hr], hW⟩
 have HG0 : Hid (rgtB (roomG (l.drop 0) 0 0) = true ∨ rgtB (roomG l 0 0) = false) := zh (by
  rw [List.drop_zero]
  cases rgtB (roomG l 0 0)
  ·exact .inr rfl
  ·exact .inl rfl)
 have HN0 : Hid (runG (joinE fs) meetE v (l.drop 0) [] = runG (joinE fs) meetE v l []) := zh (by rw [List.drop_zero])
 clear hT hF hL hV hE hb r3 r6 HQ
 generalize mstI (roomG l 0 0) = mst at *
 cases hrb : rgtB (roomG l 0 0) with
 | false =>
   rw [hrb] at HRM
   have hev : none = evG fs v l := by rw [HREV.out, hrb]; rfl
   have HQ2 := zh (HEND.out none)
   have HEV := zh hev
   clear hev hrb
   go_wp2_with (first
    | (go_at_call 35; refine HRM.out.mono ?_; rintro e w2 ⟨rfl, hb2⟩; have HB2 := zh hb2; have HR62 := zh (HR6.out.below hb2 HR6.out.lt); clear hb2)
    | (refine wpList_stRow (by rfl) _ _ _ rfl (w.heap.size + 1) (uv z8) rfl rfl _ _ HR62.out (einfo2 HZ8.out) rfl (uv8_one _) ?_; intro w3 r3 he; have HR63 := zh r3; have HE3 := zh he; clear r3 he))
   have h1 := HB2.out.size
   have h2 := HSZ.out
   exact bodyPost_ret (ret2 rfl _ _ (w.heap.size + 1) _ _ (0, 0) _ (.bool false) rfl rfl HR63.out Tryz.underlying40 rfl (einfo2 HZ8.out)) rfl (HQ2.out w3 HEV.out ((HB.out.trans (HB2.out.mono HSZ.out)).trans (HE3.out.below (by omega))))
 | true =>
   rw [hrb] at HRM
   have HRV : Hid (evG fs v l = (runG (joinE fs) meetE v l []).map (fun st => st.getD 0 [])) := zh (by rw [HREV.out, if_pos hrb])
   have HG1 : Hid (∃ mx, rgtB (roomG (l.drop 0) 0 mx) = true) := zh ⟨0, by rw [List.drop_zero]; exact hrb⟩
   clear hrb HREV HG0
   obtain ⟨i0, hi0, hz0, hi1, hi2⟩ := info_parts infoElemZ
   have hb2 : i0.bytes * mst ≤ 281474976710656 := by rw [hi2]; omega
   have hb3 : mst ≤ maxLen := by simp only [maxLen]; omega
   go_upto_region 6 with (first
    | (go_at_call 35; refine HRM.out.mono ?_; rintro e w2 ⟨rfl, hb2'⟩; have HB2 := zh hb2'; clear hb2')
    | (at_make; refine wpList_make_own _ rfl _ _ 37 rfl w1.heap.size 40 i0 zeroE 8 Tryz.underlying37 hi0 hz0 hi1 .i64 .i64 (mst : Int) mst rfl rfl rfl hb2 hb3 HB2.out.size ?_; intro w3 hown1 hg1))
   have HB3 : Hid (Below w1.heap.size w1 w3) := zh (HB2.out.trans ((zB _ w2).grown hg1 HB2.out.size (fun k hk => by cases hk)))
   have HO3 := zh hown1
   clear hown1 hg1 hb2 hb3 hi0 hz0 hi1 hi2 HRM
   obtain ⟨R, hR⟩ : ∃ R, R = runG (joinE fs) meetE v l [] := ⟨_, rfl⟩
   rw [← hR] at HRV HN0
   clear hR
   have HRA := zh fun k (hk : k < l.length) => runG_at (joinE fs) meetE v hk
   have HGA := zh fun k (hk : k < l.length) => roomG_at hk
   generalize hn : l.length = n at *
   have HN := zh hn; clear hn
   generalize hq : v.length = q at *
   have HQV := zh hq; clear hq
   have HG3 : Hid (w.heap.size + 1 < w1.heap.size) := zh HR6.out.lt
   generalize w2.heap.size = gs at *
   clear HB2
   go_upto_region 7 with fail
   go_loopw [11, 27] (fun sv kv wr => ∃ (k c' : Nat) (A' : Option Addr) (st : List (List Nat)), k ≤ n ∧ st.length ≤ k ∧ kv = .int .i64 k ∧ sv = .slice A' st.length c' ∧ Hid (wr.ownsRow w1.heap.size 40 8 (.slice A' st.length c') st.length (escells st)) ∧ Hid (∀ e ∈ st, EW e) ∧ Hid (∃ mx, rgtB (roomG (l.drop k) st.length mx) = true) ∧ Hid (runG (joinE fs) meetE v (l.drop k) st = R) ∧ Hid (Below w1.heap.size w1 wr)) (fun _ kv _ => n - (intOf kv).toNat)
   case atStart => exact ⟨0, mst, some ⟨gs, 0, none⟩, [], by omega, by simp, rfl, rfl, HO3, zh (fun e he => by cases he), HG1, HN0, HB3⟩
   case round =>
    clear HB3 HO3 HG1 HN0
    obtain ⟨k, c', A', st, hk, hst, rfl, rfl, HO, HES, HG, HRN, HBr⟩ := hrel
    by_cases hlt : k < n
    ·obtain ⟨b, o, rfl, hbl, hc⟩ := (HL1.out.below HBr.out).at 10 insC_len (by omega) in0 (i := k) (by rw [HN.out]; exact hlt)
     have hr := hc k (by rw [HN.out]; exact hlt)
     have hci := infoInsL (l.getD k in0)
     have hrun := HRN.out
     rw [HRA.out k hlt] at hrun
     obtain ⟨mx, hg⟩ := HG.out
     rw [HGA.out k hlt] at hg
     have HRW := zh hr; clear hr hc HRN HG hbl
     generalize l.getD k in0 = x at *
     have hsz := HBr.out.size
     go_upto_region 9 with (first
      | (refine wpList_ldIn (by rfl) _ _ rfl b (o + k * 10) rfl _ _ HRW.out Tryz.underlying85 rfl hci ?_)
      | (refine wpList_stRow (by rfl) _ _ _ rfl wr.heap.size (insC x).toArray rfl rfl _ _ (RowAt.new _ _ _) (infoIns x) (by rw [insC_size]; rfl) (insC_one x) ?_; intro w4 r4 he; have HR4 := zh r4; have HB4 : Hid (Below wr.heap.size wr w4) := zh (((zB _ _).alloc (zL _) _).trans (he.below (zL _))); clear r4 he))
     have HBW4 : Hid (Below w1.heap.size w1 w4) := zh (HBr.out.trans (HB4.out.mono hsz))
     have HO4 := zh (own_below HO.out HB4.out (zL _))
     obtain ⟨c0, c1, c2⟩ := ins_cells HR4.out
     have HC2 := zh c2
     clear HR4 HB4 HRW hci HO c2 hsz
     generalize wr.heap.size = gi at *
     obtain ⟨op, nn, e, hew⟩ := x
     dsimp only at c0 c1 HC2 hrun hg
     have HEW : Hid (EW e) := zh hew
     obtain ⟨sl, hsl⟩ : ∃ z, z = st.length := ⟨_, rfl⟩
     have HSL : Hid (st.length = sl) := zh hsl.symm
     have hbd1 : sl + 1 ≤ maxLen := by simp only [maxLen]; omega
     have hbd2 : (sl + 1) * 64 ≤ 140737488355328 := by omega
     rw [← hsl] at hg hrun HO4 hst ⊢
     clear hsl
     by_cases h1 : op = 1
     ·subst h1
      rw [if_pos (.inl rfl)] at hg
      rw [if_pos rfl] at hrun
      by_cases hin : 0 ≤ nn ∧ nn < (q : Int)
      ·rw [if_pos hin] at hrun
       obtain ⟨j, rfl⟩ : ∃ j : Nat, nn = (j : Int) := ⟨nn.toNat, by omega⟩
       rw [Int.toNat_natCast] at hrun
       have hjl : j < v.length := by have := HQV.out; omega
       obtain ⟨b2, o2, rfl, hrng⟩ := els_at (HV1.out.below HBW4.out) HE.out (k := j) hjl
       have hrv := hrng j hjl
       have HVE : Hid (EW (v.getD j [])) := zh (HE.out _ (eget_mem hjl))
       have hjq : (j : Int) < (q : Int) := hin.2
       have hqj : ¬ (q : Int) ≤ (j : Int) := by omega
       have hqd : decide ((q : Int) ≤ (j : Int)) = false := zF hqj
       have hqn : decide (q ≤ j) = false := zF (by omega)
       generalize v.getD j [] = ve at *
       have HRV := zh hrv
       have HG5 : Hid (∃ mx, rgtB (roomG (l.drop (k + 1)) (st ++ [ve]).length mx) = true) := zh ⟨_, by rw [zA7, HSL.out]; exact hg⟩
       have HRN5 : Hid (runG (joinE fs) meetE v (l.drop (k + 1)) (st ++ [ve]) = R) := zh hrun
       clear hin hrng hrv hg hrun hjl
       go_wp2_with (first
        | (refine wpList_loadElemIn (by rfl) _ rfl b2 (o2 + j * 8) rfl _ HVE.out HRV.out ?_)
        | (refine wpList_one8 rfl _ rfl ve HVE.out rfl ?_; intro w5 r5 hb5; have HR5 := zh r5; have HB5 := zh hb5; have HO5 := zh (own_below HO4.out hb5 (zL _)); have HS5 := zh (zM HBW4.out.size hb5.size); clear r5 hb5)
        | (refine wpList_moreS _ rfl _ _ 37 rfl 40 zeroE 8 64 Tryz.underlying37 infoElemZ rfl (by decide) w1.heap.size A' sl c' (escells st) rfl HO5.out w4.heap.size (ucells ve) rfl (uc_len HVE.out) (uc_cells HR5.out) (uc_one _) hbd1 hbd2 HS5.out ?_; intro A2 c2 w6 hown6 hb6 _ _; have HO6 := zh hown6; have HB6 := zh hb6; clear hown6 hb6))
       have hln : (st ++ [ve]).length = sl + 1 := by rw [zA7, HSL.out]; rfl
       have hcs : escells st ++ ucells ve = escells (st ++ [ve]) := by rw [escells_app]; simp [escells]
       have HO7 := HO6.out
       rw [hcs] at HO7
       go_roundw
       case rel =>
        refine ⟨k + 1, c2, A2, st ++ [ve], by omega, by omega, by go_num, by rw [hln], ?_, ?_, HG5, HRN5, zh ((HBW4.out.trans (HB5.out.mono HBW4.out.size)).trans HB6.out)⟩
        ·rw [hln]; exact HO7
        ·show ∀ y ∈ st ++ [ve], EW y
         intro y hy
         rcases List.mem_append.1 hy with hy | hy
         ·exact HES.out y hy
         ·rw [List.mem_singleton.1 hy]; exact HVE.out
       case measure => simp [intOf]; omega
      ·rw [if_neg hin] at hrun
       have HNONE : Hid (∀ W, Below w.heap.size w W → Q' (.returned (retE none)) W) := zh fun W hW => HEND.out none W (by rw [HRV.out, ← hrun]; rfl) hW
       clear hrun hg
       have hgg := HG3.out
       by_cases hn0 : nn < 0
       ·have q1 : decide (nn < 0) = true := zE hn0
        clear hin
        have HR64 := zh (HR6.out.below HBW4.out HR6.out.lt)
        go_wp2_with (refine wpList_stRow (by rfl) _ _ _ rfl (w.heap.size + 1) (uv z8) rfl rfl _ _ HR64.out (einfo2 HZ8.out) rfl (uv8_one _) ?_; intro w5 r5 he; have HR65 := zh r5; have HE5 := zh he; clear r5 he)
        exact bodyPost_ret (ret2 rfl _ _ (w.heap.size + 1) _ _ (0, 0) _ (.bool false) rfl rfl HR65.out Tryz.underlying40 rfl (einfo2 HZ8.out)) rfl (HNONE.out w5 ((HB.out.trans (HBW4.out.mono HSZ.out)).trans (HE5.out.below (by omega))))
       ·have q1 : decide (nn < 0) = false := zF hn0
        have hq2 : (q : Int) ≤ nn := by omega
        have q2 : decide ((q : Int) ≤ nn) = true := zE hq2
        clear hin
        have HR64 := zh (HR6.out.below HBW4.out HR6.out.lt)
        go_wp2_with (refine wpList_stRow (by rfl) _ _ _ rfl (w.heap.size + 1) (uv z8) rfl rfl _ _ HR64.out (einfo2 HZ8.out) rfl (uv8_one _) ?_; intro w5 r5 he; have HR65 := zh r5; have HE5 := zh he; clear r5 he)
        exact bodyPost_ret (ret2 rfl _ _ (w.heap.size + 1) _ _ (0, 0) _ (.bool false) rfl rfl HR65.out Tryz.underlying40 rfl (einfo2 HZ8.out)) rfl (HNONE.out w5 ((HB.out.trans (HBW4.out.mono HSZ.out)).trans (HE5.out.below (by omega))))
     rw [if_neg h1] at hrun
     have n1 : (op == 1) = false := by simpa using h1
     by_cases h2 : op = 2
     ·subst h2
      rw [if_pos (.inr rfl)] at hg
      rw [if_pos rfl] at hrun
      have HVE : Hid (EW e) := HEW
      have HG5 : Hid (∃ mx, rgtB (roomG (l.drop (k + 1)) (st ++ [e]).length mx) = true) := zh ⟨_, by rw [zA7, HSL.out]; exact hg⟩
      have HRN5 : Hid (runG (joinE fs) meetE v (l.drop (k + 1)) (st ++ [e]) = R) := zh hrun
      clear hg hrun h1 n1
      go_wp2_with (first
       | (refine wpList_loadElemIn (by rfl) _ rfl gi 2 rfl _ HEW.out HC2.out ?_)
       | (refine wpList_one8 rfl _ rfl e HEW.out rfl ?_; intro w5 r5 hb5; have HR5 := zh r5; have HB5 := zh hb5; have HO5 := zh (own_below HO4.out hb5 (zL _)); have HS5 := zh (zM HBW4.out.size hb5.size); clear r5 hb5)
       | (refine wpList_moreS _ rfl _ _ 37 rfl 40 zeroE 8 64 Tryz.underlying37 infoElemZ rfl (by decide) w1.heap.size A' sl c' (escells st) rfl HO5.out w4.heap.size (ucells e) rfl (uc_len HEW.out) (uc_cells HR5.out) (uc_one _) hbd1 hbd2 HS5.out ?_; intro A2 c2 w6 hown6 hb6 _ _; have HO6 := zh hown6; have HB6 := zh hb6; clear hown6 hb6))
      have hln : (st ++ [e]).length = sl + 1 := by rw [zA7, HSL.out]; rfl
      have hcs : escells st ++ ucells e = escells (st ++ [e]) := by rw [escells_app]; simp [escells]
      have HO7 := HO6.out
      rw [hcs] at HO7
      go_roundw
      case rel =>
       refine ⟨k + 1, c2, A2, st ++ [e], by omega, by omega, by go_num, by rw [hln], ?_, ?_, HG5, HRN5, zh ((HBW4.out.trans (HB5.out.mono HBW4.out.size)).trans HB6.out)⟩
       ·rw [hln]; exact HO7
       ·show ∀ y ∈ st ++ [e], EW y
        intro y hy
        rcases List.mem_append.1 hy with hy | hy
        ·exact HES.out y hy
        ·rw [List.mem_singleton.1 hy]; exact HVE.out
      case measure => simp [intOf]; omega
     rw [if_neg h2] at hrun
     rw [if_neg (by omega)] at hg
     have n2 : (op == 2) = false := by simpa using h2
     have h34 : op = 3 ∨ op = 4 := by
      by_cases h : op = 3 ∨ op = 4
      ·exact h
      ·rw [if_neg h] at hg; cases hg
     rw [if_pos h34] at hg
     have hbnd : ¬ (nn < 1 ∨ (sl : Int) < nn) := fun h => by rw [if_pos h] at hg; cases hg
     rw [if_neg hbnd] at hg
     obtain ⟨j, rfl⟩ : ∃ j : Nat, nn = (j : Int) := ⟨nn.toNat, by omega⟩
     rw [Int.toNat_natCast] at hrun hg
     obtain ⟨m, hm⟩ : ∃ z, z = sl - j := ⟨_, rfl⟩
     obtain ⟨k2, hk2⟩ : ∃ z, z = j - 1 := ⟨_, rfl⟩
     have hm1 : sl = m + j := by omega
     have hm2 : j = k2 + 1 := by omega
     have hmk : m + k2 < st.length := by rw [HSL.out]; omega
     have hml : m ≤ st.length := by rw [HSL.out]; omega
     have hmk1 : m + 1 ≤ k + 1 := by omega
     have hsj : sl + 1 - j = m + 1 := by omega
     rw [← hm, ← hk2] at hrun
     rw [hsj] at hg
     have hmax : sl ≤ 1000000 := by omega
     have HM1 := zh hm1
     have HM2 := zh hm2
     clear hm hk2 hsj hbnd h1 h2 hm1 hm2 hst
     rcases h34 with rfl | rfl
     ·rw [if_pos rfl] at hrun
      have HRP : Hid (Calls Tryz.prog 38 #[.slice A' sl c', .int .i64 (j : Int), .func (.func 36) #[] #[.pointer (some ⟨w.heap.size, 0, none⟩)]] w4 fun e w' => ∃ A2 c2, e = .returned (.slice A2 (m + 1) c2) ∧ w'.ownsRow w1.heap.size 40 8 (.slice A2 (m + 1) c2) (m + 1) (escells (repS (joinE fs) st m k2)) ∧ Below w1.heap.size w4 w') := zh (replace_any 36 #[.pointer (some ⟨w.heap.size, 0, none⟩)] (joinE fs) (fun a b ha hb => joinE_ew fs ha hb) st HES.out sl k2 j m HSL.out HM1.out HM2.out hmax A' c' w1.heap.size w4 HBW4.out.size HO4.out (fun _ _ => by kernel_rfl) (fun a b W ha hb hW => evJoin_any t SA sc fs a b ha hb w.heap.size W (HTf.out W (HBW4.out.trans hW)) (HFf.out W (HBW4.out.trans hW)) (HR3.out.below (HBW4.out.trans hW) HR3.out.lt)))
      have HEW5 : Hid (∀ e ∈ repS (joinE fs) st m k2, EW e) := zh (repS_ew (fun a b ha hb => joinE_ew fs ha hb) HES.out hmk)
      have hln : (repS (joinE fs) st m k2).length = m + 1 := repS_len _ _ hml
      have HG5 : Hid (∃ mx, rgtB (roomG (l.drop (k + 1)) (repS (joinE fs) st m k2).length mx) = true) := zh ⟨_, by rw [hln]; exact hg⟩
      have HRN5 : Hid (runG (joinE fs) meetE v (l.drop (k + 1)) (repS (joinE fs) st m k2) = R) := zh hrun
      have HLN := zh hln
      clear hg hrun hml hmk hln
      go_wp2_with (go_at_call 38; refine HRP.out.mono ?_; rintro e w5 ⟨A2, c2, rfl, hown5, hb5⟩; have HO5 := zh hown5; have HB5 := zh hb5; clear hown5 hb5)
      go_roundw
      case rel =>
       refine ⟨k + 1, c2, A2, repS (joinE fs) st m k2, by omega, by rw [HLN.out]; exact hmk1, by go_num, by rw [HLN.out], ?_, HEW5, HG5, HRN5, zh (HBW4.out.trans HB5.out)⟩
       rw [HLN.out]; exact HO5
      case measure => simp [intOf]; omega
     ·rw [if_neg (by decide)] at hrun
      have HRP : Hid (Calls Tryz.prog 38 #[.slice A' sl c', .int .i64 (j : Int), .func (.func 39) #[] #[]] w4 fun e w' => ∃ A2 c2, e = .returned (.slice A2 (m + 1) c2) ∧ w'.ownsRow w1.heap.size 40 8 (.slice A2 (m + 1) c2) (m + 1) (escells (repS (meetE) st m k2)) ∧ Below w1.heap.size w4 w') := zh (replace_any 39 #[] (meetE) (fun a b ha _ => meetE_ew b ha) st HES.out sl k2 j m HSL.out HM1.out HM2.out hmax A' c' w1.heap.size w4 HBW4.out.size HO4.out (fun _ _ => by kernel_rfl) (fun a b W ha hb _ => smeet_any a b ha hb W))
      have HEW5 : Hid (∀ e ∈ repS (meetE) st m k2, EW e) := zh (repS_ew (fun a b ha _ => meetE_ew b ha) HES.out hmk)
      have hln : (repS (meetE) st m k2).length = m + 1 := repS_len _ _ hml
      have HG5 : Hid (∃ mx, rgtB (roomG (l.drop (k + 1)) (repS (meetE) st m k2).length mx) = true) := zh ⟨_, by rw [hln]; exact hg⟩
      have HRN5 : Hid (runG (joinE fs) meetE v (l.drop (k + 1)) (repS (meetE) st m k2) = R) := zh hrun
      have HLN := zh hln
      clear hg hrun hml hmk hln
      go_wp2_with (go_at_call 38; refine HRP.out.mono ?_; rintro e w5 ⟨A2, c2, rfl, hown5, hb5⟩; have HO5 := zh hown5; have HB5 := zh hb5; clear hown5 hb5)
      go_roundw
      case rel =>
       refine ⟨k + 1, c2, A2, repS (meetE) st m k2, by omega, by rw [HLN.out]; exact hmk1, by go_num, by rw [HLN.out], ?_, HEW5, HG5, HRN5, zh (HBW4.out.trans HB5.out)⟩
       rw [HLN.out]; exact HO5
      case measure => simp [intOf]; omega
    ·obtain rfl : k = n := by omega
     obtain ⟨mx, hg⟩ := HG.out
     have hrun := HRN.out
     rw [← HN.out, List.drop_eq_nil_of_le (zL _)] at hg hrun
     have hs1 : st.length = 1 := by
      have h : (st.length == 1) = true := hg
      simpa using h
     have hr2 : some st = R := hrun
     have hev : some (st.getD 0 []) = evG fs v l := by rw [HRV.out, ← hr2]; rfl
     have HEV := zh hev
     obtain ⟨g, rfl, hg1, hg2⟩ := own_some HO.out (by omega)
     have HS0 := zh (Sl.of_own HO.out)
     have HE0 : Hid (EW (st.getD 0 [])) := zh (HES.out _ (eget_mem (by omega)))
     have hrg := els_rng HS0.out HES.out (k := 0) (by omega)
     rw [Nat.zero_add, Nat.zero_mul] at hrg
     have HRG := zh hrg
     have HR6k := zh (HR6.out.below HBr.out HR6.out.lt)
     have h1l : (0 : Int) < (st.length : Int) := by omega
     clear hg hrun hs1 hr2 hev hrg hg1 hg2 HO
     generalize st.getD 0 [] = ve at *
     generalize st.length = sl at *
     go_wp2_with (first
      | (refine wpList_loadElemIn (by rfl) _ rfl g 0 rfl _ HE0.out HRG.out ?_)
      | (refine wpList_stRow (by rfl) _ _ _ rfl (w.heap.size + 1) (uv ve) rfl rfl _ _ HR6k.out (einfo2 HE0.out) (by rw [uv8_size HZ8.out, uv8_size HE0.out]) (uv8_one _) ?_; intro w5 r5 he; have HR65 := zh r5; have HE5 := zh he; clear r5 he))
     have hgg := HG3.out
     exact bodyPost_ret (ret2 rfl _ _ (w.heap.size + 1) _ _ (0, 0) _ (.bool true) rfl rfl HR65.out Tryz.underlying40 rfl (einfo2 HE0.out)) rfl (HEND.out (some ve) w5 HEV.out ((HB.out.trans (HBr.out.mono HSZ.out)).trans (HE5.out.below (by omega))))
end
end Go.Proofs.YtdahllhbpdbknaaGreatDoor
