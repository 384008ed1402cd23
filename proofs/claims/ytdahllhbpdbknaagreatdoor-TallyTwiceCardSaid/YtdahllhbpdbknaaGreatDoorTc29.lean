/- Texts that all the claims need. Conditions: those that each states. -/

import Derived.Test.YtdahllhbpdbknaaGreatDoorTc19
import Derived.Test.YtdahllhbpdbknaaGreatDoorTc28
set_option linter.unusedSimpArgs false
set_option linter.unusedVariables false
set_option maxRecDepth 100000
set_option maxHeartbeats 40000000
namespace Go.Proofs.YtdahllhbpdbknaaGreatDoor
section
open Go.RowKit RM Go.Maps
theorem jcall_any (t : Bool) (A : Option Addr) (c : Nat) (fs : List Fac) (go gp gt gs lo : Nat) (a b : List Nat) (ha : EW a) (hb : EW b) (w : World) (hT : Tab w) (hF : Facs w A fs)
 (hT' : ∀ W, But (fun k => k = go ∨ k = gt) w W → Tab W) (hF' : ∀ W, But (fun k => k = go ∨ k = gt) w W → Facs W A fs) (hJ : JIn w lo go gp gt gs t A c fs) :
 Calls Tryz.prog 43 #[.agg (uv a), .agg (uv b), .pointer (some ⟨go, 0, none⟩), .pointer (some ⟨gp, 0, none⟩), .pointer (some ⟨gt, 0, none⟩), .pointer (some ⟨gs, 0, none⟩)] w fun e w' =>
  e = .returned (.agg (uv (joinE fs a b))) ∧ JSt w' lo go gt t fs ∧ But (fun k => k = go ∨ k = gt) w w' := by
 obtain ⟨r0, r1, r2, hb0⟩ := three_rows w (uv a) (uv b) (uv (List.replicate 8 0)) 40 40 40
 refine cHid fun Q' hQ => ?_
 have HQ := zh hQ; clear hQ
 rw [← zero_elem] at r0 r1 r2 hb0
 go_enter Tryz.func43, Tryz.ntmps43
 go_upto_region 1 with fail
 rw [zero_elem] at r0 r1 r2 hb0 ⊢
 change Code.wp _ _ _ _ (((w.alloc (.cells (uv a) 40)).alloc (.cells (uv b) 40)).alloc (.cells (uv (List.replicate 8 0)) 40))
 generalize (((w.alloc (.cells (uv a) 40)).alloc (.cells (uv b) 40)).alloc (.cells (uv (List.replicate 8 0)) 40)) = w1 at *
 have hM1 : But (fun k => k = go ∨ k = gt) w w1 := But.of_below hb0 _
 have hsp : gs < w.heap.size ∧ gp < w.heap.size ∧ go < w.heap.size ∧ gt < w.heap.size := ⟨hJ.shp.lt, hJ.prep.lt, by have := hJ.glo; have := hJ.lol; omega, by have := hJ.tlo; have := hJ.lol; omega⟩
 have hs1 : w.heap.size ≤ w1.heap.size := hb0.size
 have hp1 := hJ.prep.below hb0 hJ.prep.lt
 have hsh1 := hJ.shp.below hb0 hJ.shp.lt
 have hJ1 : JSt w1 lo go gt t fs := hJ.st.but (M := fun _ => False) ⟨hb0.os, hb0.tape, hb0.output, hb0.size, fun k hk _ => hb0.block k hk⟩ (fun h => h) (fun h => h) (fun k h => h.elim)
 have hon := once_any t A c fs gs gt go lo w1 (hT' w1 hM1) (hF' w1 hM1) hsh1 (zM hJ.lol hs1) hJ.glo hJ.tlo (fun W h => hT' W (hM1.trans h)) (fun W h => hF' W (hM1.trans h)) ⟨hJ.ne.1, hJ.ne.2.1⟩ hJ1
 have HON := zh hon
 have HNE := zh hJ.ne
 have HLO := zh (And.intro hJ.glo hJ.tlo)
 have HLW := zh (zM hJ.lol hs1)
 have HSP := zh hsp
 have HS1 := zh hs1
 have HM1 := zh hM1
 have hpc := (hp1.cell 0).trans (rfl : _ = some (Value.func (.func 41) #[] #[.pointer (some ⟨gs, 0, none⟩), .pointer (some ⟨gt, 0, none⟩)]))
 have HR0 := zh r0
 have HR1 := zh r1
 have HR2 := zh r2
 have HSH := zh hsh1
 have HT' : Hid (∀ W, But (fun k => k = go ∨ k = gt) w W → Tab W) := zh hT'
 have HF' : Hid (∀ W, But (fun k => k = go ∨ k = gt) w W → Facs W A fs) := zh hF'
 have HA := zh ha
 have HB := zh hb
 clear hon hJ1 hJ hsh1 hp1 hb0 r0 r1 r2 hsp hs1 hM1 hT hF hT' hF' ha hb
 go_upto_region 2 with (go_at_call 44; refine HON.out.mono ?_; rintro e w2 ⟨rfl, hd, hb2⟩; have HD := zh hd; have HB2 := zh hb2; clear hd hb2)
 have hsp := HSP.out
 have HR02 := zh (HR0.out.but HB2.out (by rintro (h | h) <;> omega))
 have HR12 := zh (HR1.out.but HB2.out (by rintro (h | h) <;> omega))
 have HR22 := zh (HR2.out.but HB2.out (by rintro (h | h) <;> omega))
 have HSH2 := zh (HSH.out.but HB2.out (by rintro (h | h) <;> (have := HNE.out; omega)))
 have HM2 := zh (HM1.out.trans HB2.out)
 have hs2 := HB2.out.size
 clear HR0 HR1 HR2 HSH HB2 hpc HON HM1
 rcases HD.out with ⟨hdo, ⟨hrt, hg⟩ | ⟨hrt, tb, hg, hta⟩⟩
 ·have hgc := (hg.cell 0).trans (rfl : _ = some (Value.slice none 0 0))
  have HSJ := zh (sjoin_any t A c fs a b HA.out HB.out w2 (HT'.out w2 HM2.out) (HF'.out w2 HM2.out))
  clear hdo hrt hg
  have HEW := zh (joinE_ew fs HA.out HB.out)
  generalize joinE fs a b = z at *
  generalize fs.length = n at *
  go_wp2_with (first
   | (refine wpList_loadShape (by rfl) _ rfl gs rfl _ _ _ _ HSH2.out ?_)
   | (refine wpList_loadElem (by rfl) _ rfl w.heap.size rfl a HA.out HR02.out ?_)
   | (refine wpList_loadElem (by rfl) _ rfl (w.heap.size + 1) rfl b HB.out HR12.out ?_)
   | (go_at_call 37; refine HSJ.out.mono ?_; rintro e w3 ⟨rfl, hb3⟩; have HB3 := zh hb3; clear hb3; have HR23 := zh (HR22.out.below HB3.out HR22.out.lt))
   | (refine wpList_storeElem (by rfl) _ _ rfl (w.heap.size + 2) rfl z HEW.out rfl _ EW.zeros HR23.out ?_; intro w4 r4 he4))
  have hm4 : Mut (w.heap.size + 2) w2 w4 := (Mut.of_below HB3.out _).trans (Mut.of_else he4)
  exact bodyPost_ret (retRow rfl _ _ (w.heap.size + 2) _ _ (0, 0) _ rfl r4 Tryz.underlying40 rfl (einfo HEW.out)) rfl (HQ.out _ _ ⟨rfl, .inr (HD.out.elem hm4 HR22.out Fr.elem), HM2.out.mut hm4 (by omega)⟩)
 ·have hgc := (hg.cell 0).trans (rfl : _ = some (Value.slice (some ⟨tb, 0, none⟩) 8 8))
  have HG := zh hg
  have HTA := zh hta
  have HRT := zh hrt
  clear hdo hrt hta hg
  have HJE : Hid (joinE fs a b = sdTo (fun i => joinS fs i (a.getD i 0) (b.getD i 0)) 8 8) := zh (sdTo_end (fun i => joinS fs i (a.getD i 0) (b.getD i 0)) 8).symm
  have HEW : Hid (∀ k, EW (sdTo (fun i => joinS fs i (a.getD i 0) (b.getD i 0)) 8 k)) := zh (sdTo_ew fun i => joinS_lt fs i (HA.out.lt i) (HB.out.lt i))
  have HZ : Hid (sdTo (fun i => joinS fs i (a.getD i 0) (b.getD i 0)) 8 0 = List.replicate 8 0) := zh (sdTo_zero _ 8)
  have HNX : Hid (∀ k, (uv (sdTo (fun i => joinS fs i (a.getD i 0) (b.getD i 0)) 8 k)).setIfInBounds k (.int .u64 ((joinS fs k (a.getD k 0) (b.getD k 0) : Nat) : Int)) = uv (sdTo (fun i => joinS fs i (a.getD i 0) (b.getD i 0)) 8 (k + 1))) := zh fun k => by rw [uv_set, ← sdTo_set]
  rw [HJE.out] at HQ
  clear HJE
  generalize sdTo (fun i => joinS fs i (a.getD i 0) (b.getD i 0)) 8 = G at *
  have HE2 := zh (RowAt.new w2 40 (uv (List.replicate 8 0)))
  have HBE : Hid (Below w2.heap.size w2 (w2.alloc (.cells (uv (List.replicate 8 0)) 40))) := zh ((zB _ _).alloc (zL _) _)
  rw [← zero_elem] at HE2 HBE
  go_upto_region 5 with fail
  rw [zero_elem] at HE2 HBE ⊢
  change Code.wp _ _ _ _ (w2.alloc (.cells (uv (List.replicate 8 0)) 40))
  generalize w2.alloc (.cells (uv (List.replicate 8 0)) 40) = w3 at *
  rw [← HZ.out] at HE2
  go_wp2_with fail
  obtain ⟨ge, hge⟩ : ∃ ge, ge = w2.heap.size := ⟨_, rfl⟩
  rw [← hge] at HE2 hs2 ⊢
  have HB23 : Hid (Mut ge w2 w3) := zh (Mut.of_below HBE.out _)
  have HGE := zh hge
  clear hge HBE hgc hsp
  have HS2 := zh hs2; clear hs2
  go_loopw [10, 20] (fun _ kv wr => ∃ k : Nat, k ≤ 8 ∧ kv = .int .i64 k ∧ Hid (RowAt wr ge 40 (uv (G k))) ∧ Hid (Mut ge w2 wr)) (fun _ kv _ => 8 - (intOf kv).toNat)
  case atStart => exact ⟨0, by omega, rfl, HE2, HB23⟩
  case round =>
   clear HE2 HB23
   obtain ⟨k, hk, rfl, HR, HM⟩ := hrel
   by_cases hlt : k < 8
   ·obtain ⟨m, sl, hms, hcl⟩ := tcall_any (t := t) HRT.out (i := k) hlt HTA.out
    have HCL := zh hcl
    have HMS := zh hms
    clear hms hcl
    have HXA : (uv a)[k]? = some (.int .u64 ((a.getD k 0 : Nat) : Int)) := ev_at HA.out k hlt
    have HXB : (uv b)[k]? = some (.int .u64 ((b.getD k 0 : Nat) : Int)) := ev_at HB.out k hlt
    have hnx := HNX.out k
    have HCE0 : Hid ((uv (G k))[k]? = some (.int .u64 (((G k).getD k 0 : Nat) : Int))) := zh (ev_at (HEW.out k) k hlt)
    have hxa := HA.out.lt k
    have hxb := HB.out.lt k
    have hge := HGE.out
    have hsp := HSP.out
    have hs2 := HS2.out
    have hs1 := HS1.out
    have hgl : w.heap.size + 2 < ge := by rw [hge]; exact HR22.out.lt
    obtain ⟨S, HS, pM, keepS, SI⟩ := ex_mut ge wr
    have PM := zh pM
    have cG : ∀ w', S w' → w'.cell? ⟨gt, 0, none⟩ = some (.slice (some ⟨tb, 0, none⟩) 8 8) := fun w' h => ((HG.out.mut (HM.out.trans (pM w' h)) (by omega)).cell 0).trans rfl
    have htb : tb < w2.heap.size := by
     obtain ⟨cur, _, h6, _⟩ := HTA.out
     exact h6.lt
    have cM : ∀ w', S w' → w'.cell? ⟨tb, k * 2, none⟩ = some m := fun w' h => (HMS.out w' ((HM.out.trans (pM w' h)).block tb htb (by omega))).1
    have cN : ∀ w', S w' → w'.cell? ⟨tb, k * 2 + 1, none⟩ = some sl := fun w' h => (HMS.out w' ((HM.out.trans (pM w' h)).block tb htb (by omega))).2
    have cA : ∀ w', S w' → w'.cell? ⟨w.heap.size, k, none⟩ = some (.int .u64 ((a.getD k 0 : Nat) : Int)) := fun w' h => ((HR02.out.mut (HM.out.trans (pM w' h)) (by omega)).cell k).trans HXA
    have cB : ∀ w', S w' → w'.cell? ⟨w.heap.size + 1, k, none⟩ = some (.int .u64 ((b.getD k 0 : Nat) : Int)) := fun w' h => ((HR12.out.mut (HM.out.trans (pM w' h)) (by omega)).cell k).trans HXB
    have PC : Hid (∀ w', S w' → Calls Tryz.prog 45 #[.agg #[m, sl], .int .u64 ((a.getD k 0 : Nat) : Int), .int .u64 ((b.getD k 0 : Nat) : Int)] w' fun e w'' => e = .returned (.int .u64 ((joinS fs k (a.getD k 0) (b.getD k 0) : Nat) : Int)) ∧ Below w'.heap.size w' w'') := zh fun w' h =>
     HCL.out w' _ _ (fun j _ hj => (HM.out.trans (pM w' h)).block j hj (by omega)) hxa hxb
    have s2 := HR.out.drew
    have HGL := zh hgl
    clear pM HR HXA HXB hxa hxb hge hsp hs2 hs1 hgl htb HCL HMS
    generalize a.getD k 0 = x at *
    generalize b.getD k 0 = y at *
    generalize joinS fs k x y = z at *
    have HNX2 := zh hnx; clear hnx
    go_wp2_with fail
    refine wp_region_ord S [(0, true), (1, true), (2, true), (3, true), (4, true), (5, true), (6, true), (7, true), (8, true), (9, true), (10, true), (11, false), (12, true), (13, false)] (by kernel_rfl) (by kernel_rfl) rfl (by kernel_rfl) HS.out ?_
    generalize wr.drew = VV at HS s2 ⊢
    iterate 11
     (refine wpOrd_step (zO rfl) ?_)
     (first
      | (refine wpOrd_skip (by rfl) ?_)
      | (refine wpOrd_take (v := ?_) (by rfl) ?_ ?_; rotate_left 1; (intro wx hSx; have hc_0 := cG wx hSx; have hc_1 := cM wx hSx; have hc_2 := cN wx hSx; have hc_3 := cA wx hSx; have hc_4 := cB wx hSx; go_simp; try with_reducible rfl)))
     (try simp only [Act.put, zA4, zA5, zA6])
    (refine wpOrd_solo (zO rfl) ?_)
    intro K hK
    go_simp
    go_at_call 45
    refine (PC.out _ HS.out).mono ?_
    rintro e w4 ⟨rfl, hb⟩
    have s4 := s2.below hb s2.lt
    clear s2
    have hS := keepS _ _ HS.out hb
    clear HS
    have HS := zh hS; clear hS hb
    refine hK.out _ _ HS.out ?_
    clear hK K
    (try simp only [Act.put, zA4, zA5, zA6])
    iterate 1
     (refine wpOrd_step (zO rfl) ?_)
     (first
      | (refine wpOrd_skip (by rfl) ?_)
      | (refine wpOrd_take (v := ?_) (by rfl) ?_ ?_; rotate_left 1; (intro wx hSx; go_simp; try with_reducible rfl)))
     (try simp only [Act.put, zA4, zA5, zA6])
    have hce := (s4.cell k).trans HCE0.out
    have hfe := s4.free k
    (refine wpOrd_solo (zO rfl) ?_)
    intro K hK
    go_simp
    have HM5 := zh ((PM.out _ HS.out).trans (Mut.of_set w4 ge k (.int .u64 ((z : Nat) : Int))))
    have p5 := s4.put k (.int .u64 ((z : Nat) : Int))
    rw [HNX2.out] at p5
    refine hK.out _ _ (SI.out _ HM5.out) ?_
    clear hK K
    (try simp only [Act.put, zA4, zA5, zA6])
    refine wpOrd_done ?_
    have HP5 := zh p5
    clear hce hfe s4 p5 cG cM cN cA cB keepS SI PC HS HCE0
    go_wp2_with fail
    go_roundw
    case rel => exact ⟨k + 1, by omega, by go_num, HP5, zh (HM.out.trans HM5.out)⟩
    case measure => simp [intOf]; omega
   ·obtain rfl : k = 8 := by omega
    have hsp := HSP.out
    have HRS := zh (HR22.out.mut HM.out (by have := HGE.out; have := HS2.out; have := HR22.out.lt; omega))
    have hew8 := HEW.out 8
    clear hsp
    go_wp2_with (first
     | (refine wpList_loadElem (by rfl) _ rfl ge rfl (G 8) hew8 HR.out ?_)
     | (refine wpList_storeElem (by rfl) _ _ rfl (w.heap.size + 2) rfl (G 8) hew8 rfl _ EW.zeros HRS.out ?_; intro w5 r5 he5))
    have hm5 : Mut (w.heap.size + 2) w2 w5 := by
     refine ⟨he5.os.trans HM.out.os, he5.tape.trans HM.out.tape, he5.output.trans HM.out.output, ?_, fun j hj hn => ?_⟩
     ·rw [he5.size]; exact HM.out.size
     ·exact (he5.block j hn).trans (HM.out.block j hj (by have := HGE.out; omega))
    exact bodyPost_ret (retRow rfl _ _ (w.heap.size + 2) _ _ (0, 0) _ rfl r5 Tryz.underlying40 rfl (einfo hew8)) rfl (HQ.out _ _ ⟨rfl, .inr (HD.out.elem hm5 HR22.out Fr.elem), HM2.out.mut hm5 (by omega)⟩)
end
end Go.Proofs.YtdahllhbpdbknaaGreatDoor
