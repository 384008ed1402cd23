/- Texts that all the claims need. Conditions: those that each states. -/

import Derived.Test.YteachpfpcceamaaGreatDoorSk17
import Derived.Test.YteachpfpcceamaaGreatDoorSk23
set_option linter.unusedSimpArgs false
set_option linter.unusedVariables false
set_option maxRecDepth 100000
set_option maxHeartbeats 40000000
namespace Go.Proofs.YteachpfpcceamaaGreatDoor
section
open Go.RowKit RM
theorem scopeKeeps_any (s : Sc) (x : Cd) (w : World) (hT : Tab w) (h : ScIn w s) (hx : CdIn w x) :
 Calls Tryz.prog 3 #[.agg (scv s), .agg (cdv x)] w fun e w' => e = .returned (.bool true) ∧ Below w.heap.size w w' := by
 obtain ⟨r0, q0, hb⟩ := two_rows w (scv s) (cdv x) 25 34
 refine cHid fun Q' hQ => ?_
 have HQ := zh hQ; clear hQ
 go_enter Tryz.func3, Tryz.ntmps3
 go_upto_region 1 with fail
 change Code.wp _ _ _ _ ((w.alloc (.cells (scv s) 25)).alloc (.cells (cdv x) 34))
 generalize (w.alloc (.cells (scv s) 25)).alloc (.cells (cdv x) 34) = w1 at *
 have HIN := zh (h.below hb)
 have HXN := zh (hx.below hb)
 have HTf : Hid (∀ W, Below w1.heap.size w1 W → Tab W) := zh fun W hW => (hT.below hb).below hW
 have HB := zh hb
 have HSZ := zh hb.size
 have CS : Hid (∀ W, Below w1.heap.size w1 W → RowAt W w.heap.size 25 (scv s)) := zh fun W hW => r0.below hW r0.lt
 have CC : Hid (∀ W, Below w1.heap.size w1 W → RowAt W (w.heap.size + 1) 34 (cdv x)) := zh fun W hW => q0.below hW q0.lt
 have HR0 := zh r0
 have HCI : Hid ((Tryz.prog.info? 34).map (·.size) = some (cdv x).size) := zh (by
  obtain ⟨l, r, e, _, _⟩ := hx.nodes
  rw [show (cdv x).size = 17 by simp [cdv, e, ntC]]; kernel_rfl)
 have HBG := zh (bigSc_any s w1 HIN.out)
 have HAL := zh fun W (hW : Below w1.heap.size w1 W) => alive13_any W (HTf.out W hW)
 have HCR := zh fun W (hW : Below w1.heap.size w1 W) => qcright_some x W (HXN.out.below hW)
 have HB12 := zh fun W (hW : Below w1.heap.size w1 W) => big12_some x W (HXN.out.below hW)
 have HEND : Hid (∀ W, Below w1.heap.size w1 W → Q' (.returned (.bool true)) W) := zh fun W hW => HQ.out _ _ ⟨rfl, HB.out.trans (hW.mono HSZ.out)⟩
 clear hT h hx hb r0 q0 HQ
 cases hbg : bigSc s with
 | true =>
   rw [hbg] at HBG
   clear hbg
   go_wp2_with (first
    | (refine wpList_loadS (by rfl) _ _ rfl w.heap.size rfl _ _ _ HR0.out Tryz.underlying25 rfl (by kernel_rfl) ?_)
    | (go_at_call 6; refine HBG.out.mono ?_; rintro e w2 ⟨rfl, hb2⟩; have HB2 := zh hb2; have HAL2 := zh (HAL.out w2 hb2); clear hb2)
    | (go_at_call 10; refine HAL2.out.mono ?_; rintro e w3 ⟨rfl, hb3⟩; have HB3 := zh (HB2.out.trans (hb3.mono HB2.out.size)); clear hb3))
   exact HEND.out _ HB3.out
 | false =>
   rw [hbg] at HBG
   go_wp2_with (first
    | (refine wpList_loadS (by rfl) _ _ rfl w.heap.size rfl _ _ _ HR0.out Tryz.underlying25 rfl (by kernel_rfl) ?_)
    | (go_at_call 6; refine HBG.out.mono ?_; rintro e w2 ⟨rfl, hb2⟩; have HS2 := zh hb2; have HRC2 := zh (CC.out w2 hb2); clear hb2)
    | (refine wpList_loadS (by first | rfl | kernel_rfl) _ _ rfl (w.heap.size + 1) rfl _ _ _ HRC2.out Tryz.underlying34 rfl HCI.out ?_))
   refine (HB12.out w2 HS2.out).mono ?_
   rintro e w3 ⟨⟨b, rfl, hbf⟩, hb3⟩
   have HS3 := zh (HS2.out.trans (hb3.mono HS2.out.size))
   clear hb3
   cases b with
   | true =>
     have HAL2 := zh (HAL.out w3 HS3.out)
     go_wp2_with (go_at_call 10; refine HAL2.out.mono ?_; rintro e w4 ⟨rfl, hb4⟩; have HB4 := zh (HS3.out.trans (hb4.mono HS3.out.size)); clear hb4)
     exact HEND.out _ HB4.out
   | false =>
     obtain ⟨h1, h2⟩ := hbf rfl
     have HOK := zh (HIN.out.ok hbg)
     have HXO := zh (HXN.out.ok h1 h2)
     have HSU := zh (big_sum hbg x.ws h1)
     have HW100 := zh h1
     have HL20 := zh (big_len1 hbg)
     have HV80 := zh (big_len2 hbg)
     have HSMLx := zh (shF_small HOK.out HXO.out.wfew fun _ => HSU.out)
     have HP3 : Hid (∀ W, Below w1.heap.size w1 W → Calls Tryz.prog 11 #[.agg (scv s), .agg (cdv x)] W fun e w' => ∃ s', e = .returned (.agg (scv s')) ∧ ScR w' W.heap.size s' (addL s x) (addV s x) ∧ Below W.heap.size W w') := zh fun W hW => sadd_any s x W (HTf.out W hW) (HOK.out.below hW) ((HXO.out.below hW).mono hW.size) fun _ => HSU.out
     have HP5 := zh fun W (hW : Below w1.heap.size w1 W) => scRight_any s W (HTf.out W hW) (HOK.out.below hW)
     have HP7 := zh fun W (hW : Below w1.heap.size w1 W) => fault_any s x W (HTf.out W hW) (HOK.out.below hW) ((HXO.out.below hW).mono hW.size)
     have HRS3 := zh (CS.out w3 HS3.out)
     clear hbg hbf h1 h2 HBG HB12 HRC2 HS2
     cases hrs : rightSc s with
     | false =>
       rw [hrs] at HP5
       clear hrs
       go_wp2_with (first
         | (refine wpList_loadS (by first | rfl | kernel_rfl) _ _ rfl w.heap.size rfl _ _ _ HRS3.out Tryz.underlying25 rfl (by kernel_rfl) ?_)
         | (go_at_call 8; refine (HP5.out w3 HS3.out).mono ?_; rintro e w4 ⟨rfl, hb4⟩; have HS4 := zh (HS3.out.trans (hb4.mono HS3.out.size)); have HAL4 := zh (HAL.out w4 HS4.out); clear hb4)
         | (go_at_call 10; refine HAL4.out.mono ?_; rintro e w5 ⟨rfl, hb5⟩; have HB5 := zh (HS4.out.trans (hb5.mono HS4.out.size)); clear hb5))
       exact HEND.out _ HB5.out
     | true =>
       rw [hrs] at HP5
       have HRT := zh hrs; clear hrs
       go_wp2_with (first
         | (refine wpList_loadS (by first | rfl | kernel_rfl) _ _ rfl w.heap.size rfl _ _ _ HRS3.out Tryz.underlying25 rfl (by kernel_rfl) ?_)
         | (go_at_call 8; refine (HP5.out w3 HS3.out).mono ?_; rintro e w4 ⟨rfl, hb4⟩; have HS4 := zh (HS3.out.trans (hb4.mono HS3.out.size)); have HRC4 := zh (CC.out w4 HS4.out); clear hb4)
         | (refine wpList_loadS (by first | rfl | kernel_rfl) _ _ rfl (w.heap.size + 1) rfl _ _ _ HRC4.out Tryz.underlying34 rfl HCI.out ?_))
       refine (HCR.out w4 HS4.out).mono ?_
       rintro e w5 ⟨⟨b, rfl, hnm⟩, hb5⟩
       have HS5 := zh (HS4.out.trans (hb5.mono HS4.out.size))
       clear hb5
       cases b with
       | false =>
         have HAL5 := zh (HAL.out w5 HS5.out)
         go_wp2_with (go_at_call 10; refine HAL5.out.mono ?_; rintro e w6 ⟨rfl, hb6⟩; have HB6 := zh (HS5.out.trans (hb6.mono HS5.out.size)); clear hb6)
         exact HEND.out _ HB6.out
       | true =>
         have HNM := zh (hnm rfl)
         have HRS5 := zh (CS.out w5 HS5.out)
         have HRC5 := zh (CC.out w5 HS5.out)
         clear hnm HRS3 HRC4 HS3 HS4
         go_upto_region 4 with (first
           | (refine wpList_loadS (by rfl) _ _ rfl w.heap.size rfl _ _ _ HRS5.out Tryz.underlying25 rfl (by kernel_rfl) ?_)
           | (refine wpList_loadS (by rfl) _ _ rfl (w.heap.size + 1) rfl _ _ _ HRC5.out Tryz.underlying34 rfl HCI.out ?_)
           | (go_at_call 11; refine (HP3.out w5 HS5.out).mono ?_; rintro e w6 ⟨t, rfl, hscr, hb6⟩; have HR6 := zh hscr; have HS6 := zh (HS5.out.trans (hb6.mono HS5.out.size)); clear hb6 hscr)
           | (refine wpList_stRow (by rfl) _ _ _ rfl w6.heap.size (scv t) rfl rfl _ _ (RowAt.new _ _ _) (by kernel_rfl) rfl (by simp [scv, Value.oneCell']) ?_; intro w7 r7 he; have HRT7 := zh r7; have HB67 : Hid (Below w6.heap.size w6 w7) := zh (((zB _ _).alloc (zL _) _).trans (he.below (zL _))); clear r7 he))
         have HS7 := zh (HS6.out.trans (HB67.out.mono HS6.out.size))
         have HR7 := zh (HR6.out.below HB67.out)
         have HOT := zh (grown_ok HR7.out HOK.out HXO.out HL20.out HV80.out HW100.out HSMLx.out)
         have hgr := grown_right HR7.out HRT.out HNM.out
         have HPT := zh (scRight_any t w7 (HTf.out _ HS7.out) HOT.out)
         rw [hgr] at HPT
         have htl : s.ls.length ≤ t.ls.length := by
           have h1 := congrArg List.length HR7.out.le
           rw [List.length_map] at h1
           have := (addL_len s x).1
           omega
         have htv : s.vs.length ≤ t.vs.length := by
           have h1 := congrArg List.length HR7.out.ve
           have := (addV_len s x).1
           omega
         have HL1 := zh (own_shape HR7.out.lown)
         have HV1 := zh (own_shape HR7.out.vown)
         have CTW : Hid (∀ W, Below w7.heap.size w7 W → RowAt W w6.heap.size 25 (scv t)) := zh fun W hW => HRT7.out.below hW HRT7.out.lt
         have CSW : Hid (∀ W, Below w7.heap.size w7 W → RowAt W w.heap.size 25 (scv s)) := zh fun W hW => CS.out W (HS7.out.trans (hW.mono HS7.out.size))
         have CCW : Hid (∀ W, Below w7.heap.size w7 W → RowAt W (w.heap.size + 1) 34 (cdv x)) := zh fun W hW => CC.out W (HS7.out.trans (hW.mono HS7.out.size))
         have CT : Hid (∀ W, Below w7.heap.size w7 W → W.cell? ⟨w6.heap.size, 0, none⟩ = some (.slice t.LA t.ls.length t.lc) ∧ W.cell? ⟨w6.heap.size, 1, none⟩ = some (.slice t.VA t.vs.length t.vc)) := zh fun W hW => by
           obtain ⟨k0, k1, _, _⟩ := rw2 (CTW.out W hW)
           exact ⟨k0, k1⟩
         have CSc : Hid (∀ W, Below w7.heap.size w7 W → W.cell? ⟨w.heap.size, 0, none⟩ = some (.slice s.LA s.ls.length s.lc) ∧ W.cell? ⟨w.heap.size, 1, none⟩ = some (.slice s.VA s.vs.length s.vc)) := zh fun W hW => by
           obtain ⟨k0, k1, _, _⟩ := rw2 (CSW.out W hW)
           exact ⟨k0, k1⟩
         have HFI : Hid (scv (t.first s.ls.length s.vs.length) = #[.slice t.LA s.ls.length t.lc, .slice t.VA s.vs.length t.vc]) := zh (first_scv htl htv)
         have q1 : decide (t.ls.length < s.ls.length) = false := zF (by omega)
         have q2 : decide (t.vs.length < s.vs.length) = false := zF (by omega)
         have HTL := zh htl
         have HTV := zh htv
         have HSM : Hid (∀ W, Below w7.heap.size w7 W → Calls Tryz.prog 12 #[.agg (scv (t.first s.ls.length s.vs.length)), .agg (scv s)] W fun e w' => e = .returned (.bool true) ∧ Below W.heap.size W w') := zh fun W hW => rsame_yes _ _ W (first_ok (HOT.out.below hW) _ _) (HOK.out.below (HS7.out.trans (hW.mono HS7.out.size))) (first_ls HR7.out) (first_vs HR7.out)
         have HSM2 : Hid ((faultF s x).1 ≠ 0 → ∀ W, Below w7.heap.size w7 W → Calls Tryz.prog 12 #[.agg (scv t), .agg (scv s)] W fun e w' => e = .returned (.bool true) ∧ Below W.heap.size W w') := zh fun hne W hW => rsame_yes _ _ W (HOT.out.below hW) (HOK.out.below (HS7.out.trans (hW.mono HS7.out.size))) (HR7.out.le.trans (addL_bad hne)) (HR7.out.ve.trans (addV_bad hne))
         have HG6 : Hid (w1.heap.size ≤ w6.heap.size) := zh HS6.out.size
         have HPF : Hid (∀ W, Below w7.heap.size w7 W → Calls Tryz.prog 13 #[.agg (scv s), .agg (cdv x)] W fun e w' => e = .returned (.agg (ftv (faultF s x))) ∧ Below W.heap.size W w') := zh fun W hW => HP7.out W (HS7.out.trans (hW.mono HS7.out.size))
         have HPA : Hid (∀ W, Below w7.heap.size w7 W → Calls Tryz.prog 10 #[] W fun e w' => e = .returned (.bool true) ∧ Below W.heap.size W w') := zh fun W hW => HAL.out W (HS7.out.trans (hW.mono HS7.out.size))
         have HEND7 : Hid (∀ W, Below w7.heap.size w7 W → Q' (.returned (.bool true)) W) := zh fun W hW => HEND.out W (HS7.out.trans (hW.mono HS7.out.size))
         have HFZ : Hid ((faultF s x).1 = 0 → faultF s x = (0, 0)) := zh fault_zero
         clear hgr htl htv HR6 HB67 HS6 HP7 HP3 HP5 HEND HAL HRS5 HRC5 HS5 CS CC HCR HR7
         generalize faultF s x = ff at *
         generalize hsn : s.ls.length = sn at *
         generalize hvn : s.vs.length = vn at *
         generalize htn : t.ls.length = tn at *
         generalize hun : t.vs.length = un at *
         clear hsn hvn htn hun
         have HSCT : Hid (∀ W, Below w7.heap.size w7 W → True) := zh fun _ _ => trivial
         generalize w6.heap.size = g6 at *
         have hrt7 := CTW.out w7 (zB _ _)
         go_upto_region 6 with (first
           | (refine wpList_loadS (by rfl) _ _ rfl g6 rfl _ _ _ hrt7 Tryz.underlying25 rfl (by kernel_rfl) ?_)
           | (go_at_call 8; refine HPT.out.mono ?_; rintro e w8 ⟨rfl, hb8⟩; obtain ⟨c0, c1⟩ := CT.out w8 hb8; obtain ⟨d0, d1⟩ := CSc.out w8 hb8; have HS8 := zh hb8; clear hb8))
         have HSv0 : Hid (Below w7.heap.size w7 w8.drew) := zh HS8.out.drew
         clear c0 c1 d0 d1 hrt7 HS8
         have C0 : ∀ W, Below w7.heap.size w7 W → W.cell? ⟨g6, 0, none⟩ = some (.slice t.LA tn t.lc) := fun W hW => (CT.out W hW).1
         have C1 : ∀ W, Below w7.heap.size w7 W → W.cell? ⟨g6, 1, none⟩ = some (.slice t.VA un t.vc) := fun W hW => (CT.out W hW).2
         have C2 : ∀ W, Below w7.heap.size w7 W → W.cell? ⟨w.heap.size, 0, none⟩ = some (.slice s.LA sn s.lc) := fun W hW => (CSc.out W hW).1
         have C3 : ∀ W, Below w7.heap.size w7 W → W.cell? ⟨w.heap.size, 1, none⟩ = some (.slice s.VA vn s.vc) := fun W hW => (CSc.out W hW).2
         have hzl : ∀ w : World, (sizeOf (Tryz.prog.elem 22)).run Tryz.prog w = .ok 3 w := fun w => by kernel_rfl
         have hzv : ∀ w : World, (sizeOf (Tryz.prog.elem 23)).run Tryz.prog w = .ok 3 w := fun w => by kernel_rfl
         have hkl : sn ≤ t.lc := zM HTL.out HL1.out.2
         have hkv : vn ≤ t.vc := zM HTV.out HV1.out.2
         refine wp_region_ou (fun W => Below w7.heap.size w7 W) ((.take 0 (.take 1 (.take 2 (.take 3 (.take 4 (.take 5 (.take 6 (.take 7 (.take 8 (.take 9 (.take 10 (.take 11 (.take 12 (.solo 13 (.solo 14 .nil)))))))))))))))) (by kernel_rfl) (by kernel_rfl) rfl (by kernel_rfl) HSv0.out ?_
         generalize w8.drew = v0 at HSv0 ⊢
         iterate 13
           (refine wpOU_step (zO rfl) ?_)
           (first
            | (refine wpOU_skip (by rfl) ?_)
            | (refine wpOU_take (by rfl) (take_pre _ _ _ rfl t.LA tn t.lc sn 3 rfl rfl (by kernel_rfl) hzl hkl HL1.out.1) ?_)
            | (refine wpOU_take (by rfl) (take_pre _ _ _ rfl t.VA un t.vc vn 3 rfl rfl (by kernel_rfl) hzv hkv HV1.out.1) ?_)
            | (refine wpOU_take (v := ?_) (by rfl) ?_ ?_; rotate_left 1; (intro wx hSx; have hc_0 := C0 wx hSx; have hc_1 := C1 wx hSx; have hc_2 := C2 wx hSx; have hc_3 := C3 wx hSx; go_simp; try with_reducible rfl)))
           (try simp only [Act.put, zA4, zA5, zA6])
         (refine wpOU_solo (zO rfl) ?_)
         intro K hK
         go_simp
         have hb : Below v0.heap.size v0 (v0.alloc (.cells #[.slice none 0 0, .slice none 0 0] 25)) := (zB _ _).alloc (zL _) _
         have HSv1 : Hid (Below w7.heap.size w7 (v0.alloc (.cells #[.slice none 0 0, .slice none 0 0] 25))) := zh (HSv0.out.trans (hb.mono HSv0.out.size))
         have HR3 := zh (RowAt.new v0 25 #[.slice none 0 0, .slice none 0 0])
         have HZ3 : Hid (w7.heap.size ≤ v0.heap.size) := zh HSv0.out.size
         clear hb
         refine hK.out _ _ HSv1.out ?_
         clear hK K
         (try simp only [Act.put, zA4, zA5, zA6])
         generalize hgb : v0.heap.size = g3 at *
         generalize (v0.alloc (.cells #[.slice none 0 0, .slice none 0 0] 25)) = v1 at *
         clear hgb
         (refine wpOU_solo (zO rfl) ?_)
         intro K hK
         rw [if_pos (by rfl)]
         refine wp_store_row _ _ _ rfl g3 #[.slice t.LA sn t.lc, .slice t.VA vn t.vc] rfl rfl _ _ HR3.out (by kernel_rfl) rfl (by simp [Value.oneCell']) ?_
         have HSv2 : Hid (Below w7.heap.size w7 (v1.setRow g3 #[.slice t.LA sn t.lc, .slice t.VA vn t.vc])) := zh (HSv1.out.trans (Else.below (Else.setRow v1 g3 _) HZ3.out))
         have HR4 := zh (HR3.out.setRow #[.slice t.LA sn t.lc, .slice t.VA vn t.vc])
         refine hK.out _ _ HSv2.out ?_
         clear hK K
         (try simp only [Act.put, zA4, zA5, zA6])
         generalize v1.setRow g3 #[.slice t.LA sn t.lc, .slice t.VA vn t.vc] = v2 at *
         refine wpOU_done ?_
         have HR5 : Hid (RowAt v2 g3 25 (scv (t.first sn vn))) := zh (by rw [HFI.out]; exact HR4.out)
         have HIS : Hid ((Tryz.prog.info? 25).map (·.size) = some (scv (t.first sn vn)).size) := zh (by rw [HFI.out]; kernel_rfl)
         have HRS9 := zh (CSW.out v2 HSv2.out)
         clear HR4 HR3 HSv1 HSv0 C0 C1 C2 C3 hzl hzv hkl hkv q1 q2 HFI
         by_cases hff : ff.1 = 0
         ·have he := HFZ.out hff
          subst he
          clear hff HFZ HSM2
          simp only [ftv] at HPF
          go_wp2_with (first
           | (refine wpList_loadS (by first | rfl | kernel_rfl) _ _ rfl g3 rfl _ _ _ HR5.out Tryz.underlying25 rfl HIS.out ?_)
           | (refine wpList_loadS (by first | rfl | kernel_rfl) _ _ rfl w.heap.size rfl _ _ _ HRS9.out Tryz.underlying25 rfl (by kernel_rfl) ?_))
          refine (HSM.out v2 HSv2.out).mono ?_
          rintro e v3 ⟨rfl, hb3⟩
          have HSv3 := zh (HSv2.out.trans (hb3.mono HSv2.out.size))
          have HRSa := zh (CSW.out v3 HSv3.out)
          have HRCa := zh (CCW.out v3 HSv3.out)
          clear hb3 HSM
          go_wp2_with (first
           | (refine wpList_loadS (by first | rfl | kernel_rfl) _ _ rfl w.heap.size rfl _ _ _ HRSa.out Tryz.underlying25 rfl (by kernel_rfl) ?_)
           | (refine wpList_loadS (by first | rfl | kernel_rfl) _ _ rfl (w.heap.size + 1) rfl _ _ _ HRCa.out Tryz.underlying34 rfl HCI.out ?_)
           | (go_at_call 13; refine (HPF.out v3 HSv3.out).mono ?_; rintro e v4 ⟨rfl, hb4⟩; have HSv4 := zh (HSv3.out.trans (hb4.mono HSv3.out.size)); clear hb4)
           | (go_at_call 10; refine (HPA.out v4 HSv4.out).mono ?_; rintro e v5 ⟨rfl, hb5⟩; have HSv5 := zh (HSv4.out.trans (hb5.mono HSv4.out.size)); clear hb5))
          exact HEND7.out _ HSv5.out
         ·have HSMn := zh (HSM2.out hff)
          obtain ⟨fa, fb⟩ := ff
          have qf : (fa == 0) = false := by simpa using hff
          have qg : ¬ fa = 0 := hff
          clear hff HFZ HSM2
          simp only [ftv] at HPF
          go_wp2_with (first
           | (refine wpList_loadS (by first | rfl | kernel_rfl) _ _ rfl g3 rfl _ _ _ HR5.out Tryz.underlying25 rfl HIS.out ?_)
           | (refine wpList_loadS (by first | rfl | kernel_rfl) _ _ rfl w.heap.size rfl _ _ _ HRS9.out Tryz.underlying25 rfl (by kernel_rfl) ?_))
          refine (HSM.out v2 HSv2.out).mono ?_
          rintro e v3 ⟨rfl, hb3⟩
          have HSv3 := zh (HSv2.out.trans (hb3.mono HSv2.out.size))
          have HRSa := zh (CSW.out v3 HSv3.out)
          have HRCa := zh (CCW.out v3 HSv3.out)
          clear hb3 HSM
          go_wp2_with (first
           | (refine wpList_loadS (by first | rfl | kernel_rfl) _ _ rfl w.heap.size rfl _ _ _ HRSa.out Tryz.underlying25 rfl (by kernel_rfl) ?_)
           | (refine wpList_loadS (by first | rfl | kernel_rfl) _ _ rfl (w.heap.size + 1) rfl _ _ _ HRCa.out Tryz.underlying34 rfl HCI.out ?_)
           | (go_at_call 13; refine (HPF.out v3 HSv3.out).mono ?_; rintro e v4 ⟨rfl, hb4⟩; have HSv4 := zh (HSv3.out.trans (hb4.mono HSv3.out.size)); have HRTb := zh (CTW.out v4 HSv4.out); have HRSb := zh (CSW.out v4 HSv4.out); clear hb4)
           | (refine wpList_loadS (by first | rfl | kernel_rfl) _ _ rfl g6 rfl _ _ _ HRTb.out Tryz.underlying25 rfl (by kernel_rfl) ?_)
           | (refine wpList_loadS (by first | rfl | kernel_rfl) _ _ rfl w.heap.size rfl _ _ _ HRSb.out Tryz.underlying25 rfl (by kernel_rfl) ?_)
           | (go_at_call 12; refine (HSMn.out v4 HSv4.out).mono ?_; rintro e v5 ⟨rfl, hb5⟩; have HSv5 := zh (HSv4.out.trans (hb5.mono HSv4.out.size)); clear hb5)
           | (go_at_call 10; refine (HPA.out v5 HSv5.out).mono ?_; rintro e v6 ⟨rfl, hb6⟩; have HSv6 := zh (HSv5.out.trans (hb6.mono HSv5.out.size)); clear hb6))
          exact HEND7.out _ HSv6.out
end
end Go.Proofs.YteachpfpcceamaaGreatDoor
