/- Texts that all the claims need. Conditions: those that each states. -/

import Derived.Test.YteachpfpcceamaaGreatDoorSl17
import Derived.Test.YteachpfpcceamaaGreatDoorSl23
set_option linter.unusedSimpArgs false
set_option linter.unusedVariables false
set_option maxRecDepth 100000
set_option maxHeartbeats 40000000
namespace Go.Proofs.YteachpfpcceamaaGreatDoor
section
open Go.RowKit RM
theorem scopeLives_any (s : Sc) (x : Cd) (w : World) (hT : Tab w) (h : ScIn w s) (hx : CdIn w x) :
 Calls Tryz.prog 4 #[.agg (scv s), .agg (cdv x)] w fun e w' => e = .returned (.bool true) ∧ Below w.heap.size w w' := by
 obtain ⟨r0, q0, hb⟩ := two_rows w (scv s) (cdv x) 25 34
 refine cHid fun Q' hQ => ?_
 have HQ := zh hQ; clear hQ
 go_enter Tryz.func4, Tryz.ntmps4
 go_upto_region 1 with fail
 change Code.wp _ _ _ _ ((w.alloc (.cells (scv s) 25)).alloc (.cells (cdv x) 34))
 generalize (w.alloc (.cells (scv s) 25)).alloc (.cells (cdv x) 34) = w1 at *
 have HIN := zh (h.below hb)
 have HXN := zh (hx.below hb)
 have HTf : Hid (∀ W, Below w1.heap.size w1 W → Tab W) := zh fun W hW => (hT.below hb).below hW
 have HB := zh hb
 have HSZ := zh hb.size
 have CS : Hid (∀ W, Below w1.heap.size w1 W → RowAt W w.heap.size 25 (scv s)) := zh fun W hW => r0.below hW r0.lt
 have CC : Hid (∀ W, Below w1.heap.size w1 W → RowAt W (w.heap.size + 1) 34 (cdv x)) := zh fun W hW => q0.below hW q0.lt
 have HR0 := zh r0
 have HCI : Hid ((Tryz.prog.info? 34).map (·.size) = some (cdv x).size) := zh (by
  obtain ⟨l, r, e, _, _⟩ := hx.nodes
  rw [show (cdv x).size = 17 by simp [cdv, e, ntC]]; kernel_rfl)
 have HBG := zh (bigSc_any s w1 HIN.out)
 have HAL := zh fun W (hW : Below w1.heap.size w1 W) => alive13_any W (HTf.out W hW)
 have HCR := zh fun W (hW : Below w1.heap.size w1 W) => qcright_some x W (HXN.out.below hW)
 have HB12 := zh fun W (hW : Below w1.heap.size w1 W) => big12_some x W (HXN.out.below hW)
 have HEND : Hid (∀ W, Below w1.heap.size w1 W → Q' (.returned (.bool true)) W) := zh fun W hW => HQ.out _ _ ⟨rfl, HB.out.trans (hW.mono HSZ.out)⟩
 clear hT h hx hb r0 q0 HQ
 cases hbg : bigSc s with
 | true =>
   rw [hbg] at HBG
   clear hbg
   go_wp2_with (first
    | (refine wpList_loadS (by rfl) _ _ rfl w.heap.size rfl _ _ _ HR0.out Tryz.underlying25 rfl (by kernel_rfl) ?_)
    | (go_at_call 6; refine HBG.out.mono ?_; rintro e w2 ⟨rfl, hb2⟩; have HB2 := zh hb2; have HAL2 := zh (HAL.out w2 hb2); clear hb2)
    | (go_at_call 10; refine HAL2.out.mono ?_; rintro e w3 ⟨rfl, hb3⟩; have HB3 := zh (HB2.out.trans (hb3.mono HB2.out.size)); clear hb3))
   exact HEND.out _ HB3.out
 | false =>
   rw [hbg] at HBG
   go_wp2_with (first
    | (refine wpList_loadS (by rfl) _ _ rfl w.heap.size rfl _ _ _ HR0.out Tryz.underlying25 rfl (by kernel_rfl) ?_)
    | (go_at_call 6; refine HBG.out.mono ?_; rintro e w2 ⟨rfl, hb2⟩; have HS2 := zh hb2; have HRC2 := zh (CC.out w2 hb2); clear hb2)
    | (refine wpList_loadS (by first | rfl | kernel_rfl) _ _ rfl (w.heap.size + 1) rfl _ _ _ HRC2.out Tryz.underlying34 rfl HCI.out ?_))
   refine (HB12.out w2 HS2.out).mono ?_
   rintro e w3 ⟨⟨b, rfl, hbf⟩, hb3⟩
   have HS3 := zh (HS2.out.trans (hb3.mono HS2.out.size))
   clear hb3
   cases b with
   | true =>
     have HAL2 := zh (HAL.out w3 HS3.out)
     go_wp2_with (go_at_call 10; refine HAL2.out.mono ?_; rintro e w4 ⟨rfl, hb4⟩; have HB4 := zh (HS3.out.trans (hb4.mono HS3.out.size)); clear hb4)
     exact HEND.out _ HB4.out
   | false =>
     obtain ⟨h1, h2⟩ := hbf rfl
     have HOK := zh (HIN.out.ok hbg)
     have HXO := zh (HXN.out.ok h1 h2)
     have HSU := zh (big_sum hbg x.ws h1)
     have HW100 := zh h1
     have HL20 := zh (big_len1 hbg)
     have HV80 := zh (big_len2 hbg)
     have HSMLx := zh (shF_small HOK.out HXO.out.wfew fun _ => HSU.out)
     have HP3 : Hid (∀ W, Below w1.heap.size w1 W → Calls Tryz.prog 11 #[.agg (scv s), .agg (cdv x)] W fun e w' => ∃ s', e = .returned (.agg (scv s')) ∧ ScR w' W.heap.size s' (addL s x) (addV s x) ∧ Below W.heap.size W w') := zh fun W hW => sadd_any s x W (HTf.out W hW) (HOK.out.below hW) ((HXO.out.below hW).mono hW.size) fun _ => HSU.out
     have HP5 := zh fun W (hW : Below w1.heap.size w1 W) => scRight_any s W (HTf.out W hW) (HOK.out.below hW)
     have HP7 := zh fun W (hW : Below w1.heap.size w1 W) => fault_any s x W (HTf.out W hW) (HOK.out.below hW) ((HXO.out.below hW).mono hW.size)
     have HRS3 := zh (CS.out w3 HS3.out)
     clear hbg hbf h1 h2 HBG HB12 HRC2 HS2
     cases hrs : rightSc s with
     | false =>
       rw [hrs] at HP5
       clear hrs
       go_wp2_with (first
         | (refine wpList_loadS (by first | rfl | kernel_rfl) _ _ rfl w.heap.size rfl _ _ _ HRS3.out Tryz.underlying25 rfl (by kernel_rfl) ?_)
         | (go_at_call 8; refine (HP5.out w3 HS3.out).mono ?_; rintro e w4 ⟨rfl, hb4⟩; have HS4 := zh (HS3.out.trans (hb4.mono HS3.out.size)); have HAL4 := zh (HAL.out w4 HS4.out); clear hb4)
         | (go_at_call 10; refine HAL4.out.mono ?_; rintro e w5 ⟨rfl, hb5⟩; have HB5 := zh (HS4.out.trans (hb5.mono HS4.out.size)); clear hb5))
       exact HEND.out _ HB5.out
     | true =>
       rw [hrs] at HP5
       have HRT := zh hrs; clear hrs
       go_wp2_with (first
         | (refine wpList_loadS (by first | rfl | kernel_rfl) _ _ rfl w.heap.size rfl _ _ _ HRS3.out Tryz.underlying25 rfl (by kernel_rfl) ?_)
         | (go_at_call 8; refine (HP5.out w3 HS3.out).mono ?_; rintro e w4 ⟨rfl, hb4⟩; have HS4 := zh (HS3.out.trans (hb4.mono HS3.out.size)); have HRC4 := zh (CC.out w4 HS4.out); clear hb4)
         | (refine wpList_loadS (by first | rfl | kernel_rfl) _ _ rfl (w.heap.size + 1) rfl _ _ _ HRC4.out Tryz.underlying34 rfl HCI.out ?_))
       refine (HCR.out w4 HS4.out).mono ?_
       rintro e w5 ⟨⟨b, rfl, hnm⟩, hb5⟩
       have HS5 := zh (HS4.out.trans (hb5.mono HS4.out.size))
       clear hb5
       cases b with
       | false =>
         have HAL5 := zh (HAL.out w5 HS5.out)
         go_wp2_with (go_at_call 10; refine HAL5.out.mono ?_; rintro e w6 ⟨rfl, hb6⟩; have HB6 := zh (HS5.out.trans (hb6.mono HS5.out.size)); clear hb6)
         exact HEND.out _ HB6.out
       | true =>
         have HNM := zh (hnm rfl)
         have HRS5 := zh (CS.out w5 HS5.out)
         have HRC5 := zh (CC.out w5 HS5.out)
         have HAL5 := zh (HAL.out w5 HS5.out)
         obtain ⟨e0, _⟩ := cd_cells HRC5.out
         clear hnm HRS3 HRC4 HS3 HS4
         by_cases hlo : x.op < 1
         ·have q1 : decide (x.op < 1) = true := zE hlo
          clear hlo
          go_wp2_with (go_at_call 10; refine HAL5.out.mono ?_; rintro e w6 ⟨rfl, hb6⟩; have HB6 := zh (HS5.out.trans (hb6.mono HS5.out.size)); clear hb6)
          exact HEND.out _ HB6.out
         have q1 : decide (x.op < 1) = false := zF hlo
         by_cases hhi : 7 < x.op
         ·have q2 : decide (7 < x.op) = true := zE hhi
          clear hlo hhi
          go_wp2_with (go_at_call 10; refine HAL5.out.mono ?_; rintro e w6 ⟨rfl, hb6⟩; have HB6 := zh (HS5.out.trans (hb6.mono HS5.out.size)); clear hb6)
          exact HEND.out _ HB6.out
         have q2 : decide (7 < x.op) = false := zF hhi
         have HLO := zh hlo
         have HHI := zh hhi
         have HPF5 := zh (HP7.out w5 HS5.out)
         clear hlo hhi HP7
         by_cases hff : (faultF s x).1 = 0
         rotate_left 1
         ·generalize faultF s x = ff at *
          obtain ⟨fa, fb⟩ := ff
          have qf : (fa == 0) = false := by simpa using hff
          have qg : ¬ fa = 0 := hff
          clear hff
          simp only [ftv] at HPF5
          go_wp2_with (first
           | (refine wpList_loadS (by first | rfl | kernel_rfl) _ _ rfl w.heap.size rfl _ _ _ HRS5.out Tryz.underlying25 rfl (by kernel_rfl) ?_)
           | (refine wpList_loadS (by first | rfl | kernel_rfl) _ _ rfl (w.heap.size + 1) rfl _ _ _ HRC5.out Tryz.underlying34 rfl HCI.out ?_)
           | (go_at_call 13; refine HPF5.out.mono ?_; rintro e w6 ⟨rfl, hb6⟩; have HS6 := zh (HS5.out.trans (hb6.mono HS5.out.size)); have HAL6 := zh (HAL.out w6 HS6.out); clear hb6)
           | (go_at_call 10; refine HAL6.out.mono ?_; rintro e w7 ⟨rfl, hb7⟩; have HB7 := zh (HS6.out.trans (hb7.mono HS6.out.size)); clear hb7))
          exact HEND.out _ HB7.out
         have HF0 := zh hff
         rw [fault_zero hff] at HPF5
         simp only [ftv] at HPF5
         clear hff
         go_upto_region 3 with (first
          | (refine wpList_loadS (by first | rfl | kernel_rfl) _ _ rfl w.heap.size rfl _ _ _ HRS5.out Tryz.underlying25 rfl (by kernel_rfl) ?_)
          | (refine wpList_loadS (by first | rfl | kernel_rfl) _ _ rfl (w.heap.size + 1) rfl _ _ _ HRC5.out Tryz.underlying34 rfl HCI.out ?_)
          | (go_at_call 13; refine HPF5.out.mono ?_; rintro e w51 ⟨rfl, hb6⟩; have HS51 := zh (HS5.out.trans (hb6.mono HS5.out.size)); clear hb6))
         clear e0 HRS5 HRC5 HAL5 HPF5
         have HRS5 := zh (CS.out w51 HS51.out)
         have HRC5 := zh (CC.out w51 HS51.out)
         go_upto_region 4 with (first
           | (refine wpList_loadS (by rfl) _ _ rfl w.heap.size rfl _ _ _ HRS5.out Tryz.underlying25 rfl (by kernel_rfl) ?_)
           | (refine wpList_loadS (by rfl) _ _ rfl (w.heap.size + 1) rfl _ _ _ HRC5.out Tryz.underlying34 rfl HCI.out ?_)
           | (go_at_call 11; refine (HP3.out w51 HS51.out).mono ?_; rintro e w6 ⟨t, rfl, hscr, hb6⟩; have HR6 := zh hscr; have HS6 := zh (HS51.out.trans (hb6.mono HS51.out.size)); clear hb6 hscr)
           | (refine wpList_stRow (by rfl) _ _ _ rfl w6.heap.size (scv t) rfl rfl _ _ (RowAt.new _ _ _) (by kernel_rfl) rfl (by simp [scv, Value.oneCell']) ?_; intro w7 r7 he; have HRT7 := zh r7; have HB67 : Hid (Below w6.heap.size w6 w7) := zh (((zB _ _).alloc (zL _) _).trans (he.below (zL _))); clear r7 he))
         have HS7 := zh (HS6.out.trans (HB67.out.mono HS6.out.size))
         have HR7 := zh (HR6.out.below HB67.out)
         have HOT := zh (grown_ok HR7.out HOK.out HXO.out HL20.out HV80.out HW100.out HSMLx.out)
         have HGR := zh (grown_right HR7.out HRT.out HNM.out)
         have HTR : Hid (∀ W, Below w7.heap.size w7 W → Tab W) := zh fun W hW => HTf.out W (HS7.out.trans (hW.mono HS7.out.size))
         have CTW : Hid (∀ W, Below w7.heap.size w7 W → RowAt W w6.heap.size 25 (scv t)) := zh fun W hW => HRT7.out.below hW HRT7.out.lt
         have CSW : Hid (∀ W, Below w7.heap.size w7 W → RowAt W w.heap.size 25 (scv s)) := zh fun W hW => CS.out W (HS7.out.trans (hW.mono HS7.out.size))
         have CCW : Hid (∀ W, Below w7.heap.size w7 W → RowAt W (w.heap.size + 1) 34 (cdv x)) := zh fun W hW => CC.out W (HS7.out.trans (hW.mono HS7.out.size))
         have CT : Hid (∀ W, Below w7.heap.size w7 W → W.cell? ⟨w6.heap.size, 0, none⟩ = some (.slice t.LA t.ls.length t.lc) ∧ W.cell? ⟨w6.heap.size, 1, none⟩ = some (.slice t.VA t.vs.length t.vc)) := zh fun W hW => by
           obtain ⟨k0, k1, _, _⟩ := rw2 (CTW.out W hW)
           exact ⟨k0, k1⟩
         have CSc : Hid (∀ W, Below w7.heap.size w7 W → W.cell? ⟨w.heap.size, 0, none⟩ = some (.slice s.LA s.ls.length s.lc) ∧ W.cell? ⟨w.heap.size, 1, none⟩ = some (.slice s.VA s.vs.length s.vc)) := zh fun W hW => by
           obtain ⟨k0, k1, _, _⟩ := rw2 (CSW.out W hW)
           exact ⟨k0, k1⟩
         have CCc : Hid (∀ W, Below w7.heap.size w7 W → W.cell? ⟨w.heap.size + 1, 0, none⟩ = some (.int .i64 x.op) ∧ W.cell? ⟨w.heap.size + 1, 2, none⟩ = some (.string x.n.1) ∧ W.cell? ⟨w.heap.size + 1, 4, none⟩ = some (.slice x.A x.ws.length x.c)) := zh fun W hW => by
           obtain ⟨k0, _, k2, _, k4, _, _⟩ := cd_cells (CCW.out W hW)
           exact ⟨k0, k2, k4⟩
         have HPFI : Hid (∀ y W, Below w7.heap.size w7 W → Calls Tryz.prog 14 #[.agg (scv t), .string y] W fun e w' => e = .returned (.tuple #[.int .i64 (idx t.lnms y), .int .i64 (idx t.vnms y)]) ∧ Below W.heap.size W w') := zh fun y W hW => scFind_any t y W (HOT.out.below hW)
         have HPA : Hid (∀ W, Below w7.heap.size w7 W → Calls Tryz.prog 10 #[] W fun e w' => e = .returned (.bool true) ∧ Below W.heap.size W w') := zh fun W hW => HAL.out W (HS7.out.trans (hW.mono HS7.out.size))
         have HEND7 : Hid (∀ W, Below w7.heap.size w7 W → Q' (.returned (.bool true)) W) := zh fun W hW => HEND.out W (HS7.out.trans (hW.mono HS7.out.size))
         have HOK7 := zh (HOK.out.below HS7.out)
         have HXO7 := zh ((HXO.out.below HS7.out).mono HS7.out.size)
         clear HR6 HB67 HS6 HP3 HP5 HEND HAL HRS5 HRC5 HS5 HS51 CS CC HCR HRT7 HTf HOK HXO HIN HXN HNM HRT
         obtain ⟨g6, hg6⟩ : ∃ g, g = w6.heap.size := ⟨_, rfl⟩
         rw [← hg6] at CT CTW
         have hrt7 := CTW.out w7 (zB _ _)
         obtain ⟨a0, a2, _⟩ := CCc.out w7 (zB _ _)
         have hop7 : x.op ≤ 7 := by have := HHI.out; omega
         have hop1 : 1 ≤ x.op := by have := HLO.out; omega
         clear q1 q2 HLO HHI
         rw [← hg6]
         clear hg6
         by_cases hd : x.op ≤ 5
         ·have hdl : dLat x.op = true := zE ⟨hop1, hd⟩
          have hdv : dVar x.op = false := zF (by omega)
          obtain ⟨i1, i2, i3, i4, i5⟩ := lives_lat HR7.out HGR.out HF0.out hdl hdv
          have HFI7 := zh (HPFI.out x.n.1 w7 (zB _ _))
          rw [i1] at HFI7
          have hlt : s.ls.length < t.ls.length := by omega
          obtain ⟨bb, hbb, hb1, hb2⟩ := own_some HR7.out.lown (by omega)
          obtain ⟨b9, o9, hA9, hb9, hc9⟩ := (HOT.out.lats).at 3 (fun _ => rfl) (by omega) lat0 (i := s.ls.length) hlt
          have hrng := hc9 _ hlt
          rw [hA9] at CT
          have hsh := HOT.out.sh _ (getD_mem' (d := lat0) hlt)
          unfold lcore at i4
          simp only [Prod.mk.injEq] at i4
          obtain ⟨_, i6, i7⟩ := i4
          generalize t.ls.getD s.ls.length lat0 = tl at *
          obtain ⟨tnm, sh⟩ := tl
          have CR : ∀ W, Below w7.heap.size w7 W → W.rangeAt b9 (o9 + s.ls.length * 3 + 1) (shc sh) := fun W hW j u hu => by
           have hu2 : (latC (tnm, sh))[j + 1]? = some u := hu
           rw [show o9 + s.ls.length * 3 + 1 + j = o9 + s.ls.length * 3 + (j + 1) by omega]
           exact (hW.cell (p := ⟨b9, o9 + s.ls.length * 3 + (j + 1), none⟩) hb9).trans (hrng (j + 1) u hu2)
          have HPR : Hid (∀ W, Below w7.heap.size w7 W → Calls Tryz.prog 15 #[.agg (sv sh.t sh.A sh.fs.length sh.c)] W fun e w' => e = .returned (.bool true) ∧ Below W.heap.size W w') := zh fun W hW => by
           have h := sright_any sh.t sh.A sh.c sh.fs W (HTR.out W hW) (hsh.facs.below hW)
           rw [i5] at h; exact h
          have HPS : Hid (∀ W, Below w7.heap.size w7 W → Calls Tryz.prog 17 #[.agg (scv s), .agg (cdv x)] W fun e w' => ∃ A' c' gs, e = .returned (.agg (sv (shT x.op) A' gs.length c')) ∧ w'.ownsRow W.heap.size 100 67 (.slice A' gs.length c') gs.length (fscells gs) ∧ (∀ g ∈ gs, FacO w' W.heap.size g) ∧ gs.map core = (shF s x).map core ∧ Below W.heap.size W w') := zh fun W hW => sshape_any s x W (HOK7.out.below hW) ((HXO7.out.below hW).mono hW.size) fun _ => HSU.out
          have HPE : Hid (∀ A' c' gs W, Below w7.heap.size w7 W → Facs W A' gs → gs.map core = (shF s x).map core → Calls Tryz.prog 16 #[.agg (sv sh.t sh.A sh.fs.length sh.c), .agg (sv (shT x.op) A' gs.length c')] W fun e w' => e = .returned (.bool true) ∧ Below W.heap.size W w') := zh fun A' c' gs W hW hG hc => by
           have h := ssameS_any sh.t (shT x.op) sh.A A' sh.c c' sh.fs gs W (hsh.facs.below hW) hG (fun f hf => zM (hsh.names f hf) (by omega)) (zM hsh.few (by omega))
           rw [i6, sameS_core (i7.trans hc.symm)] at h
           rw [i6]; exact h
          have q5 : decide (x.op ≤ 5) = true := zE hd
          have hvl := i3
          clear i1 i2 i3 i5 i6 i7 hsh hrng hc9 hbb hb1 hb2 hd hdl hdv hop1 hop7 HPFI HOT HGR HR7 HF0 HSU HSMLx HL20 HV80 HW100 HXO7 HOK7
          have C3v : ∀ W, Below w7.heap.size w7 W → W.cell? ⟨g6, 1, none⟩ = some (.slice t.VA t.vs.length t.vc) := fun W hW => (CT.out W hW).2
          rw [hvl] at C3v
          have CTa : Hid (∀ W, Below w7.heap.size w7 W → W.cell? ⟨g6, 0, none⟩ = some (.slice (some ⟨b9, o9, none⟩) t.ls.length t.lc)) := zh fun W hW => (CT.out W hW).1
          have CTv := zh C3v
          clear C3v hvl hA9 CT
          generalize s.ls.length = sn at *
          generalize t.ls.length = tn at *
          generalize s.vs.length = vn at *
          go_upto_region 6 with (first
           | (refine wpList_loadS (by rfl) _ _ rfl g6 rfl _ _ _ hrt7 Tryz.underlying25 rfl (by kernel_rfl) ?_)
           | (go_at_call 14; refine HFI7.out.mono ?_; rintro e w8 ⟨rfl, hb8⟩; obtain ⟨f0, _, _⟩ := CCc.out w8 hb8; have HS8 := zh hb8; clear hb8))
          clear a0 a2 f0 hrt7
          have HSv0 : Hid (Below w7.heap.size w7 w8.drew) := zh HS8.out.drew
          clear HS8
          have hki : (sn : Int) < (tn : Int) := by omega
          have C0 : ∀ W, Below w7.heap.size w7 W → W.cell? ⟨g6, 0, none⟩ = some (.slice (some ⟨b9, o9, none⟩) tn t.lc) := CTa.out
          have C1 : ∀ W, Below w7.heap.size w7 W → W.cell? ⟨g6, 1, none⟩ = some (.slice t.VA vn t.vc) := CTv.out
          have C2 : ∀ W, Below w7.heap.size w7 W → W.cell? ⟨w.heap.size, 0, none⟩ = some (.slice s.LA sn s.lc) := fun W hW => (CSc.out W hW).1
          have C3 : ∀ W, Below w7.heap.size w7 W → W.cell? ⟨w.heap.size, 1, none⟩ = some (.slice s.VA vn s.vc) := fun W hW => (CSc.out W hW).2
          have CSr : ∀ W, Below w7.heap.size w7 W → RowAt W w.heap.size 25 (scv s) := CSW.out
          have CCr : ∀ W, Below w7.heap.size w7 W → RowAt W (w.heap.size + 1) 34 (cdv x) := CCW.out
          refine wp_region_ou (fun W => Below w7.heap.size w7 W) ((.take 0 (.take 1 (.take 2 (.take 3 (.take 4 (.take 5 (.take 6 (.take 7 (.take 8 (.take 9 (.take 10 (.take 11 (.solo 12 (.take 13 (.take 14 (.take 15 (.take 16 (.take 17 (.take 18 (.take 19 (.take 20 (.take 21 (.take 22 (.solo 23 (.solo 24 (.take 25 (.take 26 (.take 27 (.take 28 (.take 29 (.take 30 (.take 31 (.take 32 (.take 33 (.take 34 (.take 35 (.solo 36 (.take 37 (.take 38 .nil)))))))))))))))))))))))))))))))))))))))) (by kernel_rfl) (by kernel_rfl) rfl (by kernel_rfl) HSv0.out ?_
          generalize w8.drew = v0 at HSv0 ⊢
          iterate 12
           (refine wpOU_step (zO rfl) ?_)
           (first
            | (refine wpOU_skip (by rfl) ?_)
            | (refine wpOU_take (by rfl) (take_ldIn _ _ rfl b9 (o9 + sn * 3 + 1) rfl _ _ CR Tryz.underlying49 rfl (by kernel_rfl)) ?_)
            | (refine wpOU_take (by rfl) (take_row _ _ rfl w.heap.size rfl _ _ _ CSr Tryz.underlying25 rfl (by kernel_rfl)) ?_)
            | (refine wpOU_take (by rfl) (take_row _ _ rfl (w.heap.size + 1) rfl _ _ _ CCr Tryz.underlying34 rfl HCI.out) ?_)
            | (refine wpOU_take (v := ?_) (by rfl) ?_ ?_; rotate_left 1; (intro wx hSx; have hc_0 := C0 wx hSx; have hc_1 := C1 wx hSx; have hc_2 := C2 wx hSx; have hc_3 := C3 wx hSx; go_simp; try with_reducible rfl)))
           (try simp only [Act.put, zA4, zA5, zA6])
          (refine wpOU_solo (zO rfl) ?_)
          intro K hK
          go_simp
          go_at_call 15
          refine (HPR.out v0 HSv0.out).mono ?_
          rintro e v1 ⟨rfl, hb⟩
          have HSv1 : Hid (Below w7.heap.size w7 v1) := zh (HSv0.out.trans (hb.mono HSv0.out.size))
          clear hb
          refine hK.out _ _ HSv1.out ?_
          clear hK K
          (try simp only [Act.put, zA4, zA5, zA6])
          iterate 10
           (refine wpOU_step (zO rfl) ?_)
           (first
            | (refine wpOU_skip (by rfl) ?_)
            | (refine wpOU_take (by rfl) (take_ldIn _ _ rfl b9 (o9 + sn * 3 + 1) rfl _ _ CR Tryz.underlying49 rfl (by kernel_rfl)) ?_)
            | (refine wpOU_take (by rfl) (take_row _ _ rfl w.heap.size rfl _ _ _ CSr Tryz.underlying25 rfl (by kernel_rfl)) ?_)
            | (refine wpOU_take (by rfl) (take_row _ _ rfl (w.heap.size + 1) rfl _ _ _ CCr Tryz.underlying34 rfl HCI.out) ?_)
            | (refine wpOU_take (v := ?_) (by rfl) ?_ ?_; rotate_left 1; (intro wx hSx; have hc_0 := C0 wx hSx; have hc_1 := C1 wx hSx; have hc_2 := C2 wx hSx; have hc_3 := C3 wx hSx; go_simp; try with_reducible rfl)))
           (try simp only [Act.put, zA4, zA5, zA6])
          (refine wpOU_solo (zO rfl) ?_)
          intro K hK
          go_simp
          go_at_call 17
          refine (HPS.out v1 HSv1.out).mono ?_
          rintro e v2 ⟨A1, c1, gs, rfl, hown, hfo, hcr, hb⟩
          have HSv2 : Hid (Below w7.heap.size w7 v2) := zh (HSv1.out.trans (hb.mono HSv1.out.size))
          have HFG : Hid (Facs v2 A1 gs) := zh ⟨Sl.of_own hown, fun g hg => (hfo g hg).ok⟩
          have HCG := zh hcr
          clear hown hfo hcr
          clear hb
          refine hK.out _ _ HSv2.out ?_
          clear hK K
          (try simp only [Act.put, zA4, zA5, zA6])
          (refine wpOU_solo (zO rfl) ?_)
          intro K hK
          go_simp
          go_at_call 16
          refine (HPE.out A1 c1 gs v2 HSv2.out HFG.out HCG.out).mono ?_
          rintro e v3 ⟨rfl, hb⟩
          have HSv3 : Hid (Below w7.heap.size w7 v3) := zh (HSv2.out.trans (hb.mono HSv2.out.size))
          clear hb
          refine hK.out _ _ HSv3.out ?_
          clear hK K
          (try simp only [Act.put, zA4, zA5, zA6])
          iterate 11
           (refine wpOU_step (zO rfl) ?_)
           (first
            | (refine wpOU_skip (by rfl) ?_)
            | (refine wpOU_take (by rfl) (take_ldIn _ _ rfl b9 (o9 + sn * 3 + 1) rfl _ _ CR Tryz.underlying49 rfl (by kernel_rfl)) ?_)
            | (refine wpOU_take (by rfl) (take_row _ _ rfl w.heap.size rfl _ _ _ CSr Tryz.underlying25 rfl (by kernel_rfl)) ?_)
            | (refine wpOU_take (by rfl) (take_row _ _ rfl (w.heap.size + 1) rfl _ _ _ CCr Tryz.underlying34 rfl HCI.out) ?_)
            | (refine wpOU_take (v := ?_) (by rfl) ?_ ?_; rotate_left 1; (intro wx hSx; have hc_0 := C0 wx hSx; have hc_1 := C1 wx hSx; have hc_2 := C2 wx hSx; have hc_3 := C3 wx hSx; go_simp; try with_reducible rfl)))
           (try simp only [Act.put, zA4, zA5, zA6])
          (refine wpOU_solo (zO rfl) ?_)
          intro K hK
          go_simp
          go_at_call 10
          refine (HPA.out v3 HSv3.out).mono ?_
          rintro e v4 ⟨rfl, hb⟩
          have HSv4 : Hid (Below w7.heap.size w7 v4) := zh (HSv3.out.trans (hb.mono HSv3.out.size))
          clear hb
          refine hK.out _ _ HSv4.out ?_
          clear hK K
          (try simp only [Act.put, zA4, zA5, zA6])
          iterate 2
           (refine wpOU_step (zO rfl) ?_)
           (first
            | (refine wpOU_skip (by rfl) ?_)
            | (refine wpOU_take (by rfl) (take_ldIn _ _ rfl b9 (o9 + sn * 3 + 1) rfl _ _ CR Tryz.underlying49 rfl (by kernel_rfl)) ?_)
            | (refine wpOU_take (by rfl) (take_row _ _ rfl w.heap.size rfl _ _ _ CSr Tryz.underlying25 rfl (by kernel_rfl)) ?_)
            | (refine wpOU_take (by rfl) (take_row _ _ rfl (w.heap.size + 1) rfl _ _ _ CCr Tryz.underlying34 rfl HCI.out) ?_)
            | (refine wpOU_take (v := ?_) (by rfl) ?_ ?_; rotate_left 1; (intro wx hSx; have hc_0 := C0 wx hSx; have hc_1 := C1 wx hSx; have hc_2 := C2 wx hSx; have hc_3 := C3 wx hSx; go_simp; try with_reducible rfl)))
           (try simp only [Act.put, zA4, zA5, zA6])
          refine wpOU_done ?_
          go_wp2_with fail
          exact HEND7.out _ HSv4.out
         ·have hdl : dLat x.op = false := zF (by omega)
          have hdv : dVar x.op = true := zE (by omega)
          obtain ⟨i1, i2, i3, i4⟩ := lives_var HR7.out HGR.out HF0.out hdl hdv
          have HFI7 := zh (HPFI.out x.n.1 w7 (zB _ _))
          rw [i1] at HFI7
          have q5 : decide (x.op ≤ 5) = false := zF hd
          have hop : x.op = 6 ∧ kindN x.op = 1 ∨ x.op = 7 ∧ kindN x.op = 2 := by
           have h67 : x.op = 6 ∨ x.op = 7 := by omega
           rcases h67 with e | e <;> rw [e]
           ·exact .inl ⟨rfl, rfl⟩
           ·exact .inr ⟨rfl, rfl⟩
          have hvmax : s.vs.length ≤ 80 := HV80.out
          have hwmax : x.ws.length ≤ 100 := HW100.out
          have HI4 := zh i4
          have HOP := zh hop
          rw [i2] at CT
          rw [i3] at CT
          have HTV : Hid (t.vs.length = s.vs.length + x.ws.length) := zh i3
          clear i1 i2 i3 i4 hop hd hdl hdv hop1 hop7 HGR HR7 HF0 HSU HSMLx HL20 HV80 HW100 HOK7 HTR
          obtain ⟨kk, hkk⟩ : ∃ z, z = idx s.lnms x.n.1 := ⟨_, rfl⟩
          obtain ⟨kd, hkd⟩ : ∃ z, z = kindN x.op := ⟨_, rfl⟩
          obtain ⟨op, hop⟩ : ∃ z, z = x.op := ⟨_, rfl⟩
          rw [← hkk] at HFI7 HI4
          rw [← hkd] at HI4 HOP
          rw [← hop] at HOP CCc q5 a0
          clear hkk hkd hop
          generalize hsn : s.ls.length = sn at *
          generalize hvn : s.vs.length = vn at *
          generalize hn : x.ws.length = n at *
          have HN := zh hn
          clear hsn hvn hn
          go_upto_region 7 with (first
           | (refine wpList_loadS (by rfl) _ _ rfl g6 rfl _ _ _ hrt7 Tryz.underlying25 rfl (by kernel_rfl) ?_)
           | (go_at_call 14; refine HFI7.out.mono ?_; rintro e w8 ⟨rfl, hb8⟩; obtain ⟨f0, _, f4⟩ := CCc.out w8 hb8; have HS8 := zh hb8; clear hb8))
          go_upto_region 8 with fail
          clear a0 a2 f0 f4 hrt7 q5
          go_loopw [8, 10, 11, 101] (fun _ _ _ kv wr => ∃ k : Nat, k ≤ n ∧ kv = .int .i64 k ∧ Hid (Below w7.heap.size w7 wr)) (fun _ _ _ kv _ => n - (intOf kv).toNat)
          case atStart => exact ⟨0, by omega, rfl, HS8⟩
          case round =>
           clear HS8
           obtain ⟨k, hk, rfl, HW⟩ := hrel
           by_cases hlt : k < n
           ·obtain ⟨b1, o1, hA, p0, p1⟩ := word_at (HXO7.out.below (HW.out.mono (zL _))) HW.out.size (k := k) (by rw [HN.out]; exact hlt)
            obtain ⟨hi1, hi2⟩ := HI4.out k hlt
            obtain ⟨b2, o2, hV, hb2, hc2⟩ := (HOT.out.vars).at 3 (fun _ => rfl) (by omega) var0 (i := vn + k) (by rw [HTV.out]; omega)
            have hrv := hc2 (vn + k) (by rw [HTV.out]; omega)
            rw [hi2] at hrv
            obtain ⟨vk, hvk⟩ : ∃ z, z = vn + k := ⟨_, rfl⟩
            rw [← hvk] at hi1 hrv
            have HVK : Hid (vk = vn + k) := zh hvk
            have hlt2 : (vk : Int) < (vn : Int) + (n : Int) := by omega
            clear hvk hi2
            have HFk := zh (HPFI.out (x.ws.getD k wd0).1)
            rw [hi1] at HFk
            have HA := zh hA; clear hA
            have HV := zh hV; clear hV
            have hx4 := (CCc.out wr HW.out).2.2
            have hsz := HW.out.size
            have hbw : Below w7.heap.size w7 (wr.alloc (.cells #[.string (x.ws.getD k wd0).1, .int .i64 (x.ws.getD k wd0).2] 27)) := HW.out.trans (((zB _ _).alloc (zL _) _).mono hsz)
            have hwd := RowAt.new wr 27 #[.string (x.ws.getD k wd0).1, .int .i64 (x.ws.getD k wd0).2]
            have hxa : x.A = some ⟨b1, o1, none⟩ := HA.out
            clear hi1 hc2
            generalize (x.ws.getD k wd0).1 = s1 at *
            generalize (x.ws.getD k wd0).2 = f1 at *
            rw [hxa]
            clear hxa hx4
            go_upto_region 10 with fail
            change Code.wp _ _ _ _ (wr.alloc (.cells #[.string s1, .int .i64 f1] 27))
            obtain ⟨j0, _, _, _⟩ := rw2 hwd
            have HBW := zh hbw
            clear p0 p1 hbw hwd
            generalize hgx : wr.heap.size = gx at *
            generalize wr.alloc (.cells #[.string s1, .int .i64 f1] 27) = wc at *
            have hrtc := CTW.out wc HBW.out
            go_upto_region 11 with (first
             | (refine wpList_loadS (by rfl) _ _ rfl g6 rfl _ _ _ hrtc Tryz.underlying25 rfl (by kernel_rfl) ?_)
             | (go_at_call 14; refine (HFk.out wc HBW.out).mono ?_; rintro e w9 ⟨rfl, hb9⟩; have HS9 := zh (HBW.out.trans (hb9.mono HBW.out.size)); clear hb9))
            clear j0 hrtc
            have HSv0 : Hid (Below w7.heap.size w7 w9.drew) := zh HS9.out.drew
            have C0 : ∀ W, Below w7.heap.size w7 W → W.cell? ⟨g6, 1, none⟩ = some (.slice (some ⟨b2, o2, none⟩) (vn + n) t.vc) := fun W hW => by have := (CT.out W hW).2; rw [HV.out] at this; exact this
            have C1 : ∀ W, Below w7.heap.size w7 W → W.cell? ⟨w.heap.size, 1, none⟩ = some (.slice s.VA vn s.vc) := fun W hW => (CSc.out W hW).2
            have C2 : ∀ W, Below w7.heap.size w7 W → W.cell? ⟨b2, o2 + vk * 3 + 1, none⟩ = some (.int .i64 kd) := fun W hW => (hW.cell (p := ⟨b2, o2 + vk * 3 + 1, none⟩) hb2).trans (hrv 1 _ rfl)
            have C3 : ∀ W, Below w7.heap.size w7 W → W.cell? ⟨b2, o2 + vk * 3 + 2, none⟩ = some (.int .i64 kk) := fun W hW => (hW.cell (p := ⟨b2, o2 + vk * 3 + 2, none⟩) hb2).trans (hrv 2 _ rfl)
            have C4 : ∀ W, Below w7.heap.size w7 W → W.cell? ⟨w.heap.size + 1, 0, none⟩ = some (.int .i64 op) := fun W hW => (CCc.out W hW).1
            have C5 : ∀ W, Below w7.heap.size w7 W → IntKind.i64.wrap ((vn : Int) + (k : Int)) = (vk : Int) := fun W hW => by
             have h9 := HVK.out
             rw [IntWalk.i64_in _ ⟨by omega, by omega⟩]; omega
            clear hrv hb2
            rcases HOP.out with ⟨rfl, rfl⟩ | ⟨rfl, rfl⟩
            all_goals
             refine wp_region_ou (fun W => Below w7.heap.size w7 W) ((.take 0 (.take 1 (.take 2 (.take 3 (.take 4 (.take 5 (.take 6 (.take 7 (.take 8 (.take 9 (.take 10 (.take 11 (.take 12 (.take 13 (.take 14 (.take 15 (.take 16 (.take 17 (.take 18 (.take 19 (.take 20 (.take 21 (.take 22 (.take 23 (.take 24 (.take 25 (.take 26 (.take 27 (.take 28 (.take 29 .nil))))))))))))))))))))))))))))))) (by kernel_rfl) (by kernel_rfl) rfl (by kernel_rfl) HSv0.out ?_
             generalize w9.drew = v0 at HSv0 ⊢
             iterate 30
              (refine wpOU_step (zO rfl) ?_)
              (first
                    | (refine wpOU_skip (by rfl) ?_)
                    | (refine wpOU_take (v := ?_) (by rfl) ?_ ?_; rotate_left 1; (intro wx hSx; have hc_0 := C0 wx hSx; have hc_1 := C1 wx hSx; have hc_2 := C2 wx hSx; have hc_3 := C3 wx hSx; have hc_4 := C4 wx hSx; have hc_5 := C5 wx hSx; go_simp; try with_reducible rfl)))
              (try simp only [Act.put, zA4, zA5, zA6])
             refine wpOU_done ?_
             go_wp2_with fail
             go_roundw
             case rel => exact ⟨k + 1, by omega, by go_num, HSv0⟩
             case measure => simp [intOf]; omega
           ·obtain rfl : k = n := by omega
            have c0 := (CT.out wr HW.out).1
            have d0 := (CSc.out wr HW.out).1
            go_wp2_with (go_at_call 10; refine (HPA.out wr HW.out).mono ?_; rintro e w9 ⟨rfl, hb9⟩; have HS9 := zh (HW.out.trans (hb9.mono HW.out.size)); clear hb9)
            exact HEND7.out _ HS9.out
end
end Go.Proofs.YteachpfpcceamaaGreatDoor
