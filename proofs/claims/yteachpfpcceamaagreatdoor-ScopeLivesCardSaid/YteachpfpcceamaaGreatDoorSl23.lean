/- Texts that all the claims need. Conditions: those that each states. -/

import Derived.Test.YteachpfpcceamaaGreatDoorSl16
import Derived.Test.YteachpfpcceamaaGreatDoorSl22
set_option linter.unusedSimpArgs false
set_option linter.unusedVariables false
set_option maxRecDepth 100000
set_option maxHeartbeats 40000000
namespace Go.Proofs.YteachpfpcceamaaGreatDoor
section
open Go.RowKit RM
theorem fault_any (s : Sc) (x : Cd) (w : World) (hT : Tab w) (h : ScOk w s) (hx : CdOk w w.heap.size x) :
 Calls Tryz.prog 13 #[.agg (scv s), .agg (cdv x)] w fun e w' => e = .returned (.agg (ftv (faultF s x))) ∧ Below w.heap.size w w' := by
 obtain ⟨r0, q0, z0, hb⟩ := three_rows w (scv s) (cdv x) (ftv (0, 0)) 25 34 41
 refine cHid fun Q' hQ => ?_
 have HQ := zh hQ; clear hQ
 go_enter Tryz.func13, Tryz.ntmps13
 go_upto_region 1 with fail
 change Code.wp _ _ _ _ (((w.alloc (.cells (scv s) 25)).alloc (.cells (cdv x) 34)).alloc (.cells (ftv (0, 0)) 41))
 generalize ((w.alloc (.cells (scv s) 25)).alloc (.cells (cdv x) 34)).alloc (.cells (ftv (0, 0)) 41) = w1 at *
 have HOK := zh (h.below hb)
 have HX := zh (hx.below hb)
 have HT : Hid (Tab w1) := zh (hT.below hb)
 have HRS := zh r0
 have HRC := zh q0
 have HRZ := zh z0
 have HB := zh hb
 have hz := z0.lt
 obtain ⟨d0, d1, d2, d3, d4, d5, d6⟩ := cd_cells q0
 have HDL := zh (declLat_any x.op w1)
 have HDV := zh (declVars_any x.op w1)
 have HF : Hid (faultF s x = if (dLat x.op || dVar x.op) = true then lstF (nameF (idx s.lnms) (idx s.vnms) x ++ namesF (idx s.lnms) (idx s.vnms) x ++ pairsF x ++ ordF x ++ limF s x) else (0, 0)) := zh rfl
 clear r0 q0 z0 hb
 by_cases hdd : (dLat x.op || dVar x.op) = true
 ·have hf : faultF s x = lstF (nameF (idx s.lnms) (idx s.vnms) x ++ namesF (idx s.lnms) (idx s.vnms) x ++ pairsF x ++ ordF x ++ limF s x) := HF.out.trans (if_pos hdd)
  rw [hf] at HQ
  clear HF hf
  generalize hLST : lstF (nameF (idx s.lnms) (idx s.vnms) x ++ namesF (idx s.lnms) (idx s.vnms) x ++ pairsF x ++ ordF x ++ limF s x) = LST at *
  have HLST := zh hLST.symm; clear hLST
  have HOKf : Hid (∀ W, Below w.heap.size w W → ScOk W s) := zh fun W hW => h.below hW
  have HXf : Hid (∀ W, Below w.heap.size w W → CdOk W w.heap.size x) := zh fun W hW => hx.below hW
  have HTf : Hid (∀ W, Below w.heap.size w W → Tab W) := zh fun W hW => hT.below hW
  have HNN : Hid (∀ k, (Value.slice none 0 0).ownBlock ≠ some k) := zh fun k e => by cases e
  have HLE : Hid ((nameF (idx s.lnms) (idx s.vnms) x).length ≤ 1 ∧ (namesF (idx s.lnms) (idx s.vnms) x).length ≤ 65536 ∧ (pairsF x).length ≤ 131072) := zh ⟨nameF_len _ _ _, zM (namesK_len _ _ _ _) hx.wfew, zM (pairsK_len _ _) (by have := hx.pfew; omega)⟩
  have hwf := hx.wfew
  have hci : (Tryz.prog.info? 34).map (·.size) = some (cdv x).size := cdinfo hx
  have HCI := zh hci
  clear hci hT h hx HOK HX HT d1 d2 d3 d4 d5 d6
  generalize hfL : idx s.lnms = fL at *
  generalize hfV : idx s.vnms = fV at *
  have HFLe := zh hfL; clear hfL
  have HFVe := zh hfV; clear hfV
  have HRp2 : Hid (Rp (w1.alloc (.cells #[.slice none 0 0] 81)) w1.heap.size (w1.heap.size + 1) [] (.slice none 0 0)) := zh ⟨Box.new w1 _ _, World.ownsRow_nil _ _ _ _, by omega, by simp⟩
  have hb2 : Below w1.heap.size w1 (w1.alloc (.cells #[.slice none 0 0] 81)) := (zB _ _).alloc (zL _) _
  have HRS2 := zh (HRS.out.below hb2 HRS.out.lt)
  have HRC2 := zh (HRC.out.below hb2 HRC.out.lt)
  have HRZ2 := zh (HRZ.out.below hb2 HRZ.out.lt)
  have HB2 : Hid (Below w.heap.size w (w1.alloc (.cells #[.slice none 0 0] 81))) := zh (HB.out.trans (hb2.mono (by omega)))
  clear hb2
  cases hdl : dLat x.op
  all_goals
   rw [hdl] at HDL hdd
   try (have hdv : dVar x.op = true := by simpa using hdd)
   try rw [hdv] at HDV
   clear hdd
   go_upto_region 5 with (first
        | (go_at_call 40; refine HDL.out.mono ?_; rintro e w2 ⟨rfl, rfl⟩)
        | (go_at_call 41; refine HDV.out.mono ?_; rintro e w2 ⟨rfl, rfl⟩))
   change Code.wp _ _ _ _ (w1.alloc (.cells #[.slice none 0 0] 81))
   clear d0
   have hg2 : w1.heap.size < (w1.alloc (.cells #[.slice none 0 0] 81)).heap.size := by simp
   generalize w1.alloc (.cells #[.slice none 0 0] 81) = w2 at *
   generalize hg : w1.heap.size = g at *
   have HG0 : Hid (w.heap.size + 1 + 1 < g) := zh (by omega)
   have HLI := zh (liveIn_any s w2 (HOKf.out _ HB2.out))
   rw [HFLe.out, HFVe.out] at HLI
   go_upto_region 6 with (first
        | (refine wpList_loadS (by rfl) _ _ rfl w.heap.size rfl _ _ _ HRS2.out Tryz.underlying25 rfl (by kernel_rfl) ?_)
        | (go_at_call 45; refine HLI.out.mono ?_; rintro e w3 ⟨B1, B2, rfl, hB1, hB2, hlv, hb3⟩; have HB3 := zh hb3; have HLV3 := zh hlv; have HB1g := zh hB1; have HB2g := zh hB2; clear hb3 hlv hB1 hB2)
        | (refine wpList_stRow (by rfl) _ _ _ rfl w3.heap.size (lvv B1 B2) rfl rfl _ _ (RowAt.new _ _ _) (by kernel_rfl) rfl (by simp [lvv, Value.oneCell']) ?_; intro w4 r4 he; have HRL4 := zh r4; have HB34 : Hid (Below w3.heap.size w3 w4) := zh (((zB _ _).alloc (zL _) _).trans (he.below (zL _))); clear r4 he))
   have h24 : Below w2.heap.size w2 w4 := HB3.out.trans (HB34.out.mono HB3.out.size)
   have HRP4 := zh (HRp2.out.below h24)
   have HLV4 := zh (HLV3.out.below HB34.out)
   have HRS4 := zh (HRS2.out.below h24 HRS2.out.lt)
   have HRC4 := zh (HRC2.out.below h24 HRC2.out.lt)
   have HRZ4 := zh (HRZ2.out.below h24 HRZ2.out.lt)
   have HB4 := zh (HB2.out.trans (h24.mono HB2.out.size))
   have hgs : g < w3.heap.size := by have := HB3.out.size; omega
   have hgs4 : g < w4.heap.size := HRP4.out.box.lt
   generalize hg7 : w3.heap.size = g7 at *
   clear HRp2 HLV3 HRS2 HRC2 HRZ2 HB2 h24 HLI HB3 HB34 hg7
   have HXa := zh (HXf.out _ HB4.out)
   go_upto_region 7 with (first
        | (refine wpList_loadS (by rfl) _ _ rfl g7 rfl _ _ _ HRL4.out Tryz.underlying85 rfl (by kernel_rfl) ?_)
        | (refine wpList_loadS (by rfl) _ _ rfl (w.heap.size + 1) rfl _ _ _ HRC4.out Tryz.underlying34 rfl HCI.out ?_)
        | (go_at_call 46; refine (checkName_any fL fV B1 B2 x w.heap.size w4 g (g + 1) [] _ HLV4.out HXa.out HRP4.out (by simp)).mono ?_; rintro e w5 ⟨v5, rfl, hr5, hu5⟩; have HR5 := zh hr5; have HU5 := zh hu5; clear hr5 hu5))
   rw [List.nil_append] at HR5
   have hBl := HLV4.out.lt
   have hb1 : B1 ≠ g := by have := HB1g.out; omega
   have hb2 : B2 ≠ g := by have := HB2g.out; omega
   have HLV5 := zh (HLV4.out.up HU5.out ⟨hb1, HNN.out _⟩ ⟨hb2, HNN.out _⟩)
   have HRL5 := zh (HRL4.out.up HU5.out (by omega) (HNN.out _))
   have HRC5 := zh (HRC4.out.up HU5.out (by have := HG0.out; omega) (HNN.out _))
   have HX5 := zh (HXf.out _ (HB4.out.trans (HU5.out.low.mono (by have := HG0.out; omega))))
   go_upto_region 8 with (first
        | (refine wpList_loadS (by rfl) _ _ rfl g7 rfl _ _ _ HRL5.out Tryz.underlying85 rfl (by kernel_rfl) ?_)
        | (refine wpList_loadS (by rfl) _ _ rfl (w.heap.size + 1) rfl _ _ _ HRC5.out Tryz.underlying34 rfl HCI.out ?_)
        | (go_at_call 47; refine (checkNames_any fL fV B1 B2 x w.heap.size w5 g (g + 1) _ _ HLV5.out HX5.out (by have := HG0.out; omega) HR5.out (by have := HLE.out.1; omega) ⟨hb1, HU5.out.ne hBl.1 (HNN.out _)⟩ ⟨hb2, HU5.out.ne hBl.2 (HNN.out _)⟩).mono ?_; rintro e w6 ⟨v6, rfl, hr6, hu6⟩; have HR6 := zh hr6; have HU6 := zh (HU5.out.trans hu6); clear hr6 hu6))
   have HRC6 := zh (HRC4.out.up HU6.out (by have := HG0.out; omega) (HNN.out _))
   have HX6 := zh (HXf.out _ (HB4.out.trans (HU6.out.low.mono (by have := HG0.out; omega))))
   clear HRL5 HRC5 HX5 HLV5 HR5 HU5 HRL4 HLV4 HRP4 HXa
   go_upto_region 9 with (first
        | (refine wpList_loadS (by rfl) _ _ rfl (w.heap.size + 1) rfl _ _ _ HRC6.out Tryz.underlying34 rfl HCI.out ?_)
        | (go_at_call 48; refine (checkPairs_any x w.heap.size w6 g (g + 1) _ _ HX6.out (by have := HG0.out; omega) HR6.out (by have := HLE.out; simp only [zA7]; omega)).mono ?_; rintro e w7 ⟨v7, rfl, hr7, hu7⟩; have HR7 := zh hr7; have HU7 := zh (HU6.out.trans hu7); clear hr7 hu7))
   have HRC7 := zh (HRC4.out.up HU7.out (by have := HG0.out; omega) (HNN.out _))
   have HRS7 := zh (HRS4.out.up HU7.out (by have := HG0.out; omega) (HNN.out _))
   have HRZ7 := zh (HRZ4.out.up HU7.out (by have := HG0.out; omega) (HNN.out _))
   have HB7 := zh (HB4.out.trans (HU7.out.low.mono (by have := HG0.out; omega)))
   have hg7w : g < w7.heap.size := HR7.out.box.lt
   clear HRC6 HX6 HR6 HU6
   have HL7 : Hid ((nameF fL fV x ++ namesF fL fV x ++ pairsF x).length ≤ 196700) := zh (by have := HLE.out; simp only [zA7]; omega)
   generalize nameF fL fV x ++ namesF fL fV x ++ pairsF x = L7 at *
   obtain ⟨e0, e1, _, _, e4, _, e6⟩ := cd_cells HRC7.out
   have HOB : Hid (ordF x = if (decide (x.op = 5) && (decide (x.ws.length ≤ 64) && !latB ((pts (x.ws.length : Nat) : Nat) : Int) (relF x))) = true then [(5, x.pp)] else []) := zh rfl
   obtain ⟨ob, hob⟩ : ∃ ob : Bool, ob = (decide (x.op = 5) && (decide (x.ws.length ≤ 64) && !latB ((pts (x.ws.length : Nat) : Nat) : Int) (relF x))) := ⟨_, rfl⟩
   rw [← hob] at HOB
   have HOBd := zh hob; clear hob
   go_cut [47] from 33 to 47 (fun cv wx => cv = .bool ob ∧ Hid (Below w7.heap.size w7 wx))
   case first =>
        have HX7 := zh (HXf.out _ HB7.out)
        by_cases h5 : x.op = 5
        ·have q5 : (x.op == 5) = true := by simp [h5]
         have hob := HOBd.out
         rw [zE h5, Bool.true_and] at hob
         have H5 := zh h5; clear h5
         by_cases h64 : x.ws.length ≤ 64
         ·rw [zE h64, Bool.true_and] at hob
          have HRLn := zh (relation_any x w7 (HX7.out.mono (by have := HB7.out.size; omega)))
          have HTW := zh (HTf.out _ HB7.out)
          have HLT9 := zh fun W (hW : Below w7.heap.size w7 W) => hlattice_any ((pts (x.ws.length : Nat) : Nat) : Int) (relF x) (relF_rw x) W (HTW.out.below hW)
          generalize latB ((pts (x.ws.length : Nat) : Nat) : Int) (relF x) = lb at *
          generalize rv ((pts (x.ws.length : Nat) : Nat) : Int) (relF x) = rvv at *
          have HOX := zh hob; clear hob
          generalize x.ws.length = wn at *
          have h64i : (wn : Int) ≤ 64 := by omega
          have q64 : decide ((wn : Int) ≤ 64) = true := zE h64i
          go_wp2_with (first
            | (refine wpList_loadS (by first | rfl | kernel_rfl | (simp only [Region.wanted, yielded]; simp)) _ _ rfl (w.heap.size + 1) rfl _ _ _ HRC7.out Tryz.underlying34 rfl HCI.out ?_)
            | (go_at_call 50; refine HRLn.out.mono ?_; rintro e wa ⟨rfl, hba⟩; have HLTa := zh (HLT9.out wa hba); have HBa := zh hba; clear hba)
            | (go_at_call 49; refine HLTa.out.mono ?_; rintro e wb ⟨rfl, hbb⟩; have HBb := zh hbb; clear hbb))
          go_meet
          case rel => exact ⟨by rw [HOX.out], zh (HBa.out.trans (HBb.out.mono HBa.out.size))⟩
         ·rw [zF h64, Bool.false_and] at hob
          have HOX := zh hob; clear hob
          generalize x.ws.length = wn at *
          go_wp2_with fail
          go_meet
          case rel => exact ⟨by rw [HOX.out], zh (zB _ _)⟩
        ·have q5 : (x.op == 5) = false := by simp [h5]
         have hob := HOBd.out
         rw [zF h5, Bool.false_and] at hob
         have HOX := zh hob; clear hob
         have H5 := zh h5; clear h5
         generalize x.ws.length = wn at *
         go_wp2_with fail
         go_meet
         case rel => exact ⟨by rw [HOX.out], zh (zB _ _)⟩
   case rest =>
        obtain ⟨rfl, HWc⟩ := hcut
        have HR8 := zh (HR7.out.below HWc.out)
        have HU8 := zh (HU7.out.trans (Up.below (by omega) HWc.out))
        clear e0 e1 e4 e6
        cases ob with
        | false =>
          have HO8 : Hid (ordF x = []) := zh (by rw [HOB.out]; simp)
          go_upto_region 11 with fail
          have HLQ : Hid (LST = lstF (L7 ++ limF s x)) := zh (by rw [HLST.out, HO8.out, List.append_nil])
          have HLN : Hid (L7.length ≤ 196701) := zh (by have := HL7.out; omega)
          have HRSx := zh (HRS4.out.up HU8.out (by have := HG0.out; omega) (HNN.out _))
          have HRCx := zh (HRC4.out.up HU8.out (by have := HG0.out; omega) (HNN.out _))
          have HRZx := zh (HRZ4.out.up HU8.out (by have := HG0.out; omega) (HNN.out _))
          have HBx := zh (HB4.out.trans (HU8.out.low.mono (by have := HG0.out; omega)))
          have HTM := zh (tooMany_any s x wc (HOKf.out _ HBx.out) ((HXf.out _ HBx.out).mono HBx.out.size))
          have hgW : g < wc.heap.size := HR8.out.box.lt
          have HGB := zh HR8.out
          have HLIM : Hid (limF s x = if tooB s x = true then [(7, x.p)] else []) := zh rfl
          cases htb : tooB s x with
          | false =>
            rw [htb] at HTM HLIM
            have hlim : limF s x = [] := by rw [HLIM.out]; simp
            have HE9 : Hid (LST = lstF L7) := zh (by rw [HLQ.out, hlim, List.append_nil])
            obtain ⟨Av, cv9, hv9, _, _⟩ := own_form HGB.out.own
            subst hv9
            have HLSf := zh fun X (hX : Below wc.heap.size wc X) => least_any Av cv9 L7 X (by have := HLN.out; omega) (Sl.of_own (HGB.out.below hX).own)
            clear htb hlim
            go_wp2_with (first
             | (refine wpList_loadS (by rfl) _ _ rfl w.heap.size rfl _ _ _ HRSx.out Tryz.underlying25 rfl (by kernel_rfl) ?_)
             | (refine wpList_loadS (by rfl) _ _ rfl (w.heap.size + 1) rfl _ _ _ HRCx.out Tryz.underlying34 rfl HCI.out ?_)
             | (go_at_call 51; refine HTM.out.mono ?_; rintro e wt ⟨rfl, hbt⟩; have cg := (HGB.out.below hbt).box.cell; have HLS := zh (HLSf.out _ hbt); have HZ9 := zh (HRZx.out.below hbt HRZx.out.lt); have HB9 := zh (HBx.out.trans (hbt.mono HBx.out.size)); clear hbt)
             | (go_at_call 52; refine HLS.out.mono ?_; rintro e wl ⟨rfl, hbl⟩; have HZl := zh (HZ9.out.below hbl HZ9.out.lt); have HBl := zh (HB9.out.trans (hbl.mono HB9.out.size)); clear hbl)
             | (refine wpList_stRow (by rfl) _ _ _ rfl (w.heap.size + 1 + 1) _ rfl rfl _ _ HZl.out (by kernel_rfl) rfl (by simp [ftv, Value.oneCell']) ?_; intro wz rz he))
            exact bodyPost_ret (retRow rfl _ _ (w.heap.size + 1 + 1) _ _ (0, 0) _ rfl rz Tryz.underlying41 rfl (by kernel_rfl)) rfl (HQ.out _ _ ⟨by rw [HE9.out], HBl.out.trans (he.below (by omega))⟩)
          | true =>
            rw [htb] at HTM HLIM
            have hlim : limF s x = [(7, x.p)] := by rw [HLIM.out]; simp
            have HE9 : Hid (LST = lstF (L7 ++ [(7, x.p)])) := zh (by rw [HLQ.out, hlim])
            clear htb hlim
            go_wp2_with (first
             | (refine wpList_loadS (by rfl) _ _ rfl w.heap.size rfl _ _ _ HRSx.out Tryz.underlying25 rfl (by kernel_rfl) ?_)
             | (refine wpList_loadS (by rfl) _ _ rfl (w.heap.size + 1) rfl _ _ _ HRCx.out Tryz.underlying34 rfl HCI.out ?_)
             | (go_at_call 51; refine HTM.out.mono ?_; rintro e wt ⟨rfl, hbt⟩; have cp1 := (cd_cells (HRCx.out.below hbt HRCx.out.lt)).2.1; have HRt := zh (HGB.out.below hbt); have HUt := zh (HU8.out.trans (Up.below (by omega) hbt)); clear hbt))
            refine (report_any _ _ wt g (g + 1) _ _ HRt.out (by have := HLN.out; omega)).mono ?_
            rintro e w10 ⟨v10, rfl, hr10, hu10⟩
            have HU10 := zh (HUt.out.trans hu10)
            have HL9 : Hid ((L7 ++ [(7, x.p)]).length ≤ 196702) := zh (by have := HLN.out; simp only [zA7, zA8, zA9]; omega)
            generalize L7 ++ [(7, x.p)] = L9 at *
            obtain ⟨Av, cv9, hv9, _, _⟩ := own_form hr10.own
            subst hv9
            have HLS := zh (least_any Av cv9 L9 w10 (by have := HL9.out; omega) (Sl.of_own hr10.own))
            have HZ9 := zh (HRZ4.out.up HU10.out (by have := HG0.out; omega) (HNN.out _))
            have HB9 := zh (HB4.out.trans (HU10.out.low.mono (by have := HG0.out; omega)))
            have cg := hr10.box.cell
            clear hr10 hu10 cp1
            go_wp2_with (first
             | (go_at_call 52; refine HLS.out.mono ?_; rintro e wl ⟨rfl, hbl⟩; have HZl := zh (HZ9.out.below hbl HZ9.out.lt); have HBl := zh (HB9.out.trans (hbl.mono HB9.out.size)); clear hbl)
             | (refine wpList_stRow (by rfl) _ _ _ rfl (w.heap.size + 1 + 1) _ rfl rfl _ _ HZl.out (by kernel_rfl) rfl (by simp [ftv, Value.oneCell']) ?_; intro wz rz he))
            exact bodyPost_ret (retRow rfl _ _ (w.heap.size + 1 + 1) _ _ (0, 0) _ rfl rz Tryz.underlying41 rfl (by kernel_rfl)) rfl (HQ.out _ _ ⟨by rw [HE9.out], HBl.out.trans (he.below (by omega))⟩)
        | true =>
          have HO8 : Hid (ordF x = [(5, x.pp)]) := zh (by rw [HOB.out]; simp)
          have c6 := (cd_cells (HRC7.out.below HWc.out HRC7.out.lt)).2.2.2.2.2.2
          go_wp2_with fail
          refine (report_any _ _ wc g (g + 1) _ _ HR8.out (by have := HL7.out; omega)).mono ?_
          rintro e w9 ⟨v9, rfl, hr9, hu9⟩
          have HR9 := zh hr9
          have HU9 := zh (HU8.out.trans hu9)
          clear hr9 hu9 c6
          go_upto_region 11 with fail
          have HLQ : Hid (LST = lstF (L7 ++ [(5, x.pp)] ++ limF s x)) := zh (by rw [HLST.out, HO8.out])
          have HLN : Hid ((L7 ++ [(5, x.pp)]).length ≤ 196701) := zh (by have := HL7.out; simp only [zA7, zA8, zA9]; omega)
          generalize L7 ++ [(5, x.pp)] = L8 at *
          have HRSx := zh (HRS4.out.up HU9.out (by have := HG0.out; omega) (HNN.out _))
          have HRCx := zh (HRC4.out.up HU9.out (by have := HG0.out; omega) (HNN.out _))
          have HRZx := zh (HRZ4.out.up HU9.out (by have := HG0.out; omega) (HNN.out _))
          have HBx := zh (HB4.out.trans (HU9.out.low.mono (by have := HG0.out; omega)))
          have HTM := zh (tooMany_any s x w9 (HOKf.out _ HBx.out) ((HXf.out _ HBx.out).mono HBx.out.size))
          have hgW : g < w9.heap.size := HR9.out.box.lt
          have HGB := zh HR9.out
          have HLIM : Hid (limF s x = if tooB s x = true then [(7, x.p)] else []) := zh rfl
          cases htb : tooB s x with
          | false =>
            rw [htb] at HTM HLIM
            have hlim : limF s x = [] := by rw [HLIM.out]; simp
            have HE9 : Hid (LST = lstF L8) := zh (by rw [HLQ.out, hlim, List.append_nil])
            obtain ⟨Av, cv9, hv9, _, _⟩ := own_form HGB.out.own
            subst hv9
            have HLSf := zh fun X (hX : Below w9.heap.size w9 X) => least_any Av cv9 L8 X (by have := HLN.out; omega) (Sl.of_own (HGB.out.below hX).own)
            clear htb hlim
            go_wp2_with (first
             | (refine wpList_loadS (by rfl) _ _ rfl w.heap.size rfl _ _ _ HRSx.out Tryz.underlying25 rfl (by kernel_rfl) ?_)
             | (refine wpList_loadS (by rfl) _ _ rfl (w.heap.size + 1) rfl _ _ _ HRCx.out Tryz.underlying34 rfl HCI.out ?_)
             | (go_at_call 51; refine HTM.out.mono ?_; rintro e wt ⟨rfl, hbt⟩; have cg := (HGB.out.below hbt).box.cell; have HLS := zh (HLSf.out _ hbt); have HZ9 := zh (HRZx.out.below hbt HRZx.out.lt); have HB9 := zh (HBx.out.trans (hbt.mono HBx.out.size)); clear hbt)
             | (go_at_call 52; refine HLS.out.mono ?_; rintro e wl ⟨rfl, hbl⟩; have HZl := zh (HZ9.out.below hbl HZ9.out.lt); have HBl := zh (HB9.out.trans (hbl.mono HB9.out.size)); clear hbl)
             | (refine wpList_stRow (by rfl) _ _ _ rfl (w.heap.size + 1 + 1) _ rfl rfl _ _ HZl.out (by kernel_rfl) rfl (by simp [ftv, Value.oneCell']) ?_; intro wz rz he))
            exact bodyPost_ret (retRow rfl _ _ (w.heap.size + 1 + 1) _ _ (0, 0) _ rfl rz Tryz.underlying41 rfl (by kernel_rfl)) rfl (HQ.out _ _ ⟨by rw [HE9.out], HBl.out.trans (he.below (by omega))⟩)
          | true =>
            rw [htb] at HTM HLIM
            have hlim : limF s x = [(7, x.p)] := by rw [HLIM.out]; simp
            have HE9 : Hid (LST = lstF (L8 ++ [(7, x.p)])) := zh (by rw [HLQ.out, hlim])
            clear htb hlim
            go_wp2_with (first
             | (refine wpList_loadS (by rfl) _ _ rfl w.heap.size rfl _ _ _ HRSx.out Tryz.underlying25 rfl (by kernel_rfl) ?_)
             | (refine wpList_loadS (by rfl) _ _ rfl (w.heap.size + 1) rfl _ _ _ HRCx.out Tryz.underlying34 rfl HCI.out ?_)
             | (go_at_call 51; refine HTM.out.mono ?_; rintro e wt ⟨rfl, hbt⟩; have cp1 := (cd_cells (HRCx.out.below hbt HRCx.out.lt)).2.1; have HRt := zh (HGB.out.below hbt); have HUt := zh (HU9.out.trans (Up.below (by omega) hbt)); clear hbt))
            refine (report_any _ _ wt g (g + 1) _ _ HRt.out (by have := HLN.out; omega)).mono ?_
            rintro e w10 ⟨v10, rfl, hr10, hu10⟩
            have HU10 := zh (HUt.out.trans hu10)
            have HL9 : Hid ((L8 ++ [(7, x.p)]).length ≤ 196702) := zh (by have := HLN.out; simp only [zA7, zA8, zA9]; omega)
            generalize L8 ++ [(7, x.p)] = L9 at *
            obtain ⟨Av, cv9, hv9, _, _⟩ := own_form hr10.own
            subst hv9
            have HLS := zh (least_any Av cv9 L9 w10 (by have := HL9.out; omega) (Sl.of_own hr10.own))
            have HZ9 := zh (HRZ4.out.up HU10.out (by have := HG0.out; omega) (HNN.out _))
            have HB9 := zh (HB4.out.trans (HU10.out.low.mono (by have := HG0.out; omega)))
            have cg := hr10.box.cell
            clear hr10 hu10 cp1
            go_wp2_with (first
             | (go_at_call 52; refine HLS.out.mono ?_; rintro e wl ⟨rfl, hbl⟩; have HZl := zh (HZ9.out.below hbl HZ9.out.lt); have HBl := zh (HB9.out.trans (hbl.mono HB9.out.size)); clear hbl)
             | (refine wpList_stRow (by rfl) _ _ _ rfl (w.heap.size + 1 + 1) _ rfl rfl _ _ HZl.out (by kernel_rfl) rfl (by simp [ftv, Value.oneCell']) ?_; intro wz rz he))
            exact bodyPost_ret (retRow rfl _ _ (w.heap.size + 1 + 1) _ _ (0, 0) _ rfl rz Tryz.underlying41 rfl (by kernel_rfl)) rfl (HQ.out _ _ ⟨by rw [HE9.out], HBl.out.trans (he.below (by omega))⟩)
 ·have h1 : dLat x.op = false := by cases h : dLat x.op <;> simp [h] at hdd ⊢
  have h2 : dVar x.op = false := by cases h : dVar x.op <;> simp [h] at hdd ⊢
  have hf : faultF s x = (0, 0) := HF.out.trans (if_neg hdd)
  rw [hf] at HQ
  rw [h1] at HDL
  rw [h2] at HDV
  clear HF hf hdd h1 h2
  go_wp2_with (first
   | (go_at_call 40; refine HDL.out.mono ?_; rintro e w2 ⟨rfl, rfl⟩)
   | (go_at_call 41; refine HDV.out.mono ?_; rintro e w2 ⟨rfl, rfl⟩)
   | (refine wpList_stRow (by rfl) _ _ _ rfl (w.heap.size + 1 + 1) (ftv (0, 0)) rfl rfl _ _ HRZ.out (by kernel_rfl) rfl (by simp [ftv, Value.oneCell']) ?_; intro wz rz he))
  exact bodyPost_ret (retRow rfl _ _ (w.heap.size + 1 + 1) _ _ (0, 0) _ rfl rz Tryz.underlying41 rfl (by kernel_rfl)) rfl (HQ.out _ _ ⟨rfl, HB.out.trans (he.below (by omega))⟩)
end
section
open Go.RowKit
theorem sadd_any (s : Sc) (x : Cd) (w : World) (hT : Tab w) (h : ScOk w s) (hx : CdOk w w.heap.size x) (hsum : x.op = 3 → (flat (dshF s x.ws)).length ≤ 65536) :
 Calls Tryz.prog 11 #[.agg (scv s), .agg (cdv x)] w fun e w' => ∃ s', e = .returned (.agg (scv s')) ∧ ScR w' w.heap.size s' (addL s x) (addV s x) ∧ Below w.heap.size w w' := by
 obtain ⟨r0, q0, z0, hb⟩ := three_rows w (scv s) (cdv x) #[.slice none 0 0, .slice none 0 0] 25 34 25
 refine cHid fun Q' hQ => ?_
 have HQ := zh hQ; clear hQ
 go_enter Tryz.func11, Tryz.ntmps11
 go_upto_region 1 with fail
 change Code.wp _ _ _ _ (((w.alloc (.cells (scv s) 25)).alloc (.cells (cdv x) 34)).alloc (.cells #[.slice none 0 0, .slice none 0 0] 25))
 generalize ((w.alloc (.cells (scv s) 25)).alloc (.cells (cdv x) 34)).alloc (.cells #[.slice none 0 0, .slice none 0 0] 25) = w1 at *
 have hz := z0.lt
 have HZL := zh hz
 have HOKf : Hid (∀ W, Below w1.heap.size w1 W → ScOk W s) := zh fun W hW => (h.below hb).below hW
 have HXf : Hid (∀ W, Below w1.heap.size w1 W → CdOk W w.heap.size x) := zh fun W hW => (hx.below hb).below (hW.mono (by omega))
 have HTf : Hid (∀ W, Below w1.heap.size w1 W → Tab W) := zh fun W hW => (hT.below hb).below hW
 have HSHP : Hid (∀ W, Below w1.heap.size w1 W → Calls Tryz.prog 17 #[.agg (scv s), .agg (cdv x)] W fun e w' => ∃ A' c' gs, e = .returned (.agg (sv (shT x.op) A' gs.length c')) ∧ w'.ownsRow W.heap.size 100 67 (.slice A' gs.length c') gs.length (fscells gs) ∧ (∀ g ∈ gs, FacO w' W.heap.size g) ∧ gs.map core = (shF s x).map core ∧ Below W.heap.size W w') := zh fun W hW => sshape_any s x W (HOKf.out W hW) ((HXf.out W hW).mono (by have := hW.size; omega)) hsum
 have HRS := zh r0
 have HRC := zh q0
 have HRZ := zh z0
 have HB := zh hb
 have HCI := zh (cdinfo hx)
 have HCP := zh (scopied_any s w1 (h.below hb))
 have HL0 := zh h.lfew
 have HTY1 : Hid (51 ≠ 25) := zh (by show (51 : Nat) ≠ 25; decide)
 have HTY2 : Hid (55 ≠ 25) := zh (by show (55 : Nat) ≠ 25; decide)
 have HTY4 : Hid (55 ≠ 51) := zh (by show (55 : Nat) ≠ 51; decide)
 have HTY5 : Hid (100 ≠ 51) := zh (by show (100 : Nat) ≠ 51; decide)
 have HTY6 : Hid (9 ≠ 51) := zh (by show (9 : Nat) ≠ 51; decide)
 have HTY7 : Hid (100 ≠ 25) := zh (by show (100 : Nat) ≠ 25; decide)
 have HTY8 : Hid (9 ≠ 25) := zh (by show (9 : Nat) ≠ 25; decide)
 clear h hx hT hsum hb r0 q0 z0
 go_upto_region 2 with (first
  | (refine wpList_loadS (by rfl) _ _ rfl w.heap.size rfl _ _ _ HRS.out Tryz.underlying25 rfl (by kernel_rfl) ?_)
  | (go_at_call 39; refine HCP.out.mono ?_; rintro e w2 ⟨s1, rfl, hn, hb2⟩; have HN2 := zh hn; have HB2 := zh hb2; clear hn hb2)
  | (refine wpList_stRow (by rfl) _ _ _ rfl w2.heap.size (scv s1) rfl rfl _ _ (RowAt.new _ _ _) (by kernel_rfl) rfl (by simp [scv, Value.oneCell']) ?_; intro w3 r3 he; have HR53 := zh r3; have HB23 : Hid (Below w2.heap.size w2 w3) := zh (((zB _ _).alloc (zL _) _).trans (he.below (zL _))); clear r3 he))
 have HS3 := zh (HB2.out.trans (HB23.out.mono HB2.out.size))
 have HWL3 := zh (own_below HN2.out.lown HB23.out (zL _))
 have HWV3 := zh (own_below HN2.out.vown HB23.out (zL _))
 have HLO3 : Hid (∀ l ∈ s1.ls, LatO w3 w1.heap.size l) := zh fun l hl => (HN2.out.lats l hl).below HB23.out
 have HLE := zh HN2.out.le
 have HVE := zh HN2.out.ve
 have HG5 : Hid (w1.heap.size ≤ w2.heap.size) := zh HB2.out.size
 have HL1 : Hid (s1.ls.length ≤ 65536) := zh (by
  have := congrArg List.length HLE.out
  rw [List.length_map, List.length_map] at this
  have := HL0.out
  omega)
 generalize w2.heap.size = g5 at *
 clear HN2 HB23 HCP HB2
 have HFT := zh (fault_any s x w3 (HTf.out _ HS3.out) (HOKf.out _ HS3.out) ((HXf.out _ HS3.out).mono (by have := HS3.out.size; omega)))
 have hft := run_ft0
 have HFTc : Hid (∀ f : Int × Int, (Instr.field 41 (.agg (ftv f)) 0).run Tryz.prog = fun w => .ok (.int .i64 f.1) w) := zh fun f => by funext w; exact hft f w
 have HAL : Hid (addL s x = s.ls.map lcore ++ (if (decide ((faultF s x).1 = 0) && dLat x.op) = true then [(x.n.1, shT x.op, (shF s x).map core)] else [])) := zh rfl
 have HAV : Hid (addV s x = s.vs ++ (if (decide ((faultF s x).1 = 0) && dVar x.op) = true then x.ws.map fun y => (y.1, kindN x.op, idx s.lnms x.n.1) else [])) := zh rfl
 have HRS3 := zh (HRS.out.below HS3.out HRS.out.lt)
 have HRC3 := zh (HRC.out.below HS3.out HRC.out.lt)
 by_cases hf : (faultF s x).1 = 0
 ·have qf : ((faultF s x).1 != 0) = false := by simp [hf]
  have HDL := zh (declLat_any x.op)
  have HF0 := zh hf; clear hf
  generalize faultF s x = ff at *
  go_upto_region 4 with (first
   | (refine wpList_loadS (by rfl) _ _ rfl w.heap.size rfl _ _ _ HRS3.out Tryz.underlying25 rfl (by kernel_rfl) ?_)
   | (refine wpList_loadS (by rfl) _ _ rfl (w.heap.size + 1) rfl _ _ _ HRC3.out Tryz.underlying34 rfl HCI.out ?_)
   | (go_at_call 13; refine HFT.out.mono ?_; rintro e w4 ⟨rfl, hb4⟩; have HB4 := zh hb4; clear hb4))
  have HS4 := zh (HS3.out.trans (HB4.out.mono HS3.out.size))
  have HR54 := zh (HR53.out.below HB4.out HR53.out.lt)
  have HWL4 := zh (own_below HWL3.out HB4.out (zL _))
  have HWV4 := zh (own_below HWV3.out HB4.out (zL _))
  have HLO4 : Hid (∀ l ∈ s1.ls, LatO w4 w1.heap.size l) := zh fun l hl => (HLO3.out l hl).below HB4.out
  have HRC4 := zh (HRC.out.below HS4.out HRC.out.lt)
  clear HFT HWL3 HWV3 HLO3 HR53 HRS3 HRC3 HB4 hft qf HFTc
  have d0 := (cd_cells HRC4.out).1
  have HD4 := zh (HDL.out w4)
  cases hdl : dLat x.op with
  | true =>
    rw [hdl] at HD4
    have hal : addL s x = s.ls.map lcore ++ [(x.n.1, shT x.op, (shF s x).map core)] := by rw [HAL.out, zE HF0.out, hdl]; rfl
    have hdv : dVar x.op = false := by
        unfold dLat at hdl; unfold dVar
        rw [decide_eq_true_eq] at hdl
        rw [decide_eq_false_iff_not]; omega
    have hav : addV s x = s.vs := by rw [HAV.out, hdv, Bool.and_false]; simp
    rw [hal, hav] at HQ
    have HDVf := zh fun W => declVars_any x.op W
    rw [hdv] at HDVf
    clear hal hav hdl hdv HAL HAV HDL
    go_upto_region 5 with (go_at_call 40; refine HD4.out.mono ?_; rintro e wv ⟨rfl, rfl⟩)
    clear d0
    go_cut [32] from 21 to 32 (fun _ wx => ∃ s2, Hid (Below w1.heap.size w1 wx) ∧ Hid (RowAt wx g5 25 (scv s2)) ∧ Hid (ScR wx w1.heap.size s2 (s.ls.map lcore ++ [(x.n.1, shT x.op, (shF s x).map core)]) s.vs))
    case first =>
        have C0 : ∀ W, Below w1.heap.size w1 W → W.cell? ⟨w.heap.size + 1, 2, none⟩ = some (.string x.n.1) := fun W hW => (cd_cells (HRC.out.below hW HRC.out.lt)).2.2.1
        have C1 : ∀ W, Below w1.heap.size w1 W → RowAt W w.heap.size 25 (scv s) := fun W hW => HRS.out.below hW HRS.out.lt
        have C2 : ∀ W, Below w1.heap.size w1 W → RowAt W (w.heap.size + 1) 34 (cdv x) := fun W hW => HRC.out.below hW HRC.out.lt
        have HSu0 : Hid (Below w1.heap.size w1 w4.drew) := zh HS4.out.drew
        have HR5u0 : Hid (RowAt w4.drew g5 25 (scv s1)) := HR54
        have HWLu0 : Hid (w4.drew.ownsRow w1.heap.size 51 3 (.slice s1.LA s1.ls.length s1.lc) s1.ls.length (s1.ls.flatMap latC)) := HWL4
        have HWVu0 : Hid (w4.drew.ownsRow w1.heap.size 55 3 (.slice s1.VA s1.vs.length s1.vc) s1.vs.length (s1.vs.flatMap varC)) := HWV4
        have HLOu0 : Hid (∀ l ∈ s1.ls, LatO w4.drew w1.heap.size l) := zh fun l hl => (HLO4.out l hl).below (zB _ _).drew
        refine wp_region_ou (fun W => Below w1.heap.size w1 W) ((.take 0 (.take 2 (.take 3 (.take 4 (.take 5 (.take 6 (.two 1 (.solo 7 (.take 8 (.solo 9 (.solo 10 (.take 11 (.solo 12 .nil)))))) 7 (.take 8 (.two 1 (.solo 9 (.solo 10 (.take 11 (.solo 12 .nil)))) 9 (.solo 1 (.solo 10 (.take 11 (.solo 12 .nil)))))))))))))) (by kernel_rfl) (by kernel_rfl) rfl (by kernel_rfl) HSu0.out ?_
        generalize w4.drew = u0 at HSu0 HR5u0 HWLu0 HWVu0 HLOu0 ⊢
        iterate 6
         (refine wpOU_step (zO rfl) ?_)
         (first
            | (refine wpOU_skip (by rfl) ?_)
            | (refine wpOU_take (by rfl) (take_row _ _ rfl w.heap.size rfl _ _ _ C1 Tryz.underlying25 rfl (by kernel_rfl)) ?_)
            | (refine wpOU_take (by rfl) (take_row _ _ rfl (w.heap.size + 1) rfl _ _ _ C2 Tryz.underlying34 rfl HCI.out) ?_)
            | (refine wpOU_take (v := ?_) (by rfl) ?_ ?_; rotate_left 1; (intro wx hSx; have hc_0 := C0 wx hSx; go_simp; try with_reducible rfl)))
         (try simp only [Act.put, zA4, zA5, zA6])
        refine wpOU_two ?_ ?_
        ·(refine wpOU_solo (zO rfl) ?_)
         intro K hK
         have cc := (HR5u0.out.cell 0).trans (show (scv s1)[0]? = some (.slice s1.LA s1.ls.length s1.lc) from rfl)
         go_simp
         clear cc
         refine hK.out _ _ HSu0.out ?_
         clear hK K
         (try simp only [Act.put, zA4, zA5, zA6])
         (refine wpOU_solo (zO rfl) ?_)
         intro K hK
         go_simp
         go_at_call 17
         refine (HSHP.out u0 HSu0.out).mono ?_
         rintro e u1 ⟨A2, c2, gs, rfl, hown, hfo, hcr, hb⟩
         simp only [sv]
         have HSu1 := zh (HSu0.out.trans (hb.mono HSu0.out.size))
         have HNWu1 : Hid (LatO u1 w1.heap.size (x.n.1, ⟨shT x.op, A2, c2, gs⟩)) := zh ⟨own_mono hown HSu0.out.size, fun g hg => (hfo g hg).mono HSu0.out.size⟩
         have HCR := zh hcr
         have HR5u1 := zh (HR5u0.out.below hb HR5u0.out.lt)
         have HWLu1 := zh (own_below HWLu0.out hb (zL _))
         have HWVu1 := zh (own_below HWVu0.out hb (zL _))
         have HLOu1 : Hid (∀ l ∈ s1.ls, LatO u1 w1.heap.size l) := zh fun l hl => (HLOu0.out l hl).below hb
         clear hb hown hfo hcr
         refine hK.out _ _ HSu1.out ?_
         clear hK K
         (try simp only [Act.put, zA4, zA5, zA6])
         iterate 1
          (refine wpOU_step (zO rfl) ?_)
          (first
              | (refine wpOU_skip (by rfl) ?_)
              | (refine wpOU_take (by rfl) (take_row _ _ rfl w.heap.size rfl _ _ _ C1 Tryz.underlying25 rfl (by kernel_rfl)) ?_)
              | (refine wpOU_take (by rfl) (take_row _ _ rfl (w.heap.size + 1) rfl _ _ _ C2 Tryz.underlying34 rfl HCI.out) ?_)
              | (refine wpOU_take (v := ?_) (by rfl) ?_ ?_; rotate_left 1; (intro wx hSx; have hc_0 := C0 wx hSx; go_simp; try with_reducible rfl)))
          (try simp only [Act.put, zA4, zA5, zA6])
         (refine wpOU_solo (zO rfl) ?_)
         intro K hK
         go_simp
         have hb : Below u1.heap.size u1 (u1.alloc (.cells #[.string x.n.1, .bool (shT x.op), .slice A2 gs.length c2] 51)) := (zB _ _).alloc (zL _) _
         have HSu2 : Hid (Below w1.heap.size w1 (u1.alloc (.cells #[.string x.n.1, .bool (shT x.op), .slice A2 gs.length c2] 51))) := zh (HSu1.out.trans (hb.mono HSu1.out.size))
         have HBSu2 := zh (RowAt.new u1 51 #[.string x.n.1, .bool (shT x.op), .slice A2 gs.length c2])
         have HR5u2 := zh (HR5u1.out.below hb HR5u1.out.lt)
         have HWLu2 := zh (own_below HWLu1.out hb (zL _))
         have HWVu2 := zh (own_below HWVu1.out hb (zL _))
         have HLOu2 : Hid (∀ l ∈ s1.ls, LatO (u1.alloc (.cells #[.string x.n.1, .bool (shT x.op), .slice A2 gs.length c2] 51)) w1.heap.size l) := zh fun l hl => (HLOu1.out l hl).below hb
         have HNWu2 := zh (HNWu1.out.below hb)
         clear hb
         refine hK.out _ _ HSu2.out ?_
         clear hK K
         (try simp only [Act.put, zA4, zA5, zA6])
         generalize hgb : u1.heap.size = gb at *
         generalize (u1.alloc (.cells #[.string x.n.1, .bool (shT x.op), .slice A2 gs.length c2] 51)) = u2 at *
         clear hgb
         (refine wpOU_solo (zO rfl) ?_)
         intro K hK
         rw [if_pos (by rfl)]
         refine wp_moreS _ _ 22 rfl 51 (.agg #[.string ⟨#[]⟩, .bool false, .slice none 0 0]) 3 48 Tryz.underlying22 infoLatS rfl (by decide) w1.heap.size s1.LA s1.ls.length s1.lc (s1.ls.flatMap latC) rfl HWLu2.out gb [.string x.n.1, .bool (shT x.op), .slice A2 gs.length c2] rfl rfl (fun j u hu => (HBSu2.out.cell j).trans (by simpa using hu)) (by intro u hu; simp at hu; rcases hu with rfl | rfl | rfl <;> rfl) (by simp only [maxLen]; have := HL1.out; omega) (by have := HL1.out; omega) HSu2.out.size ?_
         intro A6 d6 u3 hown6 hb6 hg6 hat6
         have HSu3 := zh (HSu2.out.trans hb6)
         have HOW6 := zh hown6
         have HR5u3 := zh (HR5u2.out.grown hg6 (own_ne2 HWLu2.out HR5u2.out HTY1.out))
         have HWVu3 := zh (own_grown HWVu2.out hg6 fun k hk => own_ne3 HWVu2.out HWLu2.out HTY4.out hk)
         have HLOu3 : Hid (∀ l ∈ s1.ls, LatO u3 w1.heap.size l) := zh fun l hl => ⟨own_grown (HLOu2.out l hl).own hg6 fun k hk => own_ne3 (HLOu2.out l hl).own HWLu2.out HTY5.out hk, fun g hg => ⟨own_grown ((HLOu2.out l hl).fac g hg).own hg6 fun k hk => own_ne3 ((HLOu2.out l hl).fac g hg).own HWLu2.out HTY6.out hk, ((HLOu2.out l hl).fac g hg).rows⟩⟩
         have HNWu3 : Hid (LatO u3 w1.heap.size (x.n.1, ⟨shT x.op, A2, c2, gs⟩)) := zh ⟨own_grown HNWu2.out.own hg6 fun k hk => own_ne3 HNWu2.out.own HWLu2.out HTY5.out hk, fun g hg => ⟨own_grown (HNWu2.out.fac g hg).own hg6 fun k hk => own_ne3 (HNWu2.out.fac g hg).own HWLu2.out HTY6.out hk, (HNWu2.out.fac g hg).rows⟩⟩
         clear hown6 hb6 hg6 hat6
         refine hK.out _ _ HSu3.out ?_
         clear hK K
         (try simp only [Act.put, zA4, zA5, zA6])
         iterate 1
          (refine wpOU_step (zO rfl) ?_)
          (first
              | (refine wpOU_skip (by rfl) ?_)
              | (refine wpOU_take (by rfl) (take_row _ _ rfl w.heap.size rfl _ _ _ C1 Tryz.underlying25 rfl (by kernel_rfl)) ?_)
              | (refine wpOU_take (by rfl) (take_row _ _ rfl (w.heap.size + 1) rfl _ _ _ C2 Tryz.underlying34 rfl HCI.out) ?_)
              | (refine wpOU_take (v := ?_) (by rfl) ?_ ?_; rotate_left 1; (intro wx hSx; have hc_0 := C0 wx hSx; go_simp; try with_reducible rfl)))
          (try simp only [Act.put, zA4, zA5, zA6])
         (refine wpOU_solo (zO rfl) ?_)
         intro K hK
         have m0 := (HR5u3.out.cell 0).trans (show (scv s1)[0]? = some (.slice s1.LA s1.ls.length s1.lc) from rfl)
         have f0 := HR5u3.out.free 0
         have HSu9 : Hid (Below w1.heap.size w1 (u3.setCell ⟨g5, 0, none⟩ (.slice A6 (s1.ls.length + 1) d6))) := zh (HSu3.out.setCell (p := ⟨g5, 0, none⟩) HG5.out _)
         have HR9 : Hid (RowAt (u3.setCell ⟨g5, 0, none⟩ (.slice A6 (s1.ls.length + 1) d6)) g5 25 (scv ⟨A6, d6, s1.ls ++ [(x.n.1, (⟨shT x.op, A2, c2, gs⟩ : Shp))], s1.VA, s1.vc, s1.vs⟩)) := zh (by
          have h := HR5u3.out.put 0 (.slice A6 (s1.ls.length + 1) d6)
          have e : (scv s1).setIfInBounds 0 (.slice A6 (s1.ls.length + 1) d6) = scv ⟨A6, d6, s1.ls ++ [(x.n.1, (⟨shT x.op, A2, c2, gs⟩ : Shp))], s1.VA, s1.vc, s1.vs⟩ := by simp [scv]
          rw [← e]; exact h)
         have HFAR : Hid (∀ {base size n : Nat} {e : TypeId} {v : Value} {cs : List Value}, u3.ownsRow base e size v n cs → e ≠ 25 → (u3.setCell ⟨g5, 0, none⟩ (.slice A6 (s1.ls.length + 1) d6)).ownsRow base e size v n cs) := zh fun h ht => ownS_far h HR5u3.out ht _ _
         have HSN : Hid (ScR (u3.setCell ⟨g5, 0, none⟩ (.slice A6 (s1.ls.length + 1) d6)) w1.heap.size ⟨A6, d6, s1.ls ++ [(x.n.1, (⟨shT x.op, A2, c2, gs⟩ : Shp))], s1.VA, s1.vc, s1.vs⟩ (s.ls.map lcore ++ [(x.n.1, shT x.op, (shF s x).map core)]) s.vs) := zh (by
          have hL : (s1.ls ++ [(x.n.1, (⟨shT x.op, A2, c2, gs⟩ : Shp))]).length = s1.ls.length + 1 := by simp
          have hF : (s1.ls ++ [(x.n.1, (⟨shT x.op, A2, c2, gs⟩ : Shp))]).flatMap latC = s1.ls.flatMap latC ++ [.string x.n.1, .bool (shT x.op), .slice A2 gs.length c2] := by simp [latC]
          refine ⟨?_, HFAR.out HWVu3.out HTY2.out, fun l hl => ?_, ?_, HVE.out⟩
          ·show (u3.setCell ⟨g5, 0, none⟩ (.slice A6 (s1.ls.length + 1) d6)).ownsRow w1.heap.size 51 3 (.slice A6 (s1.ls ++ [(x.n.1, (⟨shT x.op, A2, c2, gs⟩ : Shp))]).length d6) (s1.ls ++ [(x.n.1, (⟨shT x.op, A2, c2, gs⟩ : Shp))]).length ((s1.ls ++ [(x.n.1, (⟨shT x.op, A2, c2, gs⟩ : Shp))]).flatMap latC)
           rw [hL, hF]; exact HFAR.out HOW6.out HTY1.out
          ·rcases List.mem_append.1 hl with h | h
           ·exact ⟨HFAR.out (HLOu3.out l h).own HTY7.out, fun g hg => ⟨HFAR.out ((HLOu3.out l h).fac g hg).own HTY8.out, ((HLOu3.out l h).fac g hg).rows⟩⟩
           ·obtain rfl : l = (x.n.1, (⟨shT x.op, A2, c2, gs⟩ : Shp)) := by simpa using h
            exact ⟨HFAR.out HNWu3.out.own HTY7.out, fun g hg => ⟨HFAR.out (HNWu3.out.fac g hg).own HTY8.out, (HNWu3.out.fac g hg).rows⟩⟩
          ·show (s1.ls ++ [(x.n.1, (⟨shT x.op, A2, c2, gs⟩ : Shp))]).map lcore = _
           rw [List.map_append, HLE.out]
           have := HCR.out
           simp [lcore, this])
         go_simp
         refine hK.out _ _ HSu9.out ?_
         clear hK K m0 f0 HFAR
         (try simp only [Act.put, zA4, zA5, zA6])
         generalize (u3.setCell ⟨g5, 0, none⟩ (.slice A6 (s1.ls.length + 1) d6)) = u9 at *
         refine wpOU_done ?_
         go_wp2
         go_meet
         case rel => exact ⟨_, HSu9, HR9, HSN⟩
        ·(refine wpOU_solo (zO rfl) ?_)
         intro K hK
         go_simp
         go_at_call 17
         refine (HSHP.out u0 HSu0.out).mono ?_
         rintro e u1 ⟨A2, c2, gs, rfl, hown, hfo, hcr, hb⟩
         simp only [sv]
         have HSu1 := zh (HSu0.out.trans (hb.mono HSu0.out.size))
         have HNWu1 : Hid (LatO u1 w1.heap.size (x.n.1, ⟨shT x.op, A2, c2, gs⟩)) := zh ⟨own_mono hown HSu0.out.size, fun g hg => (hfo g hg).mono HSu0.out.size⟩
         have HCR := zh hcr
         have HR5u1 := zh (HR5u0.out.below hb HR5u0.out.lt)
         have HWLu1 := zh (own_below HWLu0.out hb (zL _))
         have HWVu1 := zh (own_below HWVu0.out hb (zL _))
         have HLOu1 : Hid (∀ l ∈ s1.ls, LatO u1 w1.heap.size l) := zh fun l hl => (HLOu0.out l hl).below hb
         clear hb hown hfo hcr
         refine hK.out _ _ HSu1.out ?_
         clear hK K
         (try simp only [Act.put, zA4, zA5, zA6])
         iterate 1
          (refine wpOU_step (zO rfl) ?_)
          (first
              | (refine wpOU_skip (by rfl) ?_)
              | (refine wpOU_take (by rfl) (take_row _ _ rfl w.heap.size rfl _ _ _ C1 Tryz.underlying25 rfl (by kernel_rfl)) ?_)
              | (refine wpOU_take (by rfl) (take_row _ _ rfl (w.heap.size + 1) rfl _ _ _ C2 Tryz.underlying34 rfl HCI.out) ?_)
              | (refine wpOU_take (v := ?_) (by rfl) ?_ ?_; rotate_left 1; (intro wx hSx; have hc_0 := C0 wx hSx; go_simp; try with_reducible rfl)))
          (try simp only [Act.put, zA4, zA5, zA6])
         refine wpOU_two ?_ ?_
         ·(refine wpOU_solo (zO rfl) ?_)
          intro K hK
          have cc := (HR5u1.out.cell 0).trans (show (scv s1)[0]? = some (.slice s1.LA s1.ls.length s1.lc) from rfl)
          go_simp
          clear cc
          refine hK.out _ _ HSu1.out ?_
          clear hK K
          (try simp only [Act.put, zA4, zA5, zA6])
          (refine wpOU_solo (zO rfl) ?_)
          intro K hK
          go_simp
          have hb : Below u1.heap.size u1 (u1.alloc (.cells #[.string x.n.1, .bool (shT x.op), .slice A2 gs.length c2] 51)) := (zB _ _).alloc (zL _) _
          have HSu2 : Hid (Below w1.heap.size w1 (u1.alloc (.cells #[.string x.n.1, .bool (shT x.op), .slice A2 gs.length c2] 51))) := zh (HSu1.out.trans (hb.mono HSu1.out.size))
          have HBSu2 := zh (RowAt.new u1 51 #[.string x.n.1, .bool (shT x.op), .slice A2 gs.length c2])
          have HR5u2 := zh (HR5u1.out.below hb HR5u1.out.lt)
          have HWLu2 := zh (own_below HWLu1.out hb (zL _))
          have HWVu2 := zh (own_below HWVu1.out hb (zL _))
          have HLOu2 : Hid (∀ l ∈ s1.ls, LatO (u1.alloc (.cells #[.string x.n.1, .bool (shT x.op), .slice A2 gs.length c2] 51)) w1.heap.size l) := zh fun l hl => (HLOu1.out l hl).below hb
          have HNWu2 := zh (HNWu1.out.below hb)
          clear hb
          refine hK.out _ _ HSu2.out ?_
          clear hK K
          (try simp only [Act.put, zA4, zA5, zA6])
          generalize hgb : u1.heap.size = gb at *
          generalize (u1.alloc (.cells #[.string x.n.1, .bool (shT x.op), .slice A2 gs.length c2] 51)) = u2 at *
          clear hgb
          (refine wpOU_solo (zO rfl) ?_)
          intro K hK
          rw [if_pos (by rfl)]
          refine wp_moreS _ _ 22 rfl 51 (.agg #[.string ⟨#[]⟩, .bool false, .slice none 0 0]) 3 48 Tryz.underlying22 infoLatS rfl (by decide) w1.heap.size s1.LA s1.ls.length s1.lc (s1.ls.flatMap latC) rfl HWLu2.out gb [.string x.n.1, .bool (shT x.op), .slice A2 gs.length c2] rfl rfl (fun j u hu => (HBSu2.out.cell j).trans (by simpa using hu)) (by intro u hu; simp at hu; rcases hu with rfl | rfl | rfl <;> rfl) (by simp only [maxLen]; have := HL1.out; omega) (by have := HL1.out; omega) HSu2.out.size ?_
          intro A6 d6 u3 hown6 hb6 hg6 hat6
          have HSu3 := zh (HSu2.out.trans hb6)
          have HOW6 := zh hown6
          have HR5u3 := zh (HR5u2.out.grown hg6 (own_ne2 HWLu2.out HR5u2.out HTY1.out))
          have HWVu3 := zh (own_grown HWVu2.out hg6 fun k hk => own_ne3 HWVu2.out HWLu2.out HTY4.out hk)
          have HLOu3 : Hid (∀ l ∈ s1.ls, LatO u3 w1.heap.size l) := zh fun l hl => ⟨own_grown (HLOu2.out l hl).own hg6 fun k hk => own_ne3 (HLOu2.out l hl).own HWLu2.out HTY5.out hk, fun g hg => ⟨own_grown ((HLOu2.out l hl).fac g hg).own hg6 fun k hk => own_ne3 ((HLOu2.out l hl).fac g hg).own HWLu2.out HTY6.out hk, ((HLOu2.out l hl).fac g hg).rows⟩⟩
          have HNWu3 : Hid (LatO u3 w1.heap.size (x.n.1, ⟨shT x.op, A2, c2, gs⟩)) := zh ⟨own_grown HNWu2.out.own hg6 fun k hk => own_ne3 HNWu2.out.own HWLu2.out HTY5.out hk, fun g hg => ⟨own_grown (HNWu2.out.fac g hg).own hg6 fun k hk => own_ne3 (HNWu2.out.fac g hg).own HWLu2.out HTY6.out hk, (HNWu2.out.fac g hg).rows⟩⟩
          clear hown6 hb6 hg6 hat6
          refine hK.out _ _ HSu3.out ?_
          clear hK K
          (try simp only [Act.put, zA4, zA5, zA6])
          iterate 1
            (refine wpOU_step (zO rfl) ?_)
            (first
                 | (refine wpOU_skip (by rfl) ?_)
                 | (refine wpOU_take (by rfl) (take_row _ _ rfl w.heap.size rfl _ _ _ C1 Tryz.underlying25 rfl (by kernel_rfl)) ?_)
                 | (refine wpOU_take (by rfl) (take_row _ _ rfl (w.heap.size + 1) rfl _ _ _ C2 Tryz.underlying34 rfl HCI.out) ?_)
                 | (refine wpOU_take (v := ?_) (by rfl) ?_ ?_; rotate_left 1; (intro wx hSx; have hc_0 := C0 wx hSx; go_simp; try with_reducible rfl)))
            (try simp only [Act.put, zA4, zA5, zA6])
          (refine wpOU_solo (zO rfl) ?_)
          intro K hK
          have m0 := (HR5u3.out.cell 0).trans (show (scv s1)[0]? = some (.slice s1.LA s1.ls.length s1.lc) from rfl)
          have f0 := HR5u3.out.free 0
          have HSu9 : Hid (Below w1.heap.size w1 (u3.setCell ⟨g5, 0, none⟩ (.slice A6 (s1.ls.length + 1) d6))) := zh (HSu3.out.setCell (p := ⟨g5, 0, none⟩) HG5.out _)
          have HR9 : Hid (RowAt (u3.setCell ⟨g5, 0, none⟩ (.slice A6 (s1.ls.length + 1) d6)) g5 25 (scv ⟨A6, d6, s1.ls ++ [(x.n.1, (⟨shT x.op, A2, c2, gs⟩ : Shp))], s1.VA, s1.vc, s1.vs⟩)) := zh (by
            have h := HR5u3.out.put 0 (.slice A6 (s1.ls.length + 1) d6)
            have e : (scv s1).setIfInBounds 0 (.slice A6 (s1.ls.length + 1) d6) = scv ⟨A6, d6, s1.ls ++ [(x.n.1, (⟨shT x.op, A2, c2, gs⟩ : Shp))], s1.VA, s1.vc, s1.vs⟩ := by simp [scv]
            rw [← e]; exact h)
          have HFAR : Hid (∀ {base size n : Nat} {e : TypeId} {v : Value} {cs : List Value}, u3.ownsRow base e size v n cs → e ≠ 25 → (u3.setCell ⟨g5, 0, none⟩ (.slice A6 (s1.ls.length + 1) d6)).ownsRow base e size v n cs) := zh fun h ht => ownS_far h HR5u3.out ht _ _
          have HSN : Hid (ScR (u3.setCell ⟨g5, 0, none⟩ (.slice A6 (s1.ls.length + 1) d6)) w1.heap.size ⟨A6, d6, s1.ls ++ [(x.n.1, (⟨shT x.op, A2, c2, gs⟩ : Shp))], s1.VA, s1.vc, s1.vs⟩ (s.ls.map lcore ++ [(x.n.1, shT x.op, (shF s x).map core)]) s.vs) := zh (by
            have hL : (s1.ls ++ [(x.n.1, (⟨shT x.op, A2, c2, gs⟩ : Shp))]).length = s1.ls.length + 1 := by simp
            have hF : (s1.ls ++ [(x.n.1, (⟨shT x.op, A2, c2, gs⟩ : Shp))]).flatMap latC = s1.ls.flatMap latC ++ [.string x.n.1, .bool (shT x.op), .slice A2 gs.length c2] := by simp [latC]
            refine ⟨?_, HFAR.out HWVu3.out HTY2.out, fun l hl => ?_, ?_, HVE.out⟩
            ·show (u3.setCell ⟨g5, 0, none⟩ (.slice A6 (s1.ls.length + 1) d6)).ownsRow w1.heap.size 51 3 (.slice A6 (s1.ls ++ [(x.n.1, (⟨shT x.op, A2, c2, gs⟩ : Shp))]).length d6) (s1.ls ++ [(x.n.1, (⟨shT x.op, A2, c2, gs⟩ : Shp))]).length ((s1.ls ++ [(x.n.1, (⟨shT x.op, A2, c2, gs⟩ : Shp))]).flatMap latC)
             rw [hL, hF]; exact HFAR.out HOW6.out HTY1.out
            ·rcases List.mem_append.1 hl with h | h
             ·exact ⟨HFAR.out (HLOu3.out l h).own HTY7.out, fun g hg => ⟨HFAR.out ((HLOu3.out l h).fac g hg).own HTY8.out, ((HLOu3.out l h).fac g hg).rows⟩⟩
             ·obtain rfl : l = (x.n.1, (⟨shT x.op, A2, c2, gs⟩ : Shp)) := by simpa using h
              exact ⟨HFAR.out HNWu3.out.own HTY7.out, fun g hg => ⟨HFAR.out (HNWu3.out.fac g hg).own HTY8.out, (HNWu3.out.fac g hg).rows⟩⟩
            ·show (s1.ls ++ [(x.n.1, (⟨shT x.op, A2, c2, gs⟩ : Shp))]).map lcore = _
             rw [List.map_append, HLE.out]
             have := HCR.out
             simp [lcore, this])
          go_simp
          refine hK.out _ _ HSu9.out ?_
          clear hK K m0 f0 HFAR
          (try simp only [Act.put, zA4, zA5, zA6])
          generalize (u3.setCell ⟨g5, 0, none⟩ (.slice A6 (s1.ls.length + 1) d6)) = u9 at *
          refine wpOU_done ?_
          go_wp2
          go_meet
          case rel => exact ⟨_, HSu9, HR9, HSN⟩
         ·(refine wpOU_solo (zO rfl) ?_)
          intro K hK
          go_simp
          have hb : Below u1.heap.size u1 (u1.alloc (.cells #[.string x.n.1, .bool (shT x.op), .slice A2 gs.length c2] 51)) := (zB _ _).alloc (zL _) _
          have HSu2 : Hid (Below w1.heap.size w1 (u1.alloc (.cells #[.string x.n.1, .bool (shT x.op), .slice A2 gs.length c2] 51))) := zh (HSu1.out.trans (hb.mono HSu1.out.size))
          have HBSu2 := zh (RowAt.new u1 51 #[.string x.n.1, .bool (shT x.op), .slice A2 gs.length c2])
          have HR5u2 := zh (HR5u1.out.below hb HR5u1.out.lt)
          have HWLu2 := zh (own_below HWLu1.out hb (zL _))
          have HWVu2 := zh (own_below HWVu1.out hb (zL _))
          have HLOu2 : Hid (∀ l ∈ s1.ls, LatO (u1.alloc (.cells #[.string x.n.1, .bool (shT x.op), .slice A2 gs.length c2] 51)) w1.heap.size l) := zh fun l hl => (HLOu1.out l hl).below hb
          have HNWu2 := zh (HNWu1.out.below hb)
          clear hb
          refine hK.out _ _ HSu2.out ?_
          clear hK K
          (try simp only [Act.put, zA4, zA5, zA6])
          generalize hgb : u1.heap.size = gb at *
          generalize (u1.alloc (.cells #[.string x.n.1, .bool (shT x.op), .slice A2 gs.length c2] 51)) = u2 at *
          clear hgb
          (refine wpOU_solo (zO rfl) ?_)
          intro K hK
          have cc := (HR5u2.out.cell 0).trans (show (scv s1)[0]? = some (.slice s1.LA s1.ls.length s1.lc) from rfl)
          go_simp
          clear cc
          refine hK.out _ _ HSu2.out ?_
          clear hK K
          (try simp only [Act.put, zA4, zA5, zA6])
          (refine wpOU_solo (zO rfl) ?_)
          intro K hK
          rw [if_pos (by rfl)]
          refine wp_moreS _ _ 22 rfl 51 (.agg #[.string ⟨#[]⟩, .bool false, .slice none 0 0]) 3 48 Tryz.underlying22 infoLatS rfl (by decide) w1.heap.size s1.LA s1.ls.length s1.lc (s1.ls.flatMap latC) rfl HWLu2.out gb [.string x.n.1, .bool (shT x.op), .slice A2 gs.length c2] rfl rfl (fun j u hu => (HBSu2.out.cell j).trans (by simpa using hu)) (by intro u hu; simp at hu; rcases hu with rfl | rfl | rfl <;> rfl) (by simp only [maxLen]; have := HL1.out; omega) (by have := HL1.out; omega) HSu2.out.size ?_
          intro A6 d6 u3 hown6 hb6 hg6 hat6
          have HSu3 := zh (HSu2.out.trans hb6)
          have HOW6 := zh hown6
          have HR5u3 := zh (HR5u2.out.grown hg6 (own_ne2 HWLu2.out HR5u2.out HTY1.out))
          have HWVu3 := zh (own_grown HWVu2.out hg6 fun k hk => own_ne3 HWVu2.out HWLu2.out HTY4.out hk)
          have HLOu3 : Hid (∀ l ∈ s1.ls, LatO u3 w1.heap.size l) := zh fun l hl => ⟨own_grown (HLOu2.out l hl).own hg6 fun k hk => own_ne3 (HLOu2.out l hl).own HWLu2.out HTY5.out hk, fun g hg => ⟨own_grown ((HLOu2.out l hl).fac g hg).own hg6 fun k hk => own_ne3 ((HLOu2.out l hl).fac g hg).own HWLu2.out HTY6.out hk, ((HLOu2.out l hl).fac g hg).rows⟩⟩
          have HNWu3 : Hid (LatO u3 w1.heap.size (x.n.1, ⟨shT x.op, A2, c2, gs⟩)) := zh ⟨own_grown HNWu2.out.own hg6 fun k hk => own_ne3 HNWu2.out.own HWLu2.out HTY5.out hk, fun g hg => ⟨own_grown (HNWu2.out.fac g hg).own hg6 fun k hk => own_ne3 (HNWu2.out.fac g hg).own HWLu2.out HTY6.out hk, (HNWu2.out.fac g hg).rows⟩⟩
          clear hown6 hb6 hg6 hat6
          refine hK.out _ _ HSu3.out ?_
          clear hK K
          (try simp only [Act.put, zA4, zA5, zA6])
          iterate 1
            (refine wpOU_step (zO rfl) ?_)
            (first
                 | (refine wpOU_skip (by rfl) ?_)
                 | (refine wpOU_take (by rfl) (take_row _ _ rfl w.heap.size rfl _ _ _ C1 Tryz.underlying25 rfl (by kernel_rfl)) ?_)
                 | (refine wpOU_take (by rfl) (take_row _ _ rfl (w.heap.size + 1) rfl _ _ _ C2 Tryz.underlying34 rfl HCI.out) ?_)
                 | (refine wpOU_take (v := ?_) (by rfl) ?_ ?_; rotate_left 1; (intro wx hSx; have hc_0 := C0 wx hSx; go_simp; try with_reducible rfl)))
            (try simp only [Act.put, zA4, zA5, zA6])
          (refine wpOU_solo (zO rfl) ?_)
          intro K hK
          have m0 := (HR5u3.out.cell 0).trans (show (scv s1)[0]? = some (.slice s1.LA s1.ls.length s1.lc) from rfl)
          have f0 := HR5u3.out.free 0
          have HSu9 : Hid (Below w1.heap.size w1 (u3.setCell ⟨g5, 0, none⟩ (.slice A6 (s1.ls.length + 1) d6))) := zh (HSu3.out.setCell (p := ⟨g5, 0, none⟩) HG5.out _)
          have HR9 : Hid (RowAt (u3.setCell ⟨g5, 0, none⟩ (.slice A6 (s1.ls.length + 1) d6)) g5 25 (scv ⟨A6, d6, s1.ls ++ [(x.n.1, (⟨shT x.op, A2, c2, gs⟩ : Shp))], s1.VA, s1.vc, s1.vs⟩)) := zh (by
            have h := HR5u3.out.put 0 (.slice A6 (s1.ls.length + 1) d6)
            have e : (scv s1).setIfInBounds 0 (.slice A6 (s1.ls.length + 1) d6) = scv ⟨A6, d6, s1.ls ++ [(x.n.1, (⟨shT x.op, A2, c2, gs⟩ : Shp))], s1.VA, s1.vc, s1.vs⟩ := by simp [scv]
            rw [← e]; exact h)
          have HFAR : Hid (∀ {base size n : Nat} {e : TypeId} {v : Value} {cs : List Value}, u3.ownsRow base e size v n cs → e ≠ 25 → (u3.setCell ⟨g5, 0, none⟩ (.slice A6 (s1.ls.length + 1) d6)).ownsRow base e size v n cs) := zh fun h ht => ownS_far h HR5u3.out ht _ _
          have HSN : Hid (ScR (u3.setCell ⟨g5, 0, none⟩ (.slice A6 (s1.ls.length + 1) d6)) w1.heap.size ⟨A6, d6, s1.ls ++ [(x.n.1, (⟨shT x.op, A2, c2, gs⟩ : Shp))], s1.VA, s1.vc, s1.vs⟩ (s.ls.map lcore ++ [(x.n.1, shT x.op, (shF s x).map core)]) s.vs) := zh (by
            have hL : (s1.ls ++ [(x.n.1, (⟨shT x.op, A2, c2, gs⟩ : Shp))]).length = s1.ls.length + 1 := by simp
            have hF : (s1.ls ++ [(x.n.1, (⟨shT x.op, A2, c2, gs⟩ : Shp))]).flatMap latC = s1.ls.flatMap latC ++ [.string x.n.1, .bool (shT x.op), .slice A2 gs.length c2] := by simp [latC]
            refine ⟨?_, HFAR.out HWVu3.out HTY2.out, fun l hl => ?_, ?_, HVE.out⟩
            ·show (u3.setCell ⟨g5, 0, none⟩ (.slice A6 (s1.ls.length + 1) d6)).ownsRow w1.heap.size 51 3 (.slice A6 (s1.ls ++ [(x.n.1, (⟨shT x.op, A2, c2, gs⟩ : Shp))]).length d6) (s1.ls ++ [(x.n.1, (⟨shT x.op, A2, c2, gs⟩ : Shp))]).length ((s1.ls ++ [(x.n.1, (⟨shT x.op, A2, c2, gs⟩ : Shp))]).flatMap latC)
             rw [hL, hF]; exact HFAR.out HOW6.out HTY1.out
            ·rcases List.mem_append.1 hl with h | h
             ·exact ⟨HFAR.out (HLOu3.out l h).own HTY7.out, fun g hg => ⟨HFAR.out ((HLOu3.out l h).fac g hg).own HTY8.out, ((HLOu3.out l h).fac g hg).rows⟩⟩
             ·obtain rfl : l = (x.n.1, (⟨shT x.op, A2, c2, gs⟩ : Shp)) := by simpa using h
              exact ⟨HFAR.out HNWu3.out.own HTY7.out, fun g hg => ⟨HFAR.out (HNWu3.out.fac g hg).own HTY8.out, (HNWu3.out.fac g hg).rows⟩⟩
            ·show (s1.ls ++ [(x.n.1, (⟨shT x.op, A2, c2, gs⟩ : Shp))]).map lcore = _
             rw [List.map_append, HLE.out]
             have := HCR.out
             simp [lcore, this])
          go_simp
          refine hK.out _ _ HSu9.out ?_
          clear hK K m0 f0 HFAR
          (try simp only [Act.put, zA4, zA5, zA6])
          generalize (u3.setCell ⟨g5, 0, none⟩ (.slice A6 (s1.ls.length + 1) d6)) = u9 at *
          refine wpOU_done ?_
          go_wp2
          go_meet
          case rel => exact ⟨_, HSu9, HR9, HSN⟩
    case rest =>
        obtain ⟨s2, HSF, HRF, HRR⟩ := hcut
        have HZF := zh (HRZ.out.below HSF.out HRZ.out.lt)
        have d0 := (cd_cells (HRC.out.below HSF.out HRC.out.lt)).1
        have HDV := zh (HDVf.out wc)
        go_wp2_with (first
         | (go_at_call 41; refine HDV.out.mono ?_; rintro e wv ⟨rfl, rfl⟩)
         | (refine wpList_loadS (by rfl) _ _ rfl g5 rfl _ _ _ HRF.out Tryz.underlying25 rfl (by kernel_rfl) ?_)
         | (refine wpList_stRow (by rfl) _ _ _ rfl (w.heap.size + 1 + 1) (scv s2) rfl rfl _ _ HZF.out (by kernel_rfl) rfl (by simp [scv, Value.oneCell']) ?_; intro wz rz he))
        have hsz := HSF.out.size
        have hke : ∀ {size n : Nat} {e : TypeId} {v : Value} {cs : List Value}, wc.ownsRow w1.heap.size e size v n cs → wz.ownsRow w.heap.size e size v n cs := fun h => own_mono (own_same h fun b _ hv => he.block b (by have := (h.lt b hv).1; have := HZL.out; omega)) (by have := HZL.out; omega)
        exact bodyPost_ret (retRow rfl _ _ (w.heap.size + 1 + 1) _ _ (0, 0) _ rfl rz Tryz.underlying25 rfl (by kernel_rfl)) rfl (HQ.out _ _ ⟨s2, rfl, ⟨hke HRR.out.lown, hke HRR.out.vown, fun l hl => ⟨hke (HRR.out.lats l hl).own, fun g hg => ⟨hke ((HRR.out.lats l hl).fac g hg).own, ((HRR.out.lats l hl).fac g hg).rows⟩⟩, HRR.out.le, HRR.out.ve⟩, HB.out.trans ((HSF.out.mono (by have := HZL.out; omega)).trans (he.below (by omega)))⟩)
  | false =>
    cases hdv : dVar x.op with
    | false =>
      have hal : addL s x = s.ls.map lcore := by rw [HAL.out, hdl, Bool.and_false]; simp
      have hav : addV s x = s.vs := by rw [HAV.out, hdv, Bool.and_false]; simp
      rw [hal, hav] at HQ
      have HDV := zh (declVars_any x.op w4)
      rw [hdv] at HDV
      rw [hdl] at HD4
      clear hal hav hdl hdv HAL HAV HDL
      have HRR : Hid (ScR w4 w1.heap.size s1 (s.ls.map lcore) s.vs) := zh ⟨HWL4.out, HWV4.out, HLO4.out, HLE.out, HVE.out⟩
      have HZF := zh (HRZ.out.below HS4.out HRZ.out.lt)
      have HRF := HR54
      have HSF := HS4
      go_upto_region 6 with (go_at_call 40; refine HD4.out.mono ?_; rintro e wv ⟨rfl, rfl⟩)
      go_wp2_with (first
       | (go_at_call 41; refine HDV.out.mono ?_; rintro e wv ⟨rfl, rfl⟩)
       | (refine wpList_loadS (by rfl) _ _ rfl g5 rfl _ _ _ HRF.out Tryz.underlying25 rfl (by kernel_rfl) ?_)
       | (refine wpList_stRow (by rfl) _ _ _ rfl (w.heap.size + 1 + 1) (scv s1) rfl rfl _ _ HZF.out (by kernel_rfl) rfl (by simp [scv, Value.oneCell']) ?_; intro wz rz he))
      have hsz := HSF.out.size
      have hke : ∀ {size n : Nat} {e : TypeId} {v : Value} {cs : List Value}, w4.ownsRow w1.heap.size e size v n cs → wz.ownsRow w.heap.size e size v n cs := fun h => own_mono (own_same h fun b _ hv => he.block b (by have := (h.lt b hv).1; have := HZL.out; omega)) (by have := HZL.out; omega)
      exact bodyPost_ret (retRow rfl _ _ (w.heap.size + 1 + 1) _ _ (0, 0) _ rfl rz Tryz.underlying25 rfl (by kernel_rfl)) rfl (HQ.out _ _ ⟨s1, rfl, ⟨hke HRR.out.lown, hke HRR.out.vown, fun l hl => ⟨hke (HRR.out.lats l hl).own, fun g hg => ⟨hke ((HRR.out.lats l hl).fac g hg).own, ((HRR.out.lats l hl).fac g hg).rows⟩⟩, HRR.out.le, HRR.out.ve⟩, HB.out.trans ((HSF.out.mono (by have := HZL.out; omega)).trans (he.below (by omega)))⟩)
    | true =>
      have hal : addL s x = s.ls.map lcore := by rw [HAL.out, hdl, Bool.and_false]; simp
      have hav : addV s x = s.vs ++ x.ws.map fun y => (y.1, kindN x.op, idx s.lnms x.n.1) := by rw [HAV.out, zE HF0.out, hdv]; rfl
      rw [hal, hav] at HQ
      have HDV := zh (declVars_any x.op w4)
      rw [hdv] at HDV
      rw [hdl] at HD4
      clear hal hav hdl hdv HAL HAV HDL
      have d2 := (cd_cells HRC4.out).2.2.1
      have HRS4 := zh (HRS.out.below HS4.out HRS.out.lt)
      have HFN := zh (scFind_any s x.n.1 w4 (HOKf.out _ HS4.out))
      generalize idx s.lnms x.n.1 = lx at *
      generalize idx s.vnms x.n.1 = vx at *
      have HWF : Hid (x.ws.length ≤ 65536) := zh (HXf.out _ HS4.out).wfew
      go_upto_region 8 with (first
       | (go_at_call 40; refine HD4.out.mono ?_; rintro e wv ⟨rfl, rfl⟩)
       | (go_at_call 41; refine HDV.out.mono ?_; rintro e wv ⟨rfl, rfl⟩)
       | (refine wpList_loadS (by rfl) _ _ rfl w.heap.size rfl _ _ _ HRS4.out Tryz.underlying25 rfl (by kernel_rfl) ?_)
       | (go_at_call 14; refine HFN.out.mono ?_; rintro e w6 ⟨rfl, hb6⟩; have HB6 := zh hb6; clear hb6))
      clear d0 d2
      have HS6 := zh (HS4.out.trans (HB6.out.mono HS4.out.size))
      have HR56 := zh (HR54.out.below HB6.out HR54.out.lt)
      have HRR6 : Hid (ScR w6 w1.heap.size s1 (s.ls.map lcore) (s.vs ++ (x.ws.take 0).map fun y => (y.1, kindN x.op, lx))) := zh ⟨own_below HWL4.out HB6.out (zL _), own_below HWV4.out HB6.out (zL _), fun l hl => (HLO4.out l hl).below HB6.out, HLE.out, by simp [HVE.out]⟩
      have d4 := (cd_cells (HRC.out.below HS6.out HRC.out.lt)).2.2.2.2.1
      have HG54 : Hid (g5 < w6.heap.size) := zh HR56.out.lt
      have HVS : Hid (s.vs.length ≤ 65536) := zh (HOKf.out _ HS4.out).vfew
      have HTY9 : Hid (55 ≠ 27) := zh (by show (55 : Nat) ≠ 27; decide)
      have HTY10 : Hid (100 ≠ 55) := zh (by show (100 : Nat) ≠ 55; decide)
      have HTY11 : Hid (9 ≠ 55) := zh (by show (9 : Nat) ≠ 55; decide)
      have HTK : Hid (∀ k, k < x.ws.length → s.vs ++ (x.ws.take (k + 1)).map (fun y => (y.1, kindN x.op, lx)) = (s.vs ++ (x.ws.take k).map fun y => (y.1, kindN x.op, lx)) ++ [((x.ws.getD k wd0).1, kindN x.op, lx)]) := zh fun k hk => by
       rw [List.take_succ_eq_append_getElem hk, List.map_append, List.append_assoc, List.getD_eq_getElem?_getD, List.getElem?_eq_getElem hk]; rfl
      have HTA : Hid (x.ws.take x.ws.length = x.ws) := zh (List.take_of_length_le (zL _))
      generalize hn : x.ws.length = n at *
      have HN := zh hn; clear hn
      clear HWL4 HWV4 HLO4 HR54 HRS4 HRC4 HFN HD4 HDV
      go_wp2_with fail
      clear d4
      go_loopw [9, 47] (fun _ kv wr => ∃ (k : Nat) (s2 : Sc), k ≤ n ∧ kv = .int .i64 k ∧ Hid (Below w1.heap.size w1 wr) ∧ Hid (RowAt wr g5 25 (scv s2)) ∧ Hid (ScR wr w1.heap.size s2 (s.ls.map lcore) (s.vs ++ (x.ws.take k).map fun y => (y.1, kindN x.op, lx)))) (fun _ kv _ => n - (intOf kv).toNat)
      case atStart => exact ⟨0, s1, by omega, rfl, HS6, HR56, HRR6⟩
      case round =>
       clear HS6 HR56 HRR6 HB6
       obtain ⟨k, s2, hk, rfl, HSr, HRr, HRRr⟩ := hrel
       by_cases hlt : k < n
       ·have HLT := zh hlt
        obtain ⟨b1, o1, hA, p0, p1⟩ := word_at (HXf.out _ HSr.out) (by have := HSr.out.size; have := HZL.out; omega) (k := k) (by rw [HN.out]; exact hlt)
        have HTKk := zh (HTK.out k hlt)
        have HVE2 := zh HRRr.out.ve
        have HLE2 := zh HRRr.out.le
        have HVB : Hid (s2.vs.length ≤ 131072) := zh (by
            rw [HVE2.out, zA7, List.length_map, List.length_take]
            have := HVS.out; have := HWF.out; omega)
        have hk16 : k < 65536 := by have := HWF.out; omega
        have hbx : Below wr.heap.size wr (wr.alloc (.cells #[.string (x.ws.getD k wd0).1, .int .i64 (x.ws.getD k wd0).2] 27)) := (zB _ _).alloc (zL _) _
        have HSx : Hid (Below w1.heap.size w1 (wr.alloc (.cells #[.string (x.ws.getD k wd0).1, .int .i64 (x.ws.getD k wd0).2] 27))) := zh (HSr.out.trans (hbx.mono HSr.out.size))
        have HRx := zh (HRr.out.below hbx HRr.out.lt)
        have HWLx := zh (own_below HRRr.out.lown hbx (zL _))
        have HWVx := zh (own_below HRRr.out.vown hbx (zL _))
        have HLOx : Hid (∀ l ∈ s2.ls, LatO (wr.alloc (.cells #[.string (x.ws.getD k wd0).1, .int .i64 (x.ws.getD k wd0).2] 27)) w1.heap.size l) := zh fun l hl => (HRRr.out.lats l hl).below hbx
        have HWD := zh (RowAt.new wr 27 #[.string (x.ws.getD k wd0).1, .int .i64 (x.ws.getD k wd0).2])
        have HGW : Hid (g5 ≠ wr.heap.size) := zh (by have := HRr.out.lt; omega)
        clear hbx
        generalize x.A = XA at *
        subst hA
        generalize (x.ws.getD k wd0).1 = nm at *
        generalize (x.ws.getD k wd0).2 = f1 at *
        go_upto_region 11 with fail
        change Code.wp _ _ _ _ (wr.alloc (.cells #[.string nm, .int .i64 f1] 27))
        generalize wr.alloc (.cells #[.string nm, .int .i64 f1] 27) = wx at *
        generalize wr.heap.size = gw at *
        clear p0 p1
        have C0 : ∀ W, (Below w1.heap.size w1 W ∧ RowAt W gw 27 #[.string nm, .int .i64 f1]) → W.cell? ⟨gw, 0, none⟩ = some (.string nm) := fun W h => (h.2.cell 0).trans rfl
        have C1 : ∀ W, (Below w1.heap.size w1 W ∧ RowAt W gw 27 #[.string nm, .int .i64 f1]) → W.cell? ⟨w.heap.size + 1, 0, none⟩ = some (.int .i64 x.op) := fun W h => (cd_cells (HRC.out.below h.1 HRC.out.lt)).1
        have HSu0 : Hid (Below w1.heap.size w1 wx.drew ∧ RowAt wx.drew gw 27 #[.string nm, .int .i64 f1]) := zh ⟨HSx.out.drew, HWD.out⟩
        have HR5u0 : Hid (RowAt wx.drew g5 25 (scv s2)) := HRx
        have HWLu0 : Hid (wx.drew.ownsRow w1.heap.size 51 3 (.slice s2.LA s2.ls.length s2.lc) s2.ls.length (s2.ls.flatMap latC)) := HWLx
        have HWVu0 : Hid (wx.drew.ownsRow w1.heap.size 55 3 (.slice s2.VA s2.vs.length s2.vc) s2.vs.length (s2.vs.flatMap varC)) := HWVx
        have HLOu0 : Hid (∀ l ∈ s2.ls, LatO wx.drew w1.heap.size l) := zh fun l hl => (HLOx.out l hl).below (zB _ _).drew
        refine wp_region_ou (fun W => Below w1.heap.size w1 W ∧ RowAt W gw 27 #[.string nm, .int .i64 f1]) ((.take 0 (.take 2 (.take 3 (.take 4 (.take 5 (.take 7 (.two 1 (.solo 6 (.take 8 (.solo 9 (.solo 10 (.take 11 (.solo 12 .nil)))))) 6 (.take 8 (.two 1 (.solo 9 (.solo 10 (.take 11 (.solo 12 .nil)))) 9 (.solo 1 (.solo 10 (.take 11 (.solo 12 .nil)))))))))))))) (by kernel_rfl) (by kernel_rfl) rfl (by kernel_rfl) HSu0.out ?_
        generalize wx.drew = u0 at HSu0 HR5u0 HWLu0 HWVu0 HLOu0 ⊢
        iterate 6
            (refine wpOU_step (zO rfl) ?_)
            (first
                  | (refine wpOU_skip (by rfl) ?_)
                  | (refine wpOU_take (v := ?_) (by rfl) ?_ ?_; rotate_left 1; (intro wx hSx; have hc_0 := C0 wx hSx; have hc_1 := C1 wx hSx; go_simp; try with_reducible rfl)))
            (try simp only [Act.put, zA4, zA5, zA6])
        refine wpOU_two ?_ ?_
        ·(refine wpOU_solo (zO rfl) ?_)
         intro K hK
         have cc := (HR5u0.out.cell 1).trans (show (scv s2)[1]? = some (.slice s2.VA s2.vs.length s2.vc) from rfl)
         go_simp
         clear cc
         refine hK.out _ _ HSu0.out ?_
         clear hK K
         (try simp only [Act.put, zA4, zA5, zA6])
         (refine wpOU_solo (zO rfl) ?_)
         intro K hK
         go_simp
         go_at_call 42
         refine (kindOf_any x.op u0).mono ?_
         rintro e n ⟨rfl, rfl⟩
         refine hK.out _ _ HSu0.out ?_
         clear hK K
         (try simp only [Act.put, zA4, zA5, zA6])
         iterate 1
              (refine wpOU_step (zO rfl) ?_)
              (first
                    | (refine wpOU_skip (by rfl) ?_)
                    | (refine wpOU_take (v := ?_) (by rfl) ?_ ?_; rotate_left 1; (intro wx hSx; have hc_0 := C0 wx hSx; have hc_1 := C1 wx hSx; go_simp; try with_reducible rfl)))
              (try simp only [Act.put, zA4, zA5, zA6])
         (refine wpOU_solo (zO rfl) ?_)
         intro K hK
         go_simp
         have hb : Below u0.heap.size u0 (u0.alloc (.cells #[.string nm, .int .i64 (kindN x.op), .int .i64 lx] 55)) := (zB _ _).alloc (zL _) _
         have HSu1 : Hid (Below w1.heap.size w1 (u0.alloc (.cells #[.string nm, .int .i64 (kindN x.op), .int .i64 lx] 55)) ∧ RowAt (u0.alloc (.cells #[.string nm, .int .i64 (kindN x.op), .int .i64 lx] 55)) gw 27 #[.string nm, .int .i64 f1]) := zh ⟨HSu0.out.1.trans (hb.mono HSu0.out.1.size), HSu0.out.2.below hb HSu0.out.2.lt⟩
         have HBSu1 := zh (RowAt.new u0 55 #[.string nm, .int .i64 (kindN x.op), .int .i64 lx])
         have HR5u1 := zh (HR5u0.out.below hb HR5u0.out.lt)
         have HWLu1 := zh (own_below HWLu0.out hb (zL _))
         have HWVu1 := zh (own_below HWVu0.out hb (zL _))
         have HLOu1 : Hid (∀ l ∈ s2.ls, LatO (u0.alloc (.cells #[.string nm, .int .i64 (kindN x.op), .int .i64 lx] 55)) w1.heap.size l) := zh fun l hl => (HLOu0.out l hl).below hb
         clear hb
         refine hK.out _ _ HSu1.out ?_
         clear hK K
         (try simp only [Act.put, zA4, zA5, zA6])
         generalize hgb : u0.heap.size = gb at *
         generalize (u0.alloc (.cells #[.string nm, .int .i64 (kindN x.op), .int .i64 lx] 55)) = u1 at *
         clear hgb
         (refine wpOU_solo (zO rfl) ?_)
         intro K hK
         rw [if_pos (by rfl)]
         refine wp_moreS _ _ 23 rfl 55 (.agg #[.string ⟨#[]⟩, .int .i64 0, .int .i64 0]) 3 32 Tryz.underlying23 infoVarS rfl (by decide) w1.heap.size s2.VA s2.vs.length s2.vc (s2.vs.flatMap varC) rfl HWVu1.out gb [.string nm, .int .i64 (kindN x.op), .int .i64 lx] rfl rfl (fun j u hu => (HBSu1.out.cell j).trans (by simpa using hu)) (by intro u hu; simp at hu; rcases hu with rfl | rfl | rfl <;> rfl) (by simp only [maxLen]; have := HVB.out; omega) (by have := HVB.out; omega) HSu1.out.1.size ?_
         intro A6 d6 u2 hown6 hb6 hg6 hat6
         have HSu2 : Hid (Below w1.heap.size w1 u2 ∧ RowAt u2 gw 27 #[.string nm, .int .i64 f1]) := zh ⟨HSu1.out.1.trans hb6, HSu1.out.2.grown hg6 (own_ne2 HWVu1.out HSu1.out.2 HTY9.out)⟩
         have HOW6 := zh hown6
         have HR5u2 := zh (HR5u1.out.grown hg6 (own_ne2 HWVu1.out HR5u1.out HTY2.out))
         have HWLu2 := zh (own_grown HWLu1.out hg6 fun k hk => own_ne3 HWLu1.out HWVu1.out HTY4.out.symm hk)
         have HLOu2 : Hid (∀ l ∈ s2.ls, LatO u2 w1.heap.size l) := zh fun l hl => ⟨own_grown (HLOu1.out l hl).own hg6 fun k hk => own_ne3 (HLOu1.out l hl).own HWVu1.out HTY10.out hk, fun g hg => ⟨own_grown ((HLOu1.out l hl).fac g hg).own hg6 fun k hk => own_ne3 ((HLOu1.out l hl).fac g hg).own HWVu1.out HTY11.out hk, ((HLOu1.out l hl).fac g hg).rows⟩⟩
         clear hown6 hb6 hg6 hat6
         refine hK.out _ _ HSu2.out ?_
         clear hK K
         (try simp only [Act.put, zA4, zA5, zA6])
         iterate 1
              (refine wpOU_step (zO rfl) ?_)
              (first
                    | (refine wpOU_skip (by rfl) ?_)
                    | (refine wpOU_take (v := ?_) (by rfl) ?_ ?_; rotate_left 1; (intro wx hSx; have hc_0 := C0 wx hSx; have hc_1 := C1 wx hSx; go_simp; try with_reducible rfl)))
              (try simp only [Act.put, zA4, zA5, zA6])
         (refine wpOU_solo (zO rfl) ?_)
         intro K hK
         have m0 := (HR5u2.out.cell 1).trans (show (scv s2)[1]? = some (.slice s2.VA s2.vs.length s2.vc) from rfl)
         have f0 := HR5u2.out.free 1
         have HSu9 : Hid (Below w1.heap.size w1 (u2.setCell ⟨g5, 1, none⟩ (.slice A6 (s2.vs.length + 1) d6)) ∧ RowAt (u2.setCell ⟨g5, 1, none⟩ (.slice A6 (s2.vs.length + 1) d6)) gw 27 #[.string nm, .int .i64 f1]) := zh ⟨HSu2.out.1.setCell (p := ⟨g5, 1, none⟩) HG5.out _, HSu2.out.2.far (p := ⟨g5, 1, none⟩) HGW.out _⟩
         have HR9 : Hid (RowAt (u2.setCell ⟨g5, 1, none⟩ (.slice A6 (s2.vs.length + 1) d6)) g5 25 (scv ⟨s2.LA, s2.lc, s2.ls, A6, d6, s2.vs ++ [(nm, kindN x.op, lx)]⟩)) := zh (by
              have h := HR5u2.out.put 1 (.slice A6 (s2.vs.length + 1) d6)
              have e : (scv s2).setIfInBounds 1 (.slice A6 (s2.vs.length + 1) d6) = scv ⟨s2.LA, s2.lc, s2.ls, A6, d6, s2.vs ++ [(nm, kindN x.op, lx)]⟩ := by simp [scv]
              rw [← e]; exact h)
         have HFAR : Hid (∀ {base size n : Nat} {e : TypeId} {v : Value} {cs : List Value}, u2.ownsRow base e size v n cs → e ≠ 25 → (u2.setCell ⟨g5, 1, none⟩ (.slice A6 (s2.vs.length + 1) d6)).ownsRow base e size v n cs) := zh fun h ht => ownS_far h HR5u2.out ht _ _
         have HSN : Hid (ScR (u2.setCell ⟨g5, 1, none⟩ (.slice A6 (s2.vs.length + 1) d6)) w1.heap.size ⟨s2.LA, s2.lc, s2.ls, A6, d6, s2.vs ++ [(nm, kindN x.op, lx)]⟩ (s.ls.map lcore) (s2.vs ++ [(nm, kindN x.op, lx)])) := zh (by
              have hL : (s2.vs ++ [(nm, kindN x.op, lx)]).length = s2.vs.length + 1 := by simp
              have hF : (s2.vs ++ [(nm, kindN x.op, lx)]).flatMap varC = s2.vs.flatMap varC ++ [.string nm, .int .i64 (kindN x.op), .int .i64 lx] := by simp [varC]
              refine ⟨HFAR.out HWLu2.out HTY1.out, ?_, fun l hl => ⟨HFAR.out (HLOu2.out l hl).own HTY7.out, fun g hg => ⟨HFAR.out ((HLOu2.out l hl).fac g hg).own HTY8.out, ((HLOu2.out l hl).fac g hg).rows⟩⟩, HLE2.out, rfl⟩
              show (u2.setCell ⟨g5, 1, none⟩ (.slice A6 (s2.vs.length + 1) d6)).ownsRow w1.heap.size 55 3 (.slice A6 (s2.vs ++ [(nm, kindN x.op, lx)]).length d6) (s2.vs ++ [(nm, kindN x.op, lx)]).length ((s2.vs ++ [(nm, kindN x.op, lx)]).flatMap varC)
              rw [hL, hF]; exact HFAR.out HOW6.out HTY2.out)
         go_simp
         refine hK.out _ _ HSu9.out ?_
         clear hK K m0 f0 HFAR
         (try simp only [Act.put, zA4, zA5, zA6])
         generalize (u2.setCell ⟨g5, 1, none⟩ (.slice A6 (s2.vs.length + 1) d6)) = u9 at *
         refine wpOU_done ?_
         go_wp2
         go_roundw
         case rel => exact ⟨k + 1, ⟨s2.LA, s2.lc, s2.ls, A6, d6, s2.vs ++ [(nm, kindN x.op, lx)]⟩, by have := HLT.out; omega, by go_num, zh HSu9.out.1, HR9, zh ⟨HSN.out.lown, HSN.out.vown, HSN.out.lats, HSN.out.le, by rw [HTKk.out, ← HVE2.out]⟩⟩
         case measure => have := HLT.out; simp [intOf]; omega
        ·(refine wpOU_solo (zO rfl) ?_)
         intro K hK
         go_simp
         go_at_call 42
         refine (kindOf_any x.op u0).mono ?_
         rintro e n ⟨rfl, rfl⟩
         refine hK.out _ _ HSu0.out ?_
         clear hK K
         (try simp only [Act.put, zA4, zA5, zA6])
         iterate 1
              (refine wpOU_step (zO rfl) ?_)
              (first
                    | (refine wpOU_skip (by rfl) ?_)
                    | (refine wpOU_take (v := ?_) (by rfl) ?_ ?_; rotate_left 1; (intro wx hSx; have hc_0 := C0 wx hSx; have hc_1 := C1 wx hSx; go_simp; try with_reducible rfl)))
              (try simp only [Act.put, zA4, zA5, zA6])
         refine wpOU_two ?_ ?_
         ·(refine wpOU_solo (zO rfl) ?_)
          intro K hK
          have cc := (HR5u0.out.cell 1).trans (show (scv s2)[1]? = some (.slice s2.VA s2.vs.length s2.vc) from rfl)
          go_simp
          clear cc
          refine hK.out _ _ HSu0.out ?_
          clear hK K
          (try simp only [Act.put, zA4, zA5, zA6])
          (refine wpOU_solo (zO rfl) ?_)
          intro K hK
          go_simp
          have hb : Below u0.heap.size u0 (u0.alloc (.cells #[.string nm, .int .i64 (kindN x.op), .int .i64 lx] 55)) := (zB _ _).alloc (zL _) _
          have HSu1 : Hid (Below w1.heap.size w1 (u0.alloc (.cells #[.string nm, .int .i64 (kindN x.op), .int .i64 lx] 55)) ∧ RowAt (u0.alloc (.cells #[.string nm, .int .i64 (kindN x.op), .int .i64 lx] 55)) gw 27 #[.string nm, .int .i64 f1]) := zh ⟨HSu0.out.1.trans (hb.mono HSu0.out.1.size), HSu0.out.2.below hb HSu0.out.2.lt⟩
          have HBSu1 := zh (RowAt.new u0 55 #[.string nm, .int .i64 (kindN x.op), .int .i64 lx])
          have HR5u1 := zh (HR5u0.out.below hb HR5u0.out.lt)
          have HWLu1 := zh (own_below HWLu0.out hb (zL _))
          have HWVu1 := zh (own_below HWVu0.out hb (zL _))
          have HLOu1 : Hid (∀ l ∈ s2.ls, LatO (u0.alloc (.cells #[.string nm, .int .i64 (kindN x.op), .int .i64 lx] 55)) w1.heap.size l) := zh fun l hl => (HLOu0.out l hl).below hb
          clear hb
          refine hK.out _ _ HSu1.out ?_
          clear hK K
          (try simp only [Act.put, zA4, zA5, zA6])
          generalize hgb : u0.heap.size = gb at *
          generalize (u0.alloc (.cells #[.string nm, .int .i64 (kindN x.op), .int .i64 lx] 55)) = u1 at *
          clear hgb
          (refine wpOU_solo (zO rfl) ?_)
          intro K hK
          rw [if_pos (by rfl)]
          refine wp_moreS _ _ 23 rfl 55 (.agg #[.string ⟨#[]⟩, .int .i64 0, .int .i64 0]) 3 32 Tryz.underlying23 infoVarS rfl (by decide) w1.heap.size s2.VA s2.vs.length s2.vc (s2.vs.flatMap varC) rfl HWVu1.out gb [.string nm, .int .i64 (kindN x.op), .int .i64 lx] rfl rfl (fun j u hu => (HBSu1.out.cell j).trans (by simpa using hu)) (by intro u hu; simp at hu; rcases hu with rfl | rfl | rfl <;> rfl) (by simp only [maxLen]; have := HVB.out; omega) (by have := HVB.out; omega) HSu1.out.1.size ?_
          intro A6 d6 u2 hown6 hb6 hg6 hat6
          have HSu2 : Hid (Below w1.heap.size w1 u2 ∧ RowAt u2 gw 27 #[.string nm, .int .i64 f1]) := zh ⟨HSu1.out.1.trans hb6, HSu1.out.2.grown hg6 (own_ne2 HWVu1.out HSu1.out.2 HTY9.out)⟩
          have HOW6 := zh hown6
          have HR5u2 := zh (HR5u1.out.grown hg6 (own_ne2 HWVu1.out HR5u1.out HTY2.out))
          have HWLu2 := zh (own_grown HWLu1.out hg6 fun k hk => own_ne3 HWLu1.out HWVu1.out HTY4.out.symm hk)
          have HLOu2 : Hid (∀ l ∈ s2.ls, LatO u2 w1.heap.size l) := zh fun l hl => ⟨own_grown (HLOu1.out l hl).own hg6 fun k hk => own_ne3 (HLOu1.out l hl).own HWVu1.out HTY10.out hk, fun g hg => ⟨own_grown ((HLOu1.out l hl).fac g hg).own hg6 fun k hk => own_ne3 ((HLOu1.out l hl).fac g hg).own HWVu1.out HTY11.out hk, ((HLOu1.out l hl).fac g hg).rows⟩⟩
          clear hown6 hb6 hg6 hat6
          refine hK.out _ _ HSu2.out ?_
          clear hK K
          (try simp only [Act.put, zA4, zA5, zA6])
          iterate 1
                  (refine wpOU_step (zO rfl) ?_)
                  (first
                   | (refine wpOU_skip (by rfl) ?_)
                   | (refine wpOU_take (v := ?_) (by rfl) ?_ ?_; rotate_left 1; (intro wx hSx; have hc_0 := C0 wx hSx; have hc_1 := C1 wx hSx; go_simp; try with_reducible rfl)))
                  (try simp only [Act.put, zA4, zA5, zA6])
          (refine wpOU_solo (zO rfl) ?_)
          intro K hK
          have m0 := (HR5u2.out.cell 1).trans (show (scv s2)[1]? = some (.slice s2.VA s2.vs.length s2.vc) from rfl)
          have f0 := HR5u2.out.free 1
          have HSu9 : Hid (Below w1.heap.size w1 (u2.setCell ⟨g5, 1, none⟩ (.slice A6 (s2.vs.length + 1) d6)) ∧ RowAt (u2.setCell ⟨g5, 1, none⟩ (.slice A6 (s2.vs.length + 1) d6)) gw 27 #[.string nm, .int .i64 f1]) := zh ⟨HSu2.out.1.setCell (p := ⟨g5, 1, none⟩) HG5.out _, HSu2.out.2.far (p := ⟨g5, 1, none⟩) HGW.out _⟩
          have HR9 : Hid (RowAt (u2.setCell ⟨g5, 1, none⟩ (.slice A6 (s2.vs.length + 1) d6)) g5 25 (scv ⟨s2.LA, s2.lc, s2.ls, A6, d6, s2.vs ++ [(nm, kindN x.op, lx)]⟩)) := zh (by
                  have h := HR5u2.out.put 1 (.slice A6 (s2.vs.length + 1) d6)
                  have e : (scv s2).setIfInBounds 1 (.slice A6 (s2.vs.length + 1) d6) = scv ⟨s2.LA, s2.lc, s2.ls, A6, d6, s2.vs ++ [(nm, kindN x.op, lx)]⟩ := by simp [scv]
                  rw [← e]; exact h)
          have HFAR : Hid (∀ {base size n : Nat} {e : TypeId} {v : Value} {cs : List Value}, u2.ownsRow base e size v n cs → e ≠ 25 → (u2.setCell ⟨g5, 1, none⟩ (.slice A6 (s2.vs.length + 1) d6)).ownsRow base e size v n cs) := zh fun h ht => ownS_far h HR5u2.out ht _ _
          have HSN : Hid (ScR (u2.setCell ⟨g5, 1, none⟩ (.slice A6 (s2.vs.length + 1) d6)) w1.heap.size ⟨s2.LA, s2.lc, s2.ls, A6, d6, s2.vs ++ [(nm, kindN x.op, lx)]⟩ (s.ls.map lcore) (s2.vs ++ [(nm, kindN x.op, lx)])) := zh (by
                  have hL : (s2.vs ++ [(nm, kindN x.op, lx)]).length = s2.vs.length + 1 := by simp
                  have hF : (s2.vs ++ [(nm, kindN x.op, lx)]).flatMap varC = s2.vs.flatMap varC ++ [.string nm, .int .i64 (kindN x.op), .int .i64 lx] := by simp [varC]
                  refine ⟨HFAR.out HWLu2.out HTY1.out, ?_, fun l hl => ⟨HFAR.out (HLOu2.out l hl).own HTY7.out, fun g hg => ⟨HFAR.out ((HLOu2.out l hl).fac g hg).own HTY8.out, ((HLOu2.out l hl).fac g hg).rows⟩⟩, HLE2.out, rfl⟩
                  show (u2.setCell ⟨g5, 1, none⟩ (.slice A6 (s2.vs.length + 1) d6)).ownsRow w1.heap.size 55 3 (.slice A6 (s2.vs ++ [(nm, kindN x.op, lx)]).length d6) (s2.vs ++ [(nm, kindN x.op, lx)]).length ((s2.vs ++ [(nm, kindN x.op, lx)]).flatMap varC)
                  rw [hL, hF]; exact HFAR.out HOW6.out HTY2.out)
          go_simp
          refine hK.out _ _ HSu9.out ?_
          clear hK K m0 f0 HFAR
          (try simp only [Act.put, zA4, zA5, zA6])
          generalize (u2.setCell ⟨g5, 1, none⟩ (.slice A6 (s2.vs.length + 1) d6)) = u9 at *
          refine wpOU_done ?_
          go_wp2
          go_roundw
          case rel => exact ⟨k + 1, ⟨s2.LA, s2.lc, s2.ls, A6, d6, s2.vs ++ [(nm, kindN x.op, lx)]⟩, by have := HLT.out; omega, by go_num, zh HSu9.out.1, HR9, zh ⟨HSN.out.lown, HSN.out.vown, HSN.out.lats, HSN.out.le, by rw [HTKk.out, ← HVE2.out]⟩⟩
          case measure => have := HLT.out; simp [intOf]; omega
         ·(refine wpOU_solo (zO rfl) ?_)
          intro K hK
          go_simp
          have hb : Below u0.heap.size u0 (u0.alloc (.cells #[.string nm, .int .i64 (kindN x.op), .int .i64 lx] 55)) := (zB _ _).alloc (zL _) _
          have HSu1 : Hid (Below w1.heap.size w1 (u0.alloc (.cells #[.string nm, .int .i64 (kindN x.op), .int .i64 lx] 55)) ∧ RowAt (u0.alloc (.cells #[.string nm, .int .i64 (kindN x.op), .int .i64 lx] 55)) gw 27 #[.string nm, .int .i64 f1]) := zh ⟨HSu0.out.1.trans (hb.mono HSu0.out.1.size), HSu0.out.2.below hb HSu0.out.2.lt⟩
          have HBSu1 := zh (RowAt.new u0 55 #[.string nm, .int .i64 (kindN x.op), .int .i64 lx])
          have HR5u1 := zh (HR5u0.out.below hb HR5u0.out.lt)
          have HWLu1 := zh (own_below HWLu0.out hb (zL _))
          have HWVu1 := zh (own_below HWVu0.out hb (zL _))
          have HLOu1 : Hid (∀ l ∈ s2.ls, LatO (u0.alloc (.cells #[.string nm, .int .i64 (kindN x.op), .int .i64 lx] 55)) w1.heap.size l) := zh fun l hl => (HLOu0.out l hl).below hb
          clear hb
          refine hK.out _ _ HSu1.out ?_
          clear hK K
          (try simp only [Act.put, zA4, zA5, zA6])
          generalize hgb : u0.heap.size = gb at *
          generalize (u0.alloc (.cells #[.string nm, .int .i64 (kindN x.op), .int .i64 lx] 55)) = u1 at *
          clear hgb
          (refine wpOU_solo (zO rfl) ?_)
          intro K hK
          have cc := (HR5u1.out.cell 1).trans (show (scv s2)[1]? = some (.slice s2.VA s2.vs.length s2.vc) from rfl)
          go_simp
          clear cc
          refine hK.out _ _ HSu1.out ?_
          clear hK K
          (try simp only [Act.put, zA4, zA5, zA6])
          (refine wpOU_solo (zO rfl) ?_)
          intro K hK
          rw [if_pos (by rfl)]
          refine wp_moreS _ _ 23 rfl 55 (.agg #[.string ⟨#[]⟩, .int .i64 0, .int .i64 0]) 3 32 Tryz.underlying23 infoVarS rfl (by decide) w1.heap.size s2.VA s2.vs.length s2.vc (s2.vs.flatMap varC) rfl HWVu1.out gb [.string nm, .int .i64 (kindN x.op), .int .i64 lx] rfl rfl (fun j u hu => (HBSu1.out.cell j).trans (by simpa using hu)) (by intro u hu; simp at hu; rcases hu with rfl | rfl | rfl <;> rfl) (by simp only [maxLen]; have := HVB.out; omega) (by have := HVB.out; omega) HSu1.out.1.size ?_
          intro A6 d6 u2 hown6 hb6 hg6 hat6
          have HSu2 : Hid (Below w1.heap.size w1 u2 ∧ RowAt u2 gw 27 #[.string nm, .int .i64 f1]) := zh ⟨HSu1.out.1.trans hb6, HSu1.out.2.grown hg6 (own_ne2 HWVu1.out HSu1.out.2 HTY9.out)⟩
          have HOW6 := zh hown6
          have HR5u2 := zh (HR5u1.out.grown hg6 (own_ne2 HWVu1.out HR5u1.out HTY2.out))
          have HWLu2 := zh (own_grown HWLu1.out hg6 fun k hk => own_ne3 HWLu1.out HWVu1.out HTY4.out.symm hk)
          have HLOu2 : Hid (∀ l ∈ s2.ls, LatO u2 w1.heap.size l) := zh fun l hl => ⟨own_grown (HLOu1.out l hl).own hg6 fun k hk => own_ne3 (HLOu1.out l hl).own HWVu1.out HTY10.out hk, fun g hg => ⟨own_grown ((HLOu1.out l hl).fac g hg).own hg6 fun k hk => own_ne3 ((HLOu1.out l hl).fac g hg).own HWVu1.out HTY11.out hk, ((HLOu1.out l hl).fac g hg).rows⟩⟩
          clear hown6 hb6 hg6 hat6
          refine hK.out _ _ HSu2.out ?_
          clear hK K
          (try simp only [Act.put, zA4, zA5, zA6])
          iterate 1
                  (refine wpOU_step (zO rfl) ?_)
                  (first
                   | (refine wpOU_skip (by rfl) ?_)
                   | (refine wpOU_take (v := ?_) (by rfl) ?_ ?_; rotate_left 1; (intro wx hSx; have hc_0 := C0 wx hSx; have hc_1 := C1 wx hSx; go_simp; try with_reducible rfl)))
                  (try simp only [Act.put, zA4, zA5, zA6])
          (refine wpOU_solo (zO rfl) ?_)
          intro K hK
          have m0 := (HR5u2.out.cell 1).trans (show (scv s2)[1]? = some (.slice s2.VA s2.vs.length s2.vc) from rfl)
          have f0 := HR5u2.out.free 1
          have HSu9 : Hid (Below w1.heap.size w1 (u2.setCell ⟨g5, 1, none⟩ (.slice A6 (s2.vs.length + 1) d6)) ∧ RowAt (u2.setCell ⟨g5, 1, none⟩ (.slice A6 (s2.vs.length + 1) d6)) gw 27 #[.string nm, .int .i64 f1]) := zh ⟨HSu2.out.1.setCell (p := ⟨g5, 1, none⟩) HG5.out _, HSu2.out.2.far (p := ⟨g5, 1, none⟩) HGW.out _⟩
          have HR9 : Hid (RowAt (u2.setCell ⟨g5, 1, none⟩ (.slice A6 (s2.vs.length + 1) d6)) g5 25 (scv ⟨s2.LA, s2.lc, s2.ls, A6, d6, s2.vs ++ [(nm, kindN x.op, lx)]⟩)) := zh (by
                  have h := HR5u2.out.put 1 (.slice A6 (s2.vs.length + 1) d6)
                  have e : (scv s2).setIfInBounds 1 (.slice A6 (s2.vs.length + 1) d6) = scv ⟨s2.LA, s2.lc, s2.ls, A6, d6, s2.vs ++ [(nm, kindN x.op, lx)]⟩ := by simp [scv]
                  rw [← e]; exact h)
          have HFAR : Hid (∀ {base size n : Nat} {e : TypeId} {v : Value} {cs : List Value}, u2.ownsRow base e size v n cs → e ≠ 25 → (u2.setCell ⟨g5, 1, none⟩ (.slice A6 (s2.vs.length + 1) d6)).ownsRow base e size v n cs) := zh fun h ht => ownS_far h HR5u2.out ht _ _
          have HSN : Hid (ScR (u2.setCell ⟨g5, 1, none⟩ (.slice A6 (s2.vs.length + 1) d6)) w1.heap.size ⟨s2.LA, s2.lc, s2.ls, A6, d6, s2.vs ++ [(nm, kindN x.op, lx)]⟩ (s.ls.map lcore) (s2.vs ++ [(nm, kindN x.op, lx)])) := zh (by
                  have hL : (s2.vs ++ [(nm, kindN x.op, lx)]).length = s2.vs.length + 1 := by simp
                  have hF : (s2.vs ++ [(nm, kindN x.op, lx)]).flatMap varC = s2.vs.flatMap varC ++ [.string nm, .int .i64 (kindN x.op), .int .i64 lx] := by simp [varC]
                  refine ⟨HFAR.out HWLu2.out HTY1.out, ?_, fun l hl => ⟨HFAR.out (HLOu2.out l hl).own HTY7.out, fun g hg => ⟨HFAR.out ((HLOu2.out l hl).fac g hg).own HTY8.out, ((HLOu2.out l hl).fac g hg).rows⟩⟩, HLE2.out, rfl⟩
                  show (u2.setCell ⟨g5, 1, none⟩ (.slice A6 (s2.vs.length + 1) d6)).ownsRow w1.heap.size 55 3 (.slice A6 (s2.vs ++ [(nm, kindN x.op, lx)]).length d6) (s2.vs ++ [(nm, kindN x.op, lx)]).length ((s2.vs ++ [(nm, kindN x.op, lx)]).flatMap varC)
                  rw [hL, hF]; exact HFAR.out HOW6.out HTY2.out)
          go_simp
          refine hK.out _ _ HSu9.out ?_
          clear hK K m0 f0 HFAR
          (try simp only [Act.put, zA4, zA5, zA6])
          generalize (u2.setCell ⟨g5, 1, none⟩ (.slice A6 (s2.vs.length + 1) d6)) = u9 at *
          refine wpOU_done ?_
          go_wp2
          go_roundw
          case rel => exact ⟨k + 1, ⟨s2.LA, s2.lc, s2.ls, A6, d6, s2.vs ++ [(nm, kindN x.op, lx)]⟩, by have := HLT.out; omega, by go_num, zh HSu9.out.1, HR9, zh ⟨HSN.out.lown, HSN.out.vown, HSN.out.lats, HSN.out.le, by rw [HTKk.out, ← HVE2.out]⟩⟩
          case measure => have := HLT.out; simp [intOf]; omega
       ·obtain rfl : k = n := by omega
        have hr := HRRr.out
        rw [HTA.out] at hr
        have HRR := zh hr; clear hr
        have HZF := zh (HRZ.out.below HSr.out HRZ.out.lt)
        have HRF := HRr
        have HSF := HSr
        go_wp2_with (first
            | (go_at_call 41; refine HDV.out.mono ?_; rintro e wv ⟨rfl, rfl⟩)
            | (refine wpList_loadS (by rfl) _ _ rfl g5 rfl _ _ _ HRF.out Tryz.underlying25 rfl (by kernel_rfl) ?_)
            | (refine wpList_stRow (by rfl) _ _ _ rfl (w.heap.size + 1 + 1) (scv s2) rfl rfl _ _ HZF.out (by kernel_rfl) rfl (by simp [scv, Value.oneCell']) ?_; intro wz rz he))
        have hsz := HSF.out.size
        have hke : ∀ {size n : Nat} {e : TypeId} {v : Value} {cs : List Value}, wr.ownsRow w1.heap.size e size v n cs → wz.ownsRow w.heap.size e size v n cs := fun h => own_mono (own_same h fun b _ hv => he.block b (by have := (h.lt b hv).1; have := HZL.out; omega)) (by have := HZL.out; omega)
        exact bodyPost_ret (retRow rfl _ _ (w.heap.size + 1 + 1) _ _ (0, 0) _ rfl rz Tryz.underlying25 rfl (by kernel_rfl)) rfl (HQ.out _ _ ⟨s2, rfl, ⟨hke HRR.out.lown, hke HRR.out.vown, fun l hl => ⟨hke (HRR.out.lats l hl).own, fun g hg => ⟨hke ((HRR.out.lats l hl).fac g hg).own, ((HRR.out.lats l hl).fac g hg).rows⟩⟩, HRR.out.le, HRR.out.ve⟩, HB.out.trans ((HSF.out.mono (by have := HZL.out; omega)).trans (he.below (by omega)))⟩)
 ·have qf : ((faultF s x).1 != 0) = true := by simp [hf]
  have hal : addL s x = s.ls.map lcore := by rw [HAL.out, zF hf]; simp
  have hav : addV s x = s.vs := by rw [HAV.out, zF hf]; simp
  rw [hal, hav] at HQ
  have HF0 := zh hf
  clear hal hav HAL HAV hf
  generalize faultF s x = ff at *
  go_upto_region 3 with (first
   | (refine wpList_loadS (by rfl) _ _ rfl w.heap.size rfl _ _ _ HRS3.out Tryz.underlying25 rfl (by kernel_rfl) ?_)
   | (refine wpList_loadS (by rfl) _ _ rfl (w.heap.size + 1) rfl _ _ _ HRC3.out Tryz.underlying34 rfl HCI.out ?_)
   | (go_at_call 13; refine HFT.out.mono ?_; rintro e w4 ⟨rfl, hb4⟩; have HB4 := zh hb4; clear hb4))
  have HSF := zh (HS3.out.trans (HB4.out.mono HS3.out.size))
  have HRF := zh (HR53.out.below HB4.out HR53.out.lt)
  have HRR : Hid (ScR w4 w1.heap.size s1 (s.ls.map lcore) s.vs) := zh ⟨own_below HWL3.out HB4.out (zL _), own_below HWV3.out HB4.out (zL _), fun l hl => (HLO3.out l hl).below HB4.out, HLE.out, HVE.out⟩
  have HZF := zh (HRZ.out.below HSF.out HRZ.out.lt)
  go_wp2_with (first
   | (go_at_call 41; refine HDV.out.mono ?_; rintro e wv ⟨rfl, rfl⟩)
   | (refine wpList_loadS (by rfl) _ _ rfl g5 rfl _ _ _ HRF.out Tryz.underlying25 rfl (by kernel_rfl) ?_)
   | (refine wpList_stRow (by rfl) _ _ _ rfl (w.heap.size + 1 + 1) (scv s1) rfl rfl _ _ HZF.out (by kernel_rfl) rfl (by simp [scv, Value.oneCell']) ?_; intro wz rz he))
  have hsz := HSF.out.size
  have hke : ∀ {size n : Nat} {e : TypeId} {v : Value} {cs : List Value}, w4.ownsRow w1.heap.size e size v n cs → wz.ownsRow w.heap.size e size v n cs := fun h => own_mono (own_same h fun b _ hv => he.block b (by have := (h.lt b hv).1; have := HZL.out; omega)) (by have := HZL.out; omega)
  exact bodyPost_ret (retRow rfl _ _ (w.heap.size + 1 + 1) _ _ (0, 0) _ rfl rz Tryz.underlying25 rfl (by kernel_rfl)) rfl (HQ.out _ _ ⟨s1, rfl, ⟨hke HRR.out.lown, hke HRR.out.vown, fun l hl => ⟨hke (HRR.out.lats l hl).own, fun g hg => ⟨hke ((HRR.out.lats l hl).fac g hg).own, ((HRR.out.lats l hl).fac g hg).rows⟩⟩, HRR.out.le, HRR.out.ve⟩, HB.out.trans ((HSF.out.mono (by have := HZL.out; omega)).trans (he.below (by omega)))⟩)
end
section
open Go.RowKit
theorem scRight_any (s : Sc) (w : World) (hT : Tab w) (h : ScOk w s) :
 Calls Tryz.prog 8 #[.agg (scv s)] w fun e w' => e = .returned (.bool (rightSc s)) ∧ Below w.heap.size w w' := by
 have r0 := RowAt.new w 25 (scv s)
 have hb : Below w.heap.size w (w.alloc (.cells (scv s) 25)) := (zB _ _).alloc (zL _) _
 refine cHid fun Q' hQ => ?_
 have HQ := zh hQ; clear hQ
 have HD : Hid (rightSc s = (decide (s.ls.length ≤ 16) && (decide (s.vs.length ≤ 64) && (s.ls.all (fun l => rightS l.2.t l.2.fs) && (s.vs.all (varB s.ls.length) && ((s.lnms ++ s.vnms).all NM.right && decide (twc (s.lnms ++ s.vnms) < 0))))))) := zh rfl
 have HBAD1 : Hid (∀ k, k < s.ls.length → rightS (s.ls.getD k lat0).2.t (s.ls.getD k lat0).2.fs = false → rightSc s = false) := zh fun k hk h => by
  have := all_bad (p := fun l : ByteArray × Shp => rightS l.2.t l.2.fs) (d := lat0) hk h
  unfold rightSc
  rw [this]; simp
 have HBAD2 : Hid (∀ k, k < s.vs.length → varB s.ls.length (s.vs.getD k var0) = false → rightSc s = false) := zh fun k hk h => by
  have := all_bad (p := varB s.ls.length) (d := var0) hk h
  unfold rightSc
  rw [this]; simp
 have HGOOD : Hid ((∀ k, k < s.ls.length → rightS (s.ls.getD k lat0).2.t (s.ls.getD k lat0).2.fs = true) → (∀ k, k < s.vs.length → varB s.ls.length (s.vs.getD k var0) = true) → s.ls.length ≤ 16 → s.vs.length ≤ 64 → rightSc s = ((s.lnms ++ s.vnms).all NM.right && decide (twc (s.lnms ++ s.vnms) < 0))) := zh fun h1 h2 h3 h4 => by
  have e1 := all_good (p := fun l : ByteArray × Shp => rightS l.2.t l.2.fs) lat0 h1
  have e2 := all_good var0 h2
  unfold rightSc
  rw [e1, e2, zE h3, zE h4]; simp
 go_enter Tryz.func8, Tryz.ntmps8
 go_upto_region 1 with fail
 change Code.wp _ _ _ _ (w.alloc (.cells (scv s) 25))
 generalize w.alloc (.cells (scv s) 25) = w1 at *
 have HOK := zh (h.below hb)
 have HT := zh (hT.below hb)
 have HB := zh hb
 have HR0 := zh r0
 obtain ⟨c0, c1, _, _⟩ := rw2 r0
 have HLF := zh h.lfew
 have HLL : Hid (s.lnms.length = s.ls.length) := zh (by simp [Sc.lnms])
 have HVL : Hid (s.vnms.length = s.vs.length) := zh (by simp [Sc.vnms])
 have HLG : Hid (∀ k, k < s.ls.length → s.lnms.take (k + 1) = s.lnms.take k ++ [(s.ls.getD k lat0).1]) := zh fun k hk => by
  rw [← s.lget hk, List.take_succ_eq_append_getElem (by rw [HLL.out]; exact hk), List.getD_eq_getElem?_getD, List.getElem?_eq_getElem (by rw [HLL.out]; exact hk)]; rfl
 have HVG : Hid (∀ k, k < s.vs.length → s.vnms.take (k + 1) = s.vnms.take k ++ [(s.vs.getD k var0).1]) := zh fun k hk => by
  rw [← s.vget hk, List.take_succ_eq_append_getElem (by rw [HVL.out]; exact hk), List.getD_eq_getElem?_getD, List.getElem?_eq_getElem (by rw [HVL.out]; exact hk)]; rfl
 have HLA : Hid (s.lnms.take s.ls.length = s.lnms) := zh (List.take_of_length_le (by rw [HLL.out]; exact zL _))
 have HVA : Hid (s.vnms.take s.vs.length = s.vnms) := zh (List.take_of_length_le (by rw [HVL.out]; exact zL _))
 have hr0 := r0.lt
 have HR0L := zh hr0
 clear h hT hb r0 hr0
 generalize hln : s.ls.length = ln at *
 generalize hvn : s.vs.length = vn at *
 have HLN := zh hln; have HVN := zh hvn; clear hln hvn
 by_cases h16 : ln ≤ 16
 ·by_cases h64 : vn ≤ 64
  ·have q16 : ¬ (16 < ln) := by omega
   have q64 : ¬ (64 < vn) := by omega
   clear HD
   go_upto_region 4 with fail
   go_wp2_with fail
   go_loopw [3, 5, 22] (fun sv _ kv wr => ∃ (k d : Nat) (X : Option Addr), k ≤ ln ∧ kv = .int .i64 k ∧ sv = .slice X k d ∧ Hid (wr.ownsRow w1.heap.size 9 1 (.slice X k d) k (scells (s.lnms.take k))) ∧ Hid (Below w1.heap.size w1 wr) ∧ Hid (∀ j, j < k → rightS (s.ls.getD j lat0).2.t (s.ls.getD j lat0).2.fs = true)) (fun _ _ kv _ => ln - (intOf kv).toNat)
   case atStart => exact ⟨0, 0, none, by omega, rfl, rfl, World.ownsRow_nil _ _ _ _, zh (zB _ _), zh fun j hj => by omega⟩
   case round =>
        obtain ⟨k, d, X, hk, rfl, rfl, HO, HW, HG⟩ := hrel
        by_cases hlt : k < ln
        ·have HLT := zh hlt
         obtain ⟨b, o, hA, _, hc⟩ := (HOK.out.lats.below HW.out).at 3 (fun _ => rfl) (by omega) lat0 (i := k) (by rw [HLN.out]; exact hlt)
         have p0 := hc k (by rw [HLN.out]; exact hlt) 0 _ rfl
         have p1 := hc k (by rw [HLN.out]; exact hlt) 1 _ rfl
         have p2 := hc k (by rw [HLN.out]; exact hlt) 2 _ rfl
         rw [Nat.add_zero] at p0
         have HLK := zh (HLG.out k hlt)
         have HSH := zh ((HOK.out.sh _ (getD_mem' (d := lat0) (i := k) (by rw [HLN.out]; exact hlt))).below HW.out)
         have HBD := zh (HBAD1.out k hlt)
         have hbx : Below wr.heap.size wr (wr.alloc (.cells #[.string (s.ls.getD k lat0).1, .bool (s.ls.getD k lat0).2.t, .slice (s.ls.getD k lat0).2.A (s.ls.getD k lat0).2.fs.length (s.ls.getD k lat0).2.c] 51)) := (zB _ _).alloc (zL _) _
         have HOx := zh (own_below HO.out hbx (zL _))
         have HWx : Hid (Below w1.heap.size w1 (wr.alloc (.cells #[.string (s.ls.getD k lat0).1, .bool (s.ls.getD k lat0).2.t, .slice (s.ls.getD k lat0).2.A (s.ls.getD k lat0).2.fs.length (s.ls.getD k lat0).2.c] 51))) := zh (HW.out.trans (hbx.mono HW.out.size))
         have HRX := zh (RowAt.new wr 51 #[.string (s.ls.getD k lat0).1, .bool (s.ls.getD k lat0).2.t, .slice (s.ls.getD k lat0).2.A (s.ls.getD k lat0).2.fs.length (s.ls.getD k lat0).2.c])
         have HSR := zh (sright_any (s.ls.getD k lat0).2.t (s.ls.getD k lat0).2.A (s.ls.getD k lat0).2.c (s.ls.getD k lat0).2.fs _ (HT.out.below HWx.out) ((HSH.out.below hbx).facs))
         have HGk : Hid (rightS (s.ls.getD k lat0).2.t (s.ls.getD k lat0).2.fs = true → ∀ j, j < k + 1 → rightS (s.ls.getD j lat0).2.t (s.ls.getD j lat0).2.fs = true) := zh fun h j hj => by
          by_cases e : j = k
          ·rw [e]; exact h
          ·exact HG.out j (by omega)
         clear hc hbx
         generalize s.LA = LA at *
         subst hA
         generalize (s.ls.getD k lat0).1 = nm at *
         generalize (s.ls.getD k lat0).2 = sh at *
         generalize hrs : rightS sh.t sh.fs = rs at *
         have HRSe := zh hrs; clear hrs
         generalize sh.fs.length = fl at *
         go_upto_region 7 with fail
         change Code.wp _ _ _ _ (wr.alloc (.cells #[.string nm, .bool sh.t, .slice sh.A fl sh.c] 51))
         generalize wr.alloc (.cells #[.string nm, .bool sh.t, .slice sh.A fl sh.c] 51) = wc at *
         generalize wr.heap.size = gx at *
         obtain ⟨a0, a1, a2, _, _, _⟩ := rw3 HRX.out
         have HA0 : Hid (∀ W, Below wc.heap.size wc W → W.cell? ⟨gx, 0, none⟩ = some (.string nm)) := zh fun W hW => (hW.cell (p := ⟨gx, 0, none⟩) HRX.out.lt).trans a0
         clear p0 p1 p2
         cases rs with
         | false =>
           have hr : rightSc s = false := HBD.out rfl
           rw [hr] at HQ
           clear hr
           go_wp2_with (go_at_call 15; refine HSR.out.mono ?_; rintro e wd ⟨rfl, hbd⟩; have HBW := zh (HWx.out.trans (hbd.mono HWx.out.size)); clear hbd)
           exact HQ.out _ _ ⟨rfl, HB.out.trans (HBW.out.mono (by have := HR0L.out; omega))⟩
         | true =>
           have HGk1 := zh (HGk.out rfl)
           go_upto_region 9 with (go_at_call 15; refine HSR.out.mono ?_; rintro e wd ⟨rfl, hbd⟩; have HBW := zh (HWx.out.trans (hbd.mono HWx.out.size)); have HOd := zh (own_below HOx.out hbd (zL _)); have b0 := HA0.out _ hbd; clear hbd a0 a1 a2)
           go_wp2_with (at_builtin; refine wpList_moreS _ rfl _ _ 69 rfl 9 (.string ⟨#[]⟩) 1 16 Tryz.underlying69 infoStrT rfl (by decide) w1.heap.size X (k) d (scells (s.lnms.take k)) rfl ?k1a wd.heap.size [.string nm] rfl rfl (one_new _ _ _) (by intro u hu; simp at hu; subst hu; rfl) ?k1c ?k1d ?k1e ?_)
           case k1a => exact own_below HOd.out ((zB _ _).alloc (zL _) _) (zL _)
           case k1c => simp only [maxLen]; omega
           case k1d => omega
           case k1e => have := HBW.out.size; simp; omega
           intro X6 d6 w6 hown6 hb6 hg6 hat6
           have HO6 : Hid (w6.ownsRow w1.heap.size 9 1 (.slice X6 (k + 1) d6) (k + 1) (scells (s.lnms.take (k + 1)))) := by
            rw [HLK.out, scs_app]; exact zh hown6
           have HB6 : Hid (Below w1.heap.size w1 w6) := zh ((HBW.out.alloc HBW.out.size _).trans hb6)
           clear hown6 hb6 hg6 hat6
           go_wp2_with fail
           go_roundw
           case rel => exact ⟨k + 1, d6, X6, by have := HLT.out; omega, by go_num, rfl, HO6, HB6, HGk1⟩
           case measure => have := HLT.out; simp [intOf]; omega
        ·obtain rfl : k = ln := by omega
         have hO := HO.out
         rw [HLA.out] at hO
         have HOa := zh hO; clear hO HO
         have d1 : wr.cell? ⟨w.heap.size, 1, none⟩ = some (.slice s.VA vn s.vc) := (HW.out.cell (p := ⟨w.heap.size, 1, none⟩) HR0L.out).trans c1
         have d0 : wr.cell? ⟨w.heap.size, 0, none⟩ = some (.slice s.LA k s.lc) := (HW.out.cell (p := ⟨w.heap.size, 0, none⟩) HR0L.out).trans c0
         have HDc : Hid (∀ W, Below w1.heap.size w1 W → W.cell? ⟨w.heap.size, 0, none⟩ = some (.slice s.LA k s.lc)) := zh fun W hW => (hW.cell (p := ⟨w.heap.size, 0, none⟩) HR0L.out).trans c0
         clear c0 c1
         go_wp2_with fail
         clear d0 d1
         have HL20 : Hid (wr.ownsRow w1.heap.size 9 1 (.slice X (k + 0) d) (k + 0) (scells (s.lnms ++ s.vnms.take 0))) := zh (by rw [List.take_zero, List.append_nil]; exact HOa.out)
         go_loopw [3, 7, 39] (fun sv _ kv wq => ∃ (m d : Nat) (X : Option Addr), m ≤ vn ∧ kv = .int .i64 m ∧ sv = .slice X (k + m) d ∧ Hid (wq.ownsRow w1.heap.size 9 1 (.slice X (k + m) d) (k + m) (scells (s.lnms ++ s.vnms.take m))) ∧ Hid (Below w1.heap.size w1 wq) ∧ Hid (∀ j, j < m → varB k (s.vs.getD j var0) = true)) (fun _ _ kv _ => vn - (intOf kv).toNat)
         case atStart => exact ⟨0, d, X, by omega, rfl, rfl, HL20, HW, zh fun j hj => by omega⟩
         case round =>
          clear HL20 HOa HW
          obtain ⟨m, d, X, hm, rfl, rfl, HO, HW, HG2⟩ := hrel
          by_cases hlt : m < vn
          ·have HLT := zh hlt
           have hm16 : m ≤ 64 := by omega
           obtain ⟨b, o, hA, _, hc⟩ := (HOK.out.vars.below HW.out).at 3 (fun _ => rfl) (by omega) var0 (i := m) (by rw [HVN.out]; exact hlt)
           have p0 := hc m (by rw [HVN.out]; exact hlt) 0 _ rfl
           have p1 := hc m (by rw [HVN.out]; exact hlt) 1 _ rfl
           have p2 := hc m (by rw [HVN.out]; exact hlt) 2 _ rfl
           rw [Nat.add_zero] at p0
           have HLK : Hid (s.lnms ++ s.vnms.take (m + 1) = (s.lnms ++ s.vnms.take m) ++ [(s.vs.getD m var0).1]) := zh (by rw [HVG.out m hlt, List.append_assoc])
           have HBD := zh (HBAD2.out m hlt)
           have hbx : Below wr.heap.size wr (wr.alloc (.cells #[.string (s.vs.getD m var0).1, .int .i64 (s.vs.getD m var0).2.1, .int .i64 (s.vs.getD m var0).2.2] 55)) := (zB _ _).alloc (zL _) _
           have HOx := zh (own_below HO.out hbx (zL _))
           have HWx : Hid (Below w1.heap.size w1 (wr.alloc (.cells #[.string (s.vs.getD m var0).1, .int .i64 (s.vs.getD m var0).2.1, .int .i64 (s.vs.getD m var0).2.2] 55))) := zh (HW.out.trans (hbx.mono HW.out.size))
           have HRX := zh (RowAt.new wr 55 #[.string (s.vs.getD m var0).1, .int .i64 (s.vs.getD m var0).2.1, .int .i64 (s.vs.getD m var0).2.2])
           have HGk : Hid (varB k (s.vs.getD m var0) = true → ∀ j, j < m + 1 → varB k (s.vs.getD j var0) = true) := zh fun h j hj => by
            by_cases e : j = m
            ·rw [e]; exact h
            ·exact HG2.out j (by omega)
           clear hc hbx
           generalize s.VA = VA at *
           subst hA
           generalize s.vs.getD m var0 = el at *
           go_upto_region 14 with fail
           change Code.wp _ _ _ _ (wr.alloc (.cells #[.string el.1, .int .i64 el.2.1, .int .i64 el.2.2] 55))
           generalize wr.alloc (.cells #[.string el.1, .int .i64 el.2.1, .int .i64 el.2.2] 55) = wc at *
           generalize wr.heap.size = gx at *
           obtain ⟨a0, a1, a2, _, _, _⟩ := rw3 HRX.out
           have e0 := HDc.out _ HWx.out
           obtain ⟨nm, kd, lt⟩ := el
           simp only at a0 a1 a2
           by_cases hk : kd = 1
           ·skip
            have q1 : (kd != 1) = false := by simp [hk]
            by_cases hn : lt < 0
            ·have q3 : decide (lt < 0) = true := zE hn
             have hv : varB k (nm, kd, lt) = false := by unfold varB; simp; omega
             have hr : rightSc s = false := HBD.out hv
             rw [hr] at HQ
             clear hr hv
             have HKK := zh hk; clear hk
             go_wp2_with fail
             exact HQ.out _ _ ⟨rfl, HB.out.trans (HWx.out.mono (by have := HR0L.out; omega))⟩
            ·have q3 : decide (lt < 0) = false := zF hn
             by_cases hg : lt < (k : Int)
             ·have q4 : decide ((k : Int) ≤ lt) = false := zF (by omega)
              have hv : varB k (nm, kd, lt) = true := by unfold varB; simp; omega
              have HGk1 := zh (HGk.out hv)
              clear hv
              have HKK := zh hk; clear hk
              go_upto_region 16 with fail
              go_wp2_with (at_builtin; refine wpList_moreS _ rfl _ _ 69 rfl 9 (.string ⟨#[]⟩) 1 16 Tryz.underlying69 infoStrT rfl (by decide) w1.heap.size X (k + m) d (scells (s.lnms ++ s.vnms.take m)) rfl ?k2a wc.heap.size [.string nm] rfl rfl (one_new _ _ _) (by intro u hu; simp at hu; subst hu; rfl) ?k2c ?k2d ?k2e ?_)
              case k2a => exact own_below HOx.out ((zB _ _).alloc (zL _) _) (zL _)
              case k2c => simp only [maxLen]; omega
              case k2d => omega
              case k2e => have := HWx.out.size; simp; omega
              intro X6 d6 w6 hown6 hb6 hg6 hat6
              have HO6 : Hid (w6.ownsRow w1.heap.size 9 1 (.slice X6 (k + m + 1) d6) (k + m + 1) (scells (s.lnms ++ s.vnms.take (m + 1)))) := by
                    rw [HLK.out, scs_app]; exact zh hown6
              have HB6 : Hid (Below w1.heap.size w1 w6) := zh ((HWx.out.alloc HWx.out.size _).trans hb6)
              clear hown6 hb6 hg6 hat6
              go_wp2_with fail
              go_roundw
              case rel => exact ⟨m + 1, d6, X6, by have := HLT.out; omega, by go_num, rfl, HO6, HB6, HGk1⟩
              case measure => have := HLT.out; simp [intOf]; omega
             ·have q4 : decide ((k : Int) ≤ lt) = true := zE (by omega)
              have q5 : (k : Int) ≤ lt := by omega
              have hv : varB k (nm, kd, lt) = false := by unfold varB; simp; omega
              have hr : rightSc s = false := HBD.out hv
              rw [hr] at HQ
              clear hr hv
              have HKK := zh hk; clear hk
              go_wp2_with fail
              exact HQ.out _ _ ⟨rfl, HB.out.trans (HWx.out.mono (by have := HR0L.out; omega))⟩
           ·by_cases hk2 : kd = 2
            ·have hk1 := hk
             clear hk
             have hk := hk2
             clear hk2 hk1
             have q1 : (kd != 1) = true := by simp [hk]
             have q2 : (kd != 2) = false := by simp [hk]
             by_cases hn : lt < 0
             ·have q3 : decide (lt < 0) = true := zE hn
              have hv : varB k (nm, kd, lt) = false := by unfold varB; simp; omega
              have hr : rightSc s = false := HBD.out hv
              rw [hr] at HQ
              clear hr hv
              have HKK := zh hk; clear hk
              go_wp2_with fail
              exact HQ.out _ _ ⟨rfl, HB.out.trans (HWx.out.mono (by have := HR0L.out; omega))⟩
             ·have q3 : decide (lt < 0) = false := zF hn
              by_cases hg : lt < (k : Int)
              ·have q4 : decide ((k : Int) ≤ lt) = false := zF (by omega)
               have hv : varB k (nm, kd, lt) = true := by unfold varB; simp; omega
               have HGk1 := zh (HGk.out hv)
               clear hv
               have HKK := zh hk; clear hk
               go_upto_region 16 with fail
               go_wp2_with (at_builtin; refine wpList_moreS _ rfl _ _ 69 rfl 9 (.string ⟨#[]⟩) 1 16 Tryz.underlying69 infoStrT rfl (by decide) w1.heap.size X (k + m) d (scells (s.lnms ++ s.vnms.take m)) rfl ?k3a wc.heap.size [.string nm] rfl rfl (one_new _ _ _) (by intro u hu; simp at hu; subst hu; rfl) ?k3c ?k3d ?k3e ?_)
               case k3a => exact own_below HOx.out ((zB _ _).alloc (zL _) _) (zL _)
               case k3c => simp only [maxLen]; omega
               case k3d => omega
               case k3e => have := HWx.out.size; simp; omega
               intro X6 d6 w6 hown6 hb6 hg6 hat6
               have HO6 : Hid (w6.ownsRow w1.heap.size 9 1 (.slice X6 (k + m + 1) d6) (k + m + 1) (scells (s.lnms ++ s.vnms.take (m + 1)))) := by
                      rw [HLK.out, scs_app]; exact zh hown6
               have HB6 : Hid (Below w1.heap.size w1 w6) := zh ((HWx.out.alloc HWx.out.size _).trans hb6)
               clear hown6 hb6 hg6 hat6
               go_wp2_with fail
               go_roundw
               case rel => exact ⟨m + 1, d6, X6, by have := HLT.out; omega, by go_num, rfl, HO6, HB6, HGk1⟩
               case measure => have := HLT.out; simp [intOf]; omega
              ·have q4 : decide ((k : Int) ≤ lt) = true := zE (by omega)
               have q5 : (k : Int) ≤ lt := by omega
               have hv : varB k (nm, kd, lt) = false := by unfold varB; simp; omega
               have hr : rightSc s = false := HBD.out hv
               rw [hr] at HQ
               clear hr hv
               have HKK := zh hk; clear hk
               go_wp2_with fail
               exact HQ.out _ _ ⟨rfl, HB.out.trans (HWx.out.mono (by have := HR0L.out; omega))⟩
            ·have q1 : (kd != 1) = true := by simp [hk]
             have q2 : (kd != 2) = true := by simp [hk2]
             have hv : varB k (nm, kd, lt) = false := by unfold varB; simp; omega
             have hr : rightSc s = false := HBD.out hv
             rw [hr] at HQ
             clear hr hv
             go_wp2_with fail
             exact HQ.out _ _ ⟨rfl, HB.out.trans (HWx.out.mono (by have := HR0L.out; omega))⟩
          ·obtain rfl : m = vn := by omega
           have hO := HO.out
           rw [HVA.out] at hO
           have hlen : (s.lnms ++ s.vnms).length = k + m := by rw [zA7, HLL.out, HVL.out]
           have hst : Strs wr X (s.lnms ++ s.vnms) := Sl.of_own hO
           have HST := zh hst
           have hr := HGOOD.out HG.out HG2.out h16 h64
           rw [hr] at HQ
           have HCN := zh (containsN_any X d (s.lnms ++ s.vnms) wr (by rw [hlen]; omega) hst)
           have HTW : Hid ((s.lnms ++ s.vnms).all NM.right = true → ∀ W, Below wr.heap.size wr W → Calls Tryz.prog 31 #[.slice X (s.lnms ++ s.vnms).length d] W fun e w' => e = .returned (.int .i64 (twc (s.lnms ++ s.vnms))) ∧ Below W.heap.size W w') := zh fun ha W hW => twice_any X d _ W (by rw [hlen]; omega) (fun y hy => right_small (List.all_eq_true.1 ha y hy)) (HST.out.below hW)
           rw [hlen] at HCN HTW
           clear hst hr hlen hO
           generalize twc (s.lnms ++ s.vnms) = tw at *
           cases hall : (s.lnms ++ s.vnms).all NM.right with
           | false =>
             rw [hall] at HCN HQ
             clear HTW hall
             go_wp2_with (go_at_call 30; refine HCN.out.mono ?_; rintro e we ⟨rfl, hbe⟩; have HBE := zh hbe; clear hbe)
             exact HQ.out _ _ ⟨rfl, HB.out.trans ((HW.out.trans (HBE.out.mono HW.out.size)).mono (by have := HR0L.out; omega))⟩
           | true =>
             have HTW2 := zh (HTW.out hall)
             rw [hall] at HCN HQ
             clear HTW hall
             go_wp2_with (first
              | (go_at_call 30; refine HCN.out.mono ?_; rintro e we ⟨rfl, hbe⟩; have HTE := zh (HTW2.out _ hbe); have HBE := zh hbe; clear hbe)
              | (go_at_call 31; refine HTE.out.mono ?_; rintro e wg ⟨rfl, hbg⟩; have HBG := zh hbg; clear hbg))
             exact HQ.out _ _ ⟨by simp, HB.out.trans ((HW.out.trans ((HBE.out.trans (HBG.out.mono HBE.out.size)).mono HW.out.size)).mono (by have := HR0L.out; omega))⟩
  ·have hr : rightSc s = false := by rw [HD.out, zF h64]; simp
   rw [hr] at HQ
   have q64 : 64 < vn := by omega
   clear HD hr
   go_wp2_with fail
   exact HQ.out _ _ ⟨rfl, HB.out⟩
 ·have hr : rightSc s = false := by rw [HD.out, zF h16]; simp
  rw [hr] at HQ
  have q16 : 16 < ln := by omega
  clear HD hr
  go_wp2_with fail
  exact HQ.out _ _ ⟨rfl, HB.out⟩
end
section
open Go.RowKit RM
theorem alive13_any (w : World) (hT : Tab w) : Calls Tryz.prog 10 #[] w fun e w' => e = .returned (.bool true) ∧ Below w.heap.size w w' := by
 refine cHid fun Q' hQ => ?_
 have HQ := zh hQ; clear hQ
 have HTf : Hid (∀ W, Below w.heap.size w W → Tab W) := zh fun W hW => hT.below hW
 clear hT
 have hb1 : Below w.heap.size w (w.alloc (.cells #[.string ⟨#[97]⟩, .string ⟨#[98]⟩] 9)) := (zB _ _).alloc (zL _) _
 have HB1 := zh hb1
 have HST : Hid (Strs (w.alloc (.cells #[.string ⟨#[97]⟩, .string ⟨#[98]⟩] 9)) (some ⟨w.heap.size, 0, none⟩) bab) := zh fun _ => by
  have hr := RowAt.new w 9 #[.string ⟨#[97]⟩, .string ⟨#[98]⟩]
  exact ⟨w.heap.size, 0, rfl, hr.lt, fun j u hu => by rw [Nat.zero_add, hr.cell j]; simpa [scells, bab] using hu⟩
 clear hb1
 have HWD := zh (words13_any (some ⟨w.heap.size, 0, none⟩) 2 bab _ (by decide) HST.out)
 go_enter Tryz.func10, Tryz.ntmps10
 go_wp2_with (go_at_call 38; refine HWD.out.mono ?_; rintro e w2 ⟨X, d, rfl, hown, hb2⟩; have HOW := zh hown; have HB2 := zh hb2; clear hown hb2)
 have HB02 := zh (HB1.out.trans (HB2.out.mono HB1.out.size))
 have h0ok : ScOk w2 sc0 := ⟨Sl.nil _ _ _, (fun l hl => by cases hl), Sl.nil _ _ _, (fun _ => rfl), (fun _ => rfl), Nat.zero_le _, Nat.zero_le _, (fun x hx => by cases hx), (fun x hx => by cases hx)⟩
 have HAD := zh (sadd_any sc0 (cd0 X d) w2 (HTf.out _ HB02.out) h0ok (cd_ok 1 (Sl.of_own HOW.out) [(⟨#[97]⟩, 10), (⟨#[98]⟩, 11)] rfl (by decide) (by intro t ht; simp at ht; rcases ht with rfl | rfl <;> decide)) (fun h => by exact absurd (show (1 : Int) = 3 from h) (by decide)))
 rw [al_0, av_0] at HAD
 clear h0ok
 refine HAD.out.mono ?_
 rintro e w3 ⟨s1, rfl, hr1, hb3⟩
 have HR1 := zh hr1
 have HB03 := zh (HB02.out.trans (hb3.mono HB02.out.size))
 clear HAD hr1 hb3
 go_upto_region 2 with (refine wpList_stRow (by rfl) _ _ _ rfl w3.heap.size (scv s1) rfl rfl _ _ (RowAt.new _ _ _) (by kernel_rfl) rfl (by simp [scv, Value.oneCell']) ?_; intro w4 r4 he; have HRS := zh r4; have HB34 : Hid (Below w3.heap.size w3 w4) := zh (((zB _ _).alloc (zL _) _).trans (he.below (zL _))); clear r4 he)
 have HB04 := zh (HB03.out.trans (HB34.out.mono HB03.out.size))
 have HR14 := zh (HR1.out.below HB34.out)
 have HG1 : Hid (w.heap.size ≤ w3.heap.size) := zh HB03.out.size
 generalize w3.heap.size = g1 at *
 clear HR1 HB34 HB03
 have hb5 : Below w4.heap.size w4 (w4.alloc (.cells #[.string ⟨#[120]⟩] 9)) := (zB _ _).alloc (zL _) _
 have HST5 : Hid (Strs (w4.alloc (.cells #[.string ⟨#[120]⟩] 9)) (some ⟨w4.heap.size, 0, none⟩) [bx]) := zh fun _ => by
  have hr := RowAt.new w4 9 #[.string ⟨#[120]⟩]
  exact ⟨w4.heap.size, 0, rfl, hr.lt, fun j u hu => by rw [Nat.zero_add, hr.cell j]; simpa [scells, bx] using hu⟩
 have HWD5 := zh (words13_any (some ⟨w4.heap.size, 0, none⟩) 1 [bx] _ (by decide) HST5.out)
 have HB45 := zh hb5
 clear hb5
 go_upto_region 3 with (first
  | (go_at_call 38; refine HWD5.out.mono ?_; rintro e w6 ⟨Y, d6, rfl, hown, hb6⟩; have HOW6 := zh hown; have HB46 := zh (HB45.out.trans (hb6.mono HB45.out.size)); clear hown hb6)
  | (refine wpList_stRow (by rfl) _ _ _ rfl w6.heap.size (cdv (cd1 Y d6)) rfl rfl _ _ (RowAt.new _ _ _) (by kernel_rfl) rfl (by simp [cdv, cd1, rest0, Value.oneCell']) ?_; intro w7 r7 he; have HRC := zh r7; have HB67 : Hid (Below w6.heap.size w6 w7) := zh (((zB _ _).alloc (zL _) _).trans (he.below (zL _))); clear r7 he))
 have HB06 := zh (HB04.out.trans (HB46.out.mono HB04.out.size))
 have HB07 := zh (HB06.out.trans (HB67.out.mono HB06.out.size))
 have HB47 := zh (HB46.out.trans (HB67.out.mono HB46.out.size))
 have HRS7 := zh (HRS.out.below HB47.out HRS.out.lt)
 have HR17 := zh (HR14.out.below HB47.out)
 have hg1 := HRS.out.lt
 have HG2 : Hid (g1 < w6.heap.size) := zh (by have := HB46.out.size; omega)
 have HOW7 := zh (own_below HOW6.out HB67.out (zL _))
 have HG3 : Hid (w.heap.size ≤ w6.heap.size) := zh HB06.out.size
 generalize w6.heap.size = g2 at *
 clear HRS HR14 HB06 HB46 HB67 HB45 HOW6 HB04 HWD5 HST5
 obtain ⟨sh, hls, hst, hsf⟩ := one_lat HR17.out.le
 obtain ⟨LA, lc, ls, VA, vc, vs⟩ := s1
 simp only at hls
 have hvs : vs = [] := HR17.out.ve
 subst hls hvs
 have HOK1 : Hid (ScOk w7 ⟨LA, lc, [(bk, sh)], VA, vc, []⟩) := zh (HR17.out.ok (show 1 ≤ 65536 from by decide) (show 0 ≤ 65536 from by decide) (fun l hl => by
  obtain rfl : l = (bk, sh) := by simpa using hl
  exact fs_small hsf) (fun x hx => by
  obtain rfl : x = bk := by simpa [Sc.lnms] using hx
  decide) (fun x hx => by cases hx))
 have HCD1 : Hid (CdOk w7 w7.heap.size (cd1 Y d6)) := zh (cd_ok 6 (Sl.of_own HOW7.out) [(bx, 10)] rfl (by decide) (by intro t ht; simp at ht; subst ht; decide))
 have HAD2 := zh (sadd_any ⟨LA, lc, [(bk, sh)], VA, vc, []⟩ (cd1 Y d6) w7 (HTf.out _ HB07.out) HOK1.out HCD1.out (fun h => by exact absurd (show (6 : Int) = 3 from h) (by decide)))
 rw [al_1, av_1] at HAD2
 go_upto_region 4 with (first
  | (refine wpList_loadS (by rfl) _ _ rfl g1 rfl _ _ _ HRS7.out Tryz.underlying25 rfl (by kernel_rfl) ?_)
  | (refine wpList_loadS (by rfl) _ _ rfl g2 rfl _ _ _ HRC.out Tryz.underlying34 rfl (by kernel_rfl) ?_)
  | (go_at_call 11; refine HAD2.out.mono ?_; rintro e w8 ⟨s2, rfl, hr2, hb8⟩; have HR2 := zh hr2; have HB78 := zh hb8; clear hr2 hb8)
  | (refine wpList_stRow (by rfl) _ _ _ rfl w8.heap.size (scv s2) rfl rfl _ _ (RowAt.new _ _ _) (by kernel_rfl) rfl (by simp [scv, Value.oneCell']) ?_; intro w9 r9 he; have HRT := zh r9; have HB89 : Hid (Below w8.heap.size w8 w9) := zh (((zB _ _).alloc (zL _) _).trans (he.below (zL _))); clear r9 he))
 have HB79 := zh (HB78.out.trans (HB89.out.mono HB78.out.size))
 have HB09 := zh (HB07.out.trans (HB79.out.mono HB07.out.size))
 have HR29 := zh (HR2.out.below HB89.out)
 have HRC9 := zh (HRC.out.below HB79.out HRC.out.lt)
 have HCD9 : Hid (CdOk w9 w9.heap.size (cd1 Y d6)) := zh ((HCD1.out.below HB79.out).mono HB79.out.size)
 generalize w8.heap.size = g3 at *
 clear HRC HCD1 HAD2 HB89 HB79 HR2 HB78 HRS7 HOK1 HOW7
 have hl2 : s2.ls.map lcore = [(bk, false, [fac13])] := by
  rw [HR29.out.le]
  simp only [lcore, hst, hsf]
 obtain ⟨sh2, hls2, hst2, hsf2⟩ := one_lat hl2
 obtain ⟨LB, lb, ls2, VB, vb, vs2⟩ := s2
 simp only at hls2
 have hvs2 : vs2 = [(bx, 1, 0)] := HR29.out.ve
 subst hls2 hvs2
 have HOK2 : Hid (ScOk w9 ⟨LB, lb, [(bk, sh2)], VB, vb, [(bx, 1, 0)]⟩) := zh (HR29.out.ok (show 1 ≤ 65536 from by decide) (show 1 ≤ 65536 from by decide) (fun l hl => by
  obtain rfl : l = (bk, sh2) := by simpa using hl
  exact fs_small hsf2) (fun x hx => by
  obtain rfl : x = bk := by simpa [Sc.lnms] using hx
  decide) (fun x hx => by
  obtain rfl : x = bx := by simpa [Sc.vnms] using hx
  decide))
 have HFD := zh (scFind_any ⟨LB, lb, [(bk, sh2)], VB, vb, [(bx, 1, 0)]⟩ bx w9 HOK2.out)
 rw [(ix_1 LB VB lb vb sh2).1, (ix_1 LB VB lb vb sh2).2] at HFD
 have HFT := zh fun W (hW : Below w9.heap.size w9 W) => fault_any ⟨LB, lb, [(bk, sh2)], VB, vb, [(bx, 1, 0)]⟩ (cd1 Y d6) W (HTf.out _ (HB09.out.trans (hW.mono HB09.out.size))) (HOK2.out.below hW) ((HCD9.out.below hW).mono hW.size)
 have HRT2 := zh fun W (hW : Below w9.heap.size w9 W) => scRight_any ⟨LB, lb, [(bk, sh2)], VB, vb, [(bx, 1, 0)]⟩ W (HTf.out _ (HB09.out.trans (hW.mono HB09.out.size))) (HOK2.out.below hW)
 rw [ft_1] at HFT
 rw [rt_1 LB VB lb vb sh2 hst2 hsf2] at HRT2
 have HGD : Hid (∀ W, Below w9.heap.size w9 W → W.cell? ⟨g3, 0, none⟩ = some (.slice LB 1 lb)) := zh fun W hW => ((HRT.out.below hW HRT.out.lt).cell 0).trans rfl
 go_upto_region 5 with (first
  | (refine wpList_loadS (by rfl) _ _ rfl g3 rfl _ _ _ HRT.out Tryz.underlying25 rfl (by kernel_rfl) ?_)
  | (go_at_call 14; refine HFD.out.mono ?_; rintro e wa ⟨rfl, hba⟩; have HBA := zh hba; clear hba))
 have c3 := HGD.out _ HBA.out
 have HRTa := zh (HRT.out.below HBA.out HRT.out.lt)
 have HRCa := zh (HRC9.out.below HBA.out HRC9.out.lt)
 have HFTa := zh (HFT.out wa HBA.out)
 go_wp2_with (first
  | (refine wpList_loadS (by first | rfl | kernel_rfl) 25 _ rfl g3 rfl _ _ _ HRTa.out Tryz.underlying25 rfl (by kernel_rfl) ?_)
  | (refine wpList_loadS (by first | rfl | kernel_rfl) 34 _ rfl g2 rfl _ _ _ HRCa.out Tryz.underlying34 rfl (by kernel_rfl) ?_)
  | (go_at_call 13; refine HFTa.out.mono ?_; rintro e wb ⟨rfl, hbb⟩; have HRTb := zh (HRTa.out.below hbb HRTa.out.lt); have HBB := zh (HBA.out.trans (hbb.mono HBA.out.size)); have HRTc := zh (HRT2.out wb HBB.out); simp only [ftv]; clear hbb c3)
  | (refine wpList_loadS (by first | rfl | kernel_rfl) 25 _ rfl g3 rfl _ _ _ HRTb.out Tryz.underlying25 rfl (by kernel_rfl) ?_)
  | (go_at_call 8; refine HRTc.out.mono ?_; rintro e wc ⟨rfl, hbc⟩; have HBC := zh (HBB.out.trans (hbc.mono HBB.out.size)); clear hbc))
 exact HQ.out _ _ ⟨rfl, HB09.out.trans (HBC.out.mono HB09.out.size)⟩
end
end Go.Proofs.YteachpfpcceamaaGreatDoor
