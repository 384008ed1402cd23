/- Texts that all the claims need. Conditions: those that each states. -/

import Derived.Test.YtebnfmfpejnkcaaGreatDoorSk16
set_option linter.unusedSimpArgs false
set_option linter.unusedVariables false
set_option maxRecDepth 100000
set_option maxHeartbeats 40000000
namespace Go.Proofs.YtebnfmfpejnkcaaGreatDoor
section
open Go.RowKit RM
def prP (x : Cd) (i k : Nat) : List (Int × Int) := pairsK x i ++ ((if 1 ≤ k then prS x (x.ps.getD i pw0).1 else []) ++ (if 2 ≤ k then prS x (x.ps.getD i pw0).2 else []))
theorem prP_0 (x : Cd) (i : Nat) : prP x i 0 = pairsK x i := by simp [prP]
theorem prP_1 (x : Cd) (i : Nat) : prP x i 1 = prP x i 0 ++ prS x (x.ps.getD i pw0).1 := by simp [prP]
theorem prP_2 (x : Cd) (i : Nat) : prP x i 2 = prP x i 1 ++ prS x (x.ps.getD i pw0).2 := by simp [prP]
theorem prP_next (x : Cd) (i : Nat) : prP x i 2 = pairsK x (i + 1) := by rw [pairsK_succ]; simp [prP]
theorem prP_len (x : Cd) (i k : Nat) : (prP x i k).length ≤ 2 * i + 2 := by
 have h1 := pairsK_len x i
 have h2 := prS_len x (x.ps.getD i pw0).1
 have h3 := prS_len x (x.ps.getD i pw0).2
 unfold prP
 rw [zA7, zA7]
 have h4 : (if 1 ≤ k then prS x (x.ps.getD i pw0).1 else []).length ≤ 1 := by split <;> first | exact h2 | simp
 have h5 : (if 2 ≤ k then prS x (x.ps.getD i pw0).2 else []).length ≤ 1 := by split <;> first | exact h3 | simp
 omega
theorem qnamed_any (s : Sc) (x : Cd) (w : World) (h : ScOk w s) (hx : CdOk w w.heap.size x) :
 Calls Tryz.prog 59 #[.agg (scv s), .agg (cdv x)] w fun e w' => ∃ X d, e = .returned (.slice X (rnmK s x x.ws.length ++ pairsF x).length d) ∧ w'.ownsRow w.heap.size 39 2 (.slice X (rnmK s x x.ws.length ++ pairsF x).length d) (rnmK s x x.ws.length ++ pairsF x).length ((rnmK s x x.ws.length ++ pairsF x).flatMap ftC) ∧ Below w.heap.size w w' := by
 obtain ⟨r0, q0, hb⟩ := two_rows w (scv s) (cdv x) 25 34
 refine cHid fun Q' hQ => ?_
 have HQ := zh hQ; clear hQ
 go_enter Tryz.func59, Tryz.ntmps59
 go_upto_region 1 with fail
 change Code.wp _ _ _ _ ((w.alloc (.cells (scv s) 25)).alloc (.cells (cdv x) 34))
 generalize (w.alloc (.cells (scv s) 25)).alloc (.cells (cdv x) 34) = w1 at *
 have hz := q0.lt
 have hws : x.ws.length ≤ 65536 := hx.wfew
 have hps : x.ps.length ≤ 65536 := hx.pfew
 have HTM : Hid (x.txt.length = x.ws.length) := zh (by simp [Cd.txt])
 have hx1 := hx.below hb
 have HTX : Hid (Calls Tryz.prog 71 #[.slice x.A x.ws.length x.c] w1 fun e w' => ∃ X d, e = .returned (.slice X x.ws.length d) ∧ w'.ownsRow w1.heap.size 9 1 (.slice X x.ws.length d) x.ws.length (scells x.txt) ∧ Below w1.heap.size w1 w') := zh (rtexts_any x.A x.c x.ws w1 (by omega) (hx1.ws.mono (by omega)))
 have HOKf : Hid (∀ W, Below w.heap.size w W → ScOk W s) := zh fun W hW => h.below hW
 have HXf : Hid (∀ W, Below w.heap.size w W → CdOk W w.heap.size x) := zh fun W hW => hx.below hW
 have d4 := (cd_cells q0).2.2.2.2.1
 have HSZ := zh hb.size
 clear h hx hx1
 go_upto_region 3 with (go_at_call 71; refine HTX.out.mono ?_; rintro e w2 ⟨X, dx, rfl, hown, hb2⟩)
 have HRSf : Hid (∀ W, Below w2.heap.size w2 W → RowAt W w.heap.size 25 (scv s)) := zh fun W hW => (r0.below hb2 r0.lt).below hW (by have := hb2.size; have := r0.lt; omega)
 have HRCf : Hid (∀ W, Below w2.heap.size w2 W → RowAt W (w.heap.size + 1) 34 (cdv x)) := zh fun W hW => (q0.below hb2 q0.lt).below hW (by have := hb2.size; omega)
 have HSTf : Hid (∀ W, Below w2.heap.size w2 W → Strs W X x.txt) := zh fun W hW => Strs.below (Sl.of_own hown) hW
 have HB2 : Hid (Below w.heap.size w w2) := zh (hb.trans (hb2.mono (by have := HSZ.out; omega)))
 have hg0 : w.heap.size + 1 < w2.heap.size := by have := hb2.size; omega
 clear r0 q0 hb hb2 hown d4 HTX
 have HFN := zh fun s W (hW : Strs W X x.txt) => refFind_any X dx x.txt s W (by rw [HTM.out]; omega) hW
 rw [HTM.out] at HFN
 have d0 := (cd_cells (HRCf.out w2 (zB _ _))).1
 generalize hB : w2.heap.size = B at *
 have HBB := zh hB
 go_cut [7] from 15 to 22 (fun v wx => v = .bool (dVar x.op) ∧ wx = w2)
 case first =>
  have HDV : Hid (dVar x.op = (decide (x.op = 6) || decide (x.op = 7))) := zh (by unfold dVar; rw [Bool.eq_iff_iff]; simp)
  by_cases h6 : x.op = 6
  ·have hd := HDV.out
   rw [zE h6, Bool.true_or] at hd
   rw [h6] at d0
   have H6 := zh h6; clear h6
   generalize dVar x.op = dv at *
   subst hd
   go_wp2_with fail
   go_meet
   case rel => exact ⟨rfl, rfl⟩
  ·have hd := HDV.out
   rw [zF h6, Bool.false_or] at hd
   have q6 : (x.op == 6) = false := by simp [h6]
   have H6 := zh h6; clear h6
   by_cases h7 : x.op = 7
   ·rw [zE h7] at hd
    rw [h7] at d0 q6
    have H7 := zh h7; clear h7
    generalize dVar x.op = dv at *
    subst hd
    go_wp2_with fail
    go_meet
    case rel => exact ⟨rfl, rfl⟩
   ·rw [zF h7] at hd
    have q7 : (x.op == 7) = false := by simp [h7]
    have H7 := zh h7; clear h7
    generalize dVar x.op = dv at *
    subst hd
    go_wp2_with fail
    go_meet
    case rel => exact ⟨rfl, rfl⟩
 case rest =>
  obtain ⟨rfl, hwc⟩ := hcut
  obtain rfl := hwc.symm
  clear d0
  generalize hn : x.ws.length = n at *
  have HN := zh hn; clear hn
  go_upto_region 5 with fail
  go_loopw [5, 8, 9] (fun ov iv _ wr => ∃ (i : Nat) (Xo : Option Addr) (d : Nat), i ≤ n ∧ iv = .int .i64 i ∧ ov = .slice Xo (rnmK s x i).length d ∧ Hid (wr.ownsRow B 39 2 (.slice Xo (rnmK s x i).length d) (rnmK s x i).length ((rnmK s x i).flatMap ftC)) ∧ Hid (Below B w2 wr)) (fun _ iv _ _ => n - (intOf iv).toNat)
  case atStart => exact ⟨0, none, 0, by omega, rfl, rfl, zh (World.ownsRow_nil _ _ _ _), zh (zB _ _)⟩
  case round =>
   obtain ⟨i, Xo, d, hi, rfl, rfl, HO, HW⟩ := hrel
   have HRS := zh (HRSf.out _ HW.out)
   have HRC := zh (HRCf.out _ HW.out)
   have HWS : Hid (Below w.heap.size w wr) := zh (HB2.out.trans (HW.out.mono (by omega)))
   by_cases hlt : i < n
   ·obtain ⟨b, o, hA, _, hat⟩ := word_at (HXf.out _ HWS.out) HWS.out.size (k := i) (by rw [HN.out]; exact hlt)
    have d4 := (cd_cells HRC.out).2.2.2.2.1
    have d0 := (cd_cells HRC.out).1
    rw [HN.out, hA] at d4
    have HA := zh hA; clear hA
    obtain ⟨bx, ox, rfl, hst⟩ := (HSTf.out _ HW.out).at (k := i) (by rw [HTM.out]; exact hlt)
    have hst2 := hst i (by rw [HTM.out]; exact hlt)
    rw [txt_get x (by rw [HN.out]; exact hlt)] at hst2
    have hbx := World.block_lt_of_cell? _ _ hst2
    have HTK : Hid (rnmK s x (i + 1) = rnmK s x i ++ rnmS s x i) := zh (rnmK_succ _ _ _)
    have HNE : Hid (rnmS s x i = if x.op = 3 then (if livB s (x.ws.getD i wd0).1 = true then (if 0 ≤ idx s.lnms (x.ws.getD i wd0).1 then [] else [(4, (x.ws.getD i wd0).2)]) else [(3, (x.ws.getD i wd0).2)])
           else if (decide (idx x.txt (x.ws.getD i wd0).1 < i) || (dVar x.op && livB s (x.ws.getD i wd0).1)) = true then [(3, (x.ws.getD i wd0).2)] else []) := zh rfl
    have HLL : Hid ((rnmK s x i).length ≤ 65536) := zh (zM (rnmK_len s x i) (by omega))
    have CS : ∀ W, Below wr.heap.size wr W → RowAt W w.heap.size 25 (scv s) := fun W hW => HRS.out.below hW HRS.out.lt
    have CT : ∀ W, Below wr.heap.size wr W → W.cell? ⟨bx, ox + i, none⟩ = some (.string (x.ws.getD i wd0).1) := fun W hW => (hW.cell (p := ⟨bx, ox + i, none⟩) hbx).trans hst2
    clear hst hst2
    generalize (x.ws.getD i wd0).1 = tt at *
    generalize (x.ws.getD i wd0).2 = ta at *
    generalize rnmS s x i = NS at *
    have hin : (i : Int) < (n : Int) := by omega
    have HSwr : Hid (Below wr.heap.size wr wr) := zh (zB _ _)
    by_cases h3 : x.op = 3
    ·have hne := HNE.out
     rw [if_pos h3] at hne
     rw [h3] at d0
     have H3 := zh h3; clear h3 HNE
     go_upto_region 9 with fail
     clear d0 d4 hat
     have HSv0 : Hid (Below wr.heap.size wr wr.drew) := zh ((zB _ _).drew)
     refine wp_region_ou (fun W => Below wr.heap.size wr W) ((.take 0 (.take 1 (.take 2 (.take 3 (.take 4 (.solo 5 (.take 6 .nil)))))))) (by kernel_rfl) (by kernel_rfl) rfl (by kernel_rfl) HSv0.out ?_
     generalize wr.drew = v0 at HSv0 ⊢
     iterate 5
           (refine wpOU_step (zO rfl) ?_)
           (first
            | (refine wpOU_skip (by rfl) ?_)
            | (refine wpOU_take (by rfl) (take_row _ _ rfl w.heap.size rfl _ _ _ CS Tryz.underlying25 rfl (by kernel_rfl)) ?_)
            | (refine wpOU_take (v := ?_) (by rfl) ?_ ?_; rotate_left 1; (intro wx hSx; have hc_0 := CT wx hSx; go_simp; try with_reducible rfl)))
           (try simp only [Act.put, zA4, zA5, zA6])
     (refine wpOU_solo (zO rfl) ?_)
     intro K hK
     go_simp
     go_at_call 60
     refine (qlives_any s tt v0 (HOKf.out _ (HWS.out.trans (HSv0.out.mono HWS.out.size)))).mono ?_
     rintro e v1 ⟨rfl, hb⟩
     have HSv1 : Hid (Below wr.heap.size wr v1) := zh (HSv0.out.trans (hb.mono HSv0.out.size))
     clear hb
     refine hK.out _ _ HSv1.out ?_
     clear hK K
     (try simp only [Act.put, zA4, zA5, zA6])
     iterate 1
           (refine wpOU_step (zO rfl) ?_)
           (first
            | (refine wpOU_skip (by rfl) ?_)
            | (refine wpOU_take (by rfl) (take_row _ _ rfl w.heap.size rfl _ _ _ CS Tryz.underlying25 rfl (by kernel_rfl)) ?_)
            | (refine wpOU_take (v := ?_) (by rfl) ?_ ?_; rotate_left 1; (intro wx hSx; have hc_0 := CT wx hSx; go_simp; try with_reducible rfl)))
           (try simp only [Act.put, zA4, zA5, zA6])
     refine wpOU_done ?_
     cases hl : livB s tt with
     | false =>
       rw [hl, if_neg (by simp)] at hne
       have HNS := zh hne; clear hne hl
       have HOx := zh (own_below HO.out HSv1.out (zL _))
       go_wp2_with (at_builtin; refine wpList_moreS _ rfl _ _ 84 rfl 39 (.agg #[.int .i64 0, .int .i64 0]) 2 16 Tryz.underlying84 infoFtS rfl (by decide) B Xo (rnmK s x i).length d ((rnmK s x i).flatMap ftC) rfl (own_below HOx.out ((zB _ _).alloc (zL _) _) (zL _)) v1.heap.size [.int .i64 3, .int .i64 ta] rfl rfl (two_cells _ _ _ _) (by intro u hu; simp at hu; rcases hu with rfl | rfl <;> rfl) (by simp only [maxLen]; have := HLL.out; omega) (by have := HLL.out; omega) (by have := HSv1.out.size; have := HW.out.size; simp; omega) ?_)
       intro X6 d6 w6 hown6 hb6 hg6 hat6
       have HO6 : Hid (w6.ownsRow B 39 2 (.slice X6 ((rnmK s x i).length + 1) d6) ((rnmK s x i).length + 1) ((rnmK s x i).flatMap ftC ++ [.int .i64 3, .int .i64 ta])) := zh hown6
       have HB6 : Hid (Below B w2 w6) := zh (HW.out.trans ((HSv1.out.mono (by have := HW.out.size; omega)).trans (((zB _ _).alloc (by have := HSv1.out.size; have := HW.out.size; omega) _).trans hb6)))
       clear hown6 hb6 hg6 hat6 HOx
       go_wp2_with fail
       go_roundw
       case rel =>
        refine ⟨i + 1, X6, d6, by omega, by go_num, by rw [HTK.out, HNS.out, zA7]; rfl, ?_, HB6⟩
        show World.ownsRow _ _ _ _ _ _ _
        rw [HTK.out, HNS.out, zA7, List.flatMap_append]; exact HO6.out
       case measure => simp [intOf]; omega
     | true =>
       rw [hl, if_pos rfl] at hne
       clear hl
       go_upto_region 11 with fail
       have HSv2 : Hid (Below wr.heap.size wr v1.drew) := zh (HSv1.out.drew)
       refine wp_region_ou (fun W => Below wr.heap.size wr W) ((.take 0 (.take 1 (.take 2 (.take 3 (.take 4 (.solo 5 (.take 6 .nil)))))))) (by kernel_rfl) (by kernel_rfl) rfl (by kernel_rfl) HSv2.out ?_
       generalize v1.drew = v2 at HSv2 ⊢
       iterate 5
        (refine wpOU_step (zO rfl) ?_)
        (first
         | (refine wpOU_skip (by rfl) ?_)
         | (refine wpOU_take (by rfl) (take_row _ _ rfl w.heap.size rfl _ _ _ CS Tryz.underlying25 rfl (by kernel_rfl)) ?_)
         | (refine wpOU_take (v := ?_) (by rfl) ?_ ?_; rotate_left 1; (intro wx hSx; have hc_0 := CT wx hSx; go_simp; try with_reducible rfl)))
        (try simp only [Act.put, zA4, zA5, zA6])
       (refine wpOU_solo (zO rfl) ?_)
       intro K hK
       go_simp
       go_at_call 61
       refine (refLat_any s tt v2 (HOKf.out _ (HWS.out.trans (HSv2.out.mono HWS.out.size)))).mono ?_
       rintro e v3 ⟨rfl, hb⟩
       have HSv3 : Hid (Below wr.heap.size wr v3) := zh (HSv2.out.trans (hb.mono HSv2.out.size))
       clear hb
       refine hK.out _ _ HSv3.out ?_
       clear hK K
       (try simp only [Act.put, zA4, zA5, zA6])
       iterate 1
        (refine wpOU_step (zO rfl) ?_)
        (first
         | (refine wpOU_skip (by rfl) ?_)
         | (refine wpOU_take (by rfl) (take_row _ _ rfl w.heap.size rfl _ _ _ CS Tryz.underlying25 rfl (by kernel_rfl)) ?_)
         | (refine wpOU_take (v := ?_) (by rfl) ?_ ?_; rotate_left 1; (intro wx hSx; have hc_0 := CT wx hSx; go_simp; try with_reducible rfl)))
        (try simp only [Act.put, zA4, zA5, zA6])
       refine wpOU_done ?_
       by_cases hk : 0 ≤ idx s.lnms tt
       ·rw [if_pos hk] at hne
        have HNS := zh hne; clear hne
        have hk2 : decide (idx s.lnms tt < 0) = false := zF (by omega)
        generalize idx s.lnms tt = q at *
        go_wp2_with fail
        go_roundw
        case rel =>
            have hwz := zh (HW.out.trans (HSv3.out.mono (show B ≤ wr.heap.size by have := HW.out.size; omega)))
            have hsl : (Value.slice Xo (rnmK s x i).length d) = .slice Xo (rnmK s x (i + 1)).length d := by rw [HTK.out, HNS.out, List.append_nil]
            have hon : Hid (World.ownsRow v3 B 39 2 (.slice Xo (rnmK s x (i + 1)).length d) (rnmK s x (i + 1)).length ((rnmK s x (i + 1)).flatMap ftC)) := zh (by rw [HTK.out, HNS.out, List.append_nil]; exact own_below HO.out HSv3.out (zL _))
            first | exact ⟨i + 1, Xo, d, by omega, by go_num, hsl, hon, hwz⟩ | exact ⟨i + 1, by omega, by go_num, Xo, d, by simpa using hsl, hon, hwz⟩ | exact ⟨i + 1, by omega, by go_num, Xo, d, by simpa using hsl, hon⟩
        case measure => simp [intOf]; omega
       ·rw [if_neg hk] at hne
        have HNS := zh hne; clear hne
        have hk2 : decide (idx s.lnms tt < 0) = true := zE (by omega)
        have hk3 : idx s.lnms tt < 0 := by omega
        clear hk
        generalize idx s.lnms tt = q at *
        have HOx := zh (own_below HO.out HSv3.out (zL _))
        go_wp2_with (at_builtin; refine wpList_moreS _ rfl _ _ 84 rfl 39 (.agg #[.int .i64 0, .int .i64 0]) 2 16 Tryz.underlying84 infoFtS rfl (by decide) B Xo (rnmK s x i).length d ((rnmK s x i).flatMap ftC) rfl (own_below HOx.out ((zB _ _).alloc (zL _) _) (zL _)) v3.heap.size [.int .i64 4, .int .i64 ta] rfl rfl (two_cells _ _ _ _) (by intro u hu; simp at hu; rcases hu with rfl | rfl <;> rfl) (by simp only [maxLen]; have := HLL.out; omega) (by have := HLL.out; omega) (by have := HSv3.out.size; have := HW.out.size; simp; omega) ?_)
        intro X6 d6 w6 hown6 hb6 hg6 hat6
        have HO6 : Hid (w6.ownsRow B 39 2 (.slice X6 ((rnmK s x i).length + 1) d6) ((rnmK s x i).length + 1) ((rnmK s x i).flatMap ftC ++ [.int .i64 4, .int .i64 ta])) := zh hown6
        have HB6 : Hid (Below B w2 w6) := zh (HW.out.trans ((HSv3.out.mono (by have := HW.out.size; omega)).trans (((zB _ _).alloc (by have := HSv3.out.size; have := HW.out.size; omega) _).trans hb6)))
        clear hown6 hb6 hg6 hat6 HOx
        go_wp2_with fail
        go_roundw
        case rel =>
            refine ⟨i + 1, X6, d6, by omega, by go_num, by rw [HTK.out, HNS.out, zA7]; rfl, ?_, HB6⟩
            show World.ownsRow _ _ _ _ _ _ _
            rw [HTK.out, HNS.out, zA7, List.flatMap_append]; exact HO6.out
        case measure => simp [intOf]; omega
    ·have hne := HNE.out
     rw [if_neg h3] at hne
     have q3 : (x.op == 3) = false := by simp [h3]
     have H3 := zh h3; clear h3 HNE
     generalize dVar x.op = dv at *
     go_upto_region 13 with fail
     clear d0 d4 hat q3
     have HFT := zh fun W hW => HFN.out tt W hW
     by_cases hf : idx x.txt tt < i
     ·rw [zE hf, Bool.true_or, if_pos rfl] at hne
      have HNS := zh hne; clear hne
      have hf2 : decide (idx x.txt tt < (i : Int)) = true := zE hf
      generalize idx x.txt tt = q at *
      have HSv0 : Hid (Below wr.heap.size wr wr.drew) := zh ((zB _ _).drew)
      refine wp_region_ou (fun W => Below wr.heap.size wr W) ((.take 0 (.take 1 (.take 2 (.take 3 (.take 4 (.take 6 (.solo 5 (.take 7 (.take 8 (.take 9 (.take 10 (.take 11 (.take 12 (.take 13 (.take 14 (.take 15 (.solo 16 (.take 17 (.take 18 .nil)))))))))))))))))))) (by kernel_rfl) (by kernel_rfl) rfl (by kernel_rfl) HSv0.out ?_
      generalize wr.drew = v0 at HSv0 ⊢
      iterate 6
       (refine wpOU_step (zO rfl) ?_)
       (first
        | (refine wpOU_skip (by rfl) ?_)
        | (refine wpOU_take (by rfl) (take_row _ _ rfl w.heap.size rfl _ _ _ CS Tryz.underlying25 rfl (by kernel_rfl)) ?_)
        | (refine wpOU_take (v := ?_) (by rfl) ?_ ?_; rotate_left 1; (intro wx hSx; have hc_0 := CT wx hSx; go_simp; try with_reducible rfl)))
       (try simp only [Act.put, zA4, zA5, zA6])
      (refine wpOU_solo (zO rfl) ?_)
      intro K hK
      go_simp
      go_at_call 125
      refine (HFT.out v0 (HSTf.out _ (HW.out.trans (HSv0.out.mono (by have := HW.out.size; omega))))).mono ?_
      rintro e w' ⟨rfl, rfl⟩
      refine hK.out _ _ HSv0.out ?_
      clear hK K
      (try simp only [Act.put, zA4, zA5, zA6])
      iterate 9
       (refine wpOU_step (zO rfl) ?_)
       (first
        | (refine wpOU_skip (by rfl) ?_)
        | (refine wpOU_take (by rfl) (take_row _ _ rfl w.heap.size rfl _ _ _ CS Tryz.underlying25 rfl (by kernel_rfl)) ?_)
        | (refine wpOU_take (v := ?_) (by rfl) ?_ ?_; rotate_left 1; (intro wx hSx; have hc_0 := CT wx hSx; go_simp; try with_reducible rfl)))
       (try simp only [Act.put, zA4, zA5, zA6])
      (refine wpOU_solo (zO rfl) ?_)
      intro K hK
      go_simp
      refine hK.out _ _ HSv0.out ?_
      clear hK K
      (try simp only [Act.put, zA4, zA5, zA6])
      iterate 2
       (refine wpOU_step (zO rfl) ?_)
       (first
        | (refine wpOU_skip (by rfl) ?_)
        | (refine wpOU_take (by rfl) (take_row _ _ rfl w.heap.size rfl _ _ _ CS Tryz.underlying25 rfl (by kernel_rfl)) ?_)
        | (refine wpOU_take (v := ?_) (by rfl) ?_ ?_; rotate_left 1; (intro wx hSx; have hc_0 := CT wx hSx; go_simp; try with_reducible rfl)))
       (try simp only [Act.put, zA4, zA5, zA6])
      refine wpOU_done ?_
      have HOx := zh (own_below HO.out HSv0.out (zL _))
      go_wp2_with (at_builtin; refine wpList_moreS _ rfl _ _ 84 rfl 39 (.agg #[.int .i64 0, .int .i64 0]) 2 16 Tryz.underlying84 infoFtS rfl (by decide) B Xo (rnmK s x i).length d ((rnmK s x i).flatMap ftC) rfl (own_below HOx.out ((zB _ _).alloc (zL _) _) (zL _)) v0.heap.size [.int .i64 3, .int .i64 ta] rfl rfl (two_cells _ _ _ _) (by intro u hu; simp at hu; rcases hu with rfl | rfl <;> rfl) (by simp only [maxLen]; have := HLL.out; omega) (by have := HLL.out; omega) (by have := HSv0.out.size; have := HW.out.size; simp; omega) ?_)
      intro X6 d6 w6 hown6 hb6 hg6 hat6
      have HO6 : Hid (w6.ownsRow B 39 2 (.slice X6 ((rnmK s x i).length + 1) d6) ((rnmK s x i).length + 1) ((rnmK s x i).flatMap ftC ++ [.int .i64 3, .int .i64 ta])) := zh hown6
      have HB6 : Hid (Below B w2 w6) := zh (HW.out.trans ((HSv0.out.mono (by have := HW.out.size; omega)).trans (((zB _ _).alloc (by have := HSv0.out.size; have := HW.out.size; omega) _).trans hb6)))
      clear hown6 hb6 hg6 hat6 HOx
      go_wp2_with fail
      go_roundw
      case rel =>
       refine ⟨i + 1, X6, d6, by omega, by go_num, by rw [HTK.out, HNS.out, zA7]; rfl, ?_, HB6⟩
       show World.ownsRow _ _ _ _ _ _ _
       rw [HTK.out, HNS.out, zA7, List.flatMap_append]; exact HO6.out
      case measure => simp [intOf]; omega
     ·rw [zF hf, Bool.false_or] at hne
      have hf2 : decide (idx x.txt tt < (i : Int)) = false := zF hf
      have HF := zh hf; clear hf
      cases hdv : dv with
      | false =>
        rw [hdv, Bool.false_and, if_neg (by simp)] at hne
        subst hdv
        have HNS := zh hne; clear hne
        generalize idx x.txt tt = q at *
        have HSv0 : Hid (Below wr.heap.size wr wr.drew) := zh ((zB _ _).drew)
        refine wp_region_ou (fun W => Below wr.heap.size wr W) ((.take 0 (.take 1 (.take 2 (.take 3 (.take 4 (.take 6 (.solo 5 (.take 7 (.take 8 (.take 9 (.take 10 (.take 11 (.take 12 (.take 13 (.take 14 (.take 15 (.solo 16 (.take 17 (.take 18 .nil)))))))))))))))))))) (by kernel_rfl) (by kernel_rfl) rfl (by kernel_rfl) HSv0.out ?_
        generalize wr.drew = v0 at HSv0 ⊢
        iterate 6
            (refine wpOU_step (zO rfl) ?_)
            (first
              | (refine wpOU_skip (by rfl) ?_)
              | (refine wpOU_take (by rfl) (take_row _ _ rfl w.heap.size rfl _ _ _ CS Tryz.underlying25 rfl (by kernel_rfl)) ?_)
              | (refine wpOU_take (v := ?_) (by rfl) ?_ ?_; rotate_left 1; (intro wx hSx; have hc_0 := CT wx hSx; go_simp; try with_reducible rfl)))
            (try simp only [Act.put, zA4, zA5, zA6])
        (refine wpOU_solo (zO rfl) ?_)
        intro K hK
        go_simp
        go_at_call 125
        refine (HFT.out v0 (HSTf.out _ (HW.out.trans (HSv0.out.mono (by have := HW.out.size; omega))))).mono ?_
        rintro e w' ⟨rfl, rfl⟩
        refine hK.out _ _ HSv0.out ?_
        clear hK K
        (try simp only [Act.put, zA4, zA5, zA6])
        iterate 9
            (refine wpOU_step (zO rfl) ?_)
            (first
              | (refine wpOU_skip (by rfl) ?_)
              | (refine wpOU_take (by rfl) (take_row _ _ rfl w.heap.size rfl _ _ _ CS Tryz.underlying25 rfl (by kernel_rfl)) ?_)
              | (refine wpOU_take (v := ?_) (by rfl) ?_ ?_; rotate_left 1; (intro wx hSx; have hc_0 := CT wx hSx; go_simp; try with_reducible rfl)))
            (try simp only [Act.put, zA4, zA5, zA6])
        (refine wpOU_solo (zO rfl) ?_)
        intro K hK
        go_simp
        refine hK.out _ _ HSv0.out ?_
        clear hK K
        (try simp only [Act.put, zA4, zA5, zA6])
        iterate 2
            (refine wpOU_step (zO rfl) ?_)
            (first
              | (refine wpOU_skip (by rfl) ?_)
              | (refine wpOU_take (by rfl) (take_row _ _ rfl w.heap.size rfl _ _ _ CS Tryz.underlying25 rfl (by kernel_rfl)) ?_)
              | (refine wpOU_take (v := ?_) (by rfl) ?_ ?_; rotate_left 1; (intro wx hSx; have hc_0 := CT wx hSx; go_simp; try with_reducible rfl)))
            (try simp only [Act.put, zA4, zA5, zA6])
        refine wpOU_done ?_
        go_wp2_with fail
        go_roundw
        case rel =>
            have hwz := zh (HW.out.trans (HSv0.out.mono (show B ≤ wr.heap.size by have := HW.out.size; omega)))
            have hsl : (Value.slice Xo (rnmK s x i).length d) = .slice Xo (rnmK s x (i + 1)).length d := by rw [HTK.out, HNS.out, List.append_nil]
            have hon : Hid (World.ownsRow v0 B 39 2 (.slice Xo (rnmK s x (i + 1)).length d) (rnmK s x (i + 1)).length ((rnmK s x (i + 1)).flatMap ftC)) := zh (by rw [HTK.out, HNS.out, List.append_nil]; exact own_below HO.out HSv0.out (zL _))
            first | exact ⟨i + 1, Xo, d, by omega, by go_num, hsl, hon, hwz⟩ | exact ⟨i + 1, by omega, by go_num, Xo, d, by simpa using hsl, hon, hwz⟩ | exact ⟨i + 1, by omega, by go_num, Xo, d, by simpa using hsl, hon⟩
        case measure => simp [intOf]; omega
      | true =>
        rw [hdv, Bool.true_and] at hne
        subst hdv
        generalize idx x.txt tt = q at *
        have HSv0 : Hid (Below wr.heap.size wr wr.drew) := zh ((zB _ _).drew)
        refine wp_region_ou (fun W => Below wr.heap.size wr W) ((.take 0 (.take 1 (.take 2 (.take 3 (.take 4 (.take 6 (.solo 5 (.take 7 (.take 8 (.take 9 (.take 10 (.take 11 (.take 12 (.take 13 (.take 14 (.take 15 (.solo 16 (.take 17 (.take 18 .nil)))))))))))))))))))) (by kernel_rfl) (by kernel_rfl) rfl (by kernel_rfl) HSv0.out ?_
        generalize wr.drew = v0 at HSv0 ⊢
        iterate 6
            (refine wpOU_step (zO rfl) ?_)
            (first
                    | (refine wpOU_skip (by rfl) ?_)
                    | (refine wpOU_take (by rfl) (take_row _ _ rfl w.heap.size rfl _ _ _ CS Tryz.underlying25 rfl (by kernel_rfl)) ?_)
                    | (refine wpOU_take (v := ?_) (by rfl) ?_ ?_; rotate_left 1; (intro wx hSx; have hc_0 := CT wx hSx; go_simp; try with_reducible rfl)))
            (try simp only [Act.put, zA4, zA5, zA6])
        (refine wpOU_solo (zO rfl) ?_)
        intro K hK
        go_simp
        go_at_call 125
        refine (HFT.out v0 (HSTf.out _ (HW.out.trans (HSv0.out.mono (by have := HW.out.size; omega))))).mono ?_
        rintro e w' ⟨rfl, rfl⟩
        refine hK.out _ _ HSv0.out ?_
        clear hK K
        (try simp only [Act.put, zA4, zA5, zA6])
        iterate 9
            (refine wpOU_step (zO rfl) ?_)
            (first
                    | (refine wpOU_skip (by rfl) ?_)
                    | (refine wpOU_take (by rfl) (take_row _ _ rfl w.heap.size rfl _ _ _ CS Tryz.underlying25 rfl (by kernel_rfl)) ?_)
                    | (refine wpOU_take (v := ?_) (by rfl) ?_ ?_; rotate_left 1; (intro wx hSx; have hc_0 := CT wx hSx; go_simp; try with_reducible rfl)))
            (try simp only [Act.put, zA4, zA5, zA6])
        (refine wpOU_solo (zO rfl) ?_)
        intro K hK
        go_simp
        go_at_call 60
        refine (qlives_any s tt v0 (HOKf.out _ (HWS.out.trans (HSv0.out.mono HWS.out.size)))).mono ?_
        rintro e v1 ⟨rfl, hb⟩
        have HSv1 : Hid (Below wr.heap.size wr v1) := zh (HSv0.out.trans (hb.mono HSv0.out.size))
        clear hb
        refine hK.out _ _ HSv1.out ?_
        clear hK K
        (try simp only [Act.put, zA4, zA5, zA6])
        iterate 2
            (refine wpOU_step (zO rfl) ?_)
            (first
                    | (refine wpOU_skip (by rfl) ?_)
                    | (refine wpOU_take (by rfl) (take_row _ _ rfl w.heap.size rfl _ _ _ CS Tryz.underlying25 rfl (by kernel_rfl)) ?_)
                    | (refine wpOU_take (v := ?_) (by rfl) ?_ ?_; rotate_left 1; (intro wx hSx; have hc_0 := CT wx hSx; go_simp; try with_reducible rfl)))
            (try simp only [Act.put, zA4, zA5, zA6])
        refine wpOU_done ?_
        cases hl : livB s tt with
        | false =>
          rw [hl, if_neg (by simp)] at hne
          have HNS := zh hne; clear hne hl
          go_wp2_with fail
          go_roundw
          case rel =>
           have hwz := zh (HW.out.trans (HSv1.out.mono (show B ≤ wr.heap.size by have := HW.out.size; omega)))
           have hsl : (Value.slice Xo (rnmK s x i).length d) = .slice Xo (rnmK s x (i + 1)).length d := by rw [HTK.out, HNS.out, List.append_nil]
           have hon : Hid (World.ownsRow v1 B 39 2 (.slice Xo (rnmK s x (i + 1)).length d) (rnmK s x (i + 1)).length ((rnmK s x (i + 1)).flatMap ftC)) := zh (by rw [HTK.out, HNS.out, List.append_nil]; exact own_below HO.out HSv1.out (zL _))
           first | exact ⟨i + 1, Xo, d, by omega, by go_num, hsl, hon, hwz⟩ | exact ⟨i + 1, by omega, by go_num, Xo, d, by simpa using hsl, hon, hwz⟩ | exact ⟨i + 1, by omega, by go_num, Xo, d, by simpa using hsl, hon⟩
          case measure => simp [intOf]; omega
        | true =>
          rw [hl, if_pos rfl] at hne
          have HNS := zh hne; clear hne hl
          have HOx := zh (own_below HO.out HSv1.out (zL _))
          go_wp2_with (at_builtin; refine wpList_moreS _ rfl _ _ 84 rfl 39 (.agg #[.int .i64 0, .int .i64 0]) 2 16 Tryz.underlying84 infoFtS rfl (by decide) B Xo (rnmK s x i).length d ((rnmK s x i).flatMap ftC) rfl (own_below HOx.out ((zB _ _).alloc (zL _) _) (zL _)) v1.heap.size [.int .i64 3, .int .i64 ta] rfl rfl (two_cells _ _ _ _) (by intro u hu; simp at hu; rcases hu with rfl | rfl <;> rfl) (by simp only [maxLen]; have := HLL.out; omega) (by have := HLL.out; omega) (by have := HSv1.out.size; have := HW.out.size; simp; omega) ?_)
          intro X6 d6 w6 hown6 hb6 hg6 hat6
          have HO6 : Hid (w6.ownsRow B 39 2 (.slice X6 ((rnmK s x i).length + 1) d6) ((rnmK s x i).length + 1) ((rnmK s x i).flatMap ftC ++ [.int .i64 3, .int .i64 ta])) := zh hown6
          have HB6 : Hid (Below B w2 w6) := zh (HW.out.trans ((HSv1.out.mono (by have := HW.out.size; omega)).trans (((zB _ _).alloc (by have := HSv1.out.size; have := HW.out.size; omega) _).trans hb6)))
          clear hown6 hb6 hg6 hat6 HOx
          go_wp2_with fail
          go_roundw
          case rel =>
           refine ⟨i + 1, X6, d6, by omega, by go_num, by rw [HTK.out, HNS.out, zA7]; rfl, ?_, HB6⟩
           show World.ownsRow _ _ _ _ _ _ _
           rw [HTK.out, HNS.out, zA7, List.flatMap_append]; exact HO6.out
          case measure => simp [intOf]; omega
   ·obtain rfl : i = n := by omega
    have d4 := (cd_cells HRC.out).2.2.2.2.1
    rw [HN.out] at d4
    have HL0 : Hid ((rnmK s x i).length ≤ 65536) := zh (zM (rnmK_len s x i) (by omega))
    have HPF : Hid (pairsF x = pairsK x x.ps.length) := zh rfl
    have HP0 : Hid (rnmK s x i ++ pairsK x 0 = rnmK s x i) := zh (by simp [pairsK])
    generalize rnmK s x i = L0 at *
    generalize hm : x.ps.length = m at *
    have HM := zh hm; clear hm
    have HXf2 := HXf
    go_upto_region 16 with fail
    clear d4
    go_loopw [5, 10, 11] (fun ov iv _ wr => ∃ (i : Nat) (Xo : Option Addr) (d : Nat), i ≤ m ∧ iv = .int .i64 i ∧ ov = .slice Xo (L0 ++ pairsK x i).length d ∧ Hid (wr.ownsRow B 39 2 (.slice Xo (L0 ++ pairsK x i).length d) (L0 ++ pairsK x i).length ((L0 ++ pairsK x i).flatMap ftC)) ∧ Hid (Below B w2 wr)) (fun _ iv _ _ => m - (intOf iv).toNat)
    case atStart => exact ⟨0, Xo, d, by omega, rfl, by rw [HP0.out], zh (by rw [HP0.out]; exact HO.out), HW⟩
    case round =>
     clear HO HW HRS HRC HWS HP0
     obtain ⟨i, Xo, d, hi, rfl, rfl, HO, HW⟩ := hrel
     have HRC := zh (HRCf.out _ HW.out)
     have d5 := (cd_cells HRC.out).2.2.2.2.2.1
     rw [HM.out] at d5
     by_cases hlt : i < m
     ·have hin : (i : Int) < (m : Int) := by omega
      have HWS : Hid (Below w.heap.size w wr) := zh (HB2.out.trans (HW.out.mono (by omega)))
      obtain ⟨b, o, hA, _⟩ := pair_at (HXf.out _ HWS.out) HWS.out.size (k := i) (by rw [HM.out]; exact hlt)
      rw [hA] at d5
      have HA := zh hA; clear hA
      obtain ⟨wo, hwo⟩ : ∃ wo : World, wo = wr := ⟨wr, rfl⟩
      have HNX : Hid (L0 ++ prP x i 2 = L0 ++ pairsK x (i + 1)) := zh (by rw [prP_next])
      have HST0 : Hid (L0 ++ prP x i 0 = L0 ++ pairsK x i) := zh (by rw [prP_0])
      have hi16 : i < 65536 := by omega
      clear hwo
      go_upto_region 19 with fail
      go_loopw [5, 11] (fun ov kv wr => ∃ (k : Nat) (Xo : Option Addr) (d : Nat), k ≤ 2 ∧ kv = .int .i64 k ∧ ov = .slice Xo (L0 ++ prP x i k).length d ∧ Hid (wr.ownsRow B 39 2 (.slice Xo (L0 ++ prP x i k).length d) (L0 ++ prP x i k).length ((L0 ++ prP x i k).flatMap ftC)) ∧ Hid (Below B w2 wr)) (fun _ kv _ => 2 - (intOf kv).toNat)
      case atStart => exact ⟨0, Xo, d, by omega, rfl, by rw [HST0.out], zh (by rw [HST0.out]; exact HO.out), HW⟩
      case round =>
       clear HO HW HRC d5 HWS
       obtain ⟨k, Xo, d, hk, rfl, rfl, HO, HW⟩ := hrel
       have HRC := zh (HRCf.out _ HW.out)
       have d5 := (cd_cells HRC.out).2.2.2.2.2.1
       have HWS : Hid (Below w.heap.size w wr) := zh (HB2.out.trans (HW.out.mono (by omega)))
       rw [HM.out, HA.out] at d5
       obtain ⟨b', o', hA', hc⟩ := pair_at (HXf.out _ HWS.out) HWS.out.size (k := i) (by rw [HM.out]; exact hlt)
       rw [HA.out] at hA'
       injection hA' with hA'
       injection hA' with h1 h2
       subst h1 h2
       have HSwr : Hid (Below wr.heap.size wr wr) := zh (zB _ _)
       rcases (show k = 0 ∨ k = 1 ∨ k = 2 by omega) with rfl | rfl | rfl
       ·clear hk
        have HF := zh (HFN.out (x.ps.getD i pw0).1.1 wr (HSTf.out _ HW.out))
        have HPS : Hid (prS x (x.ps.getD i pw0).1 = if 0 ≤ idx x.txt (x.ps.getD i pw0).1.1 then [] else [(3, (x.ps.getD i pw0).1.2)]) := zh rfl
        have HTK : Hid (L0 ++ prP x i 1 = (L0 ++ prP x i 0) ++ prS x (x.ps.getD i pw0).1) := zh (by rw [prP_1, List.append_assoc])
        have HLL : Hid ((L0 ++ prP x i 0).length ≤ 262144) := zh (by have h1 := prP_len x i 0; have := HL0.out; rw [zA7]; omega)
        have hc0 := hc 0 _ rfl
        have hc1 := hc 1 _ rfl
        simp only [show ((0 : Nat) : Int) = 0 from rfl]
        generalize hLN : L0 ++ prP x i 1 = LN at *
        have HLN := zh hLN; clear hLN
        generalize hLK : L0 ++ prP x i 0 = LK at *
        clear hLK
        generalize prS x (x.ps.getD i pw0).1 = PS at *
        generalize (x.ps.getD i pw0).1.1 = fs at *
        generalize (x.ps.getD i pw0).1.2 = fa at *
        rw [Nat.add_zero] at hc0
        clear hc
        by_cases hk : 0 ≤ idx x.txt fs
        ·have hps := HPS.out
         rw [if_pos hk] at hps
         have HNS := zh hps; clear hps HPS
         have hk2 : decide (idx x.txt fs < 0) = false := zF (by omega)
         generalize idx x.txt fs = q at *
         go_wp2_with (go_at_call 125; refine HF.out.mono ?_; rintro e w' ⟨rfl, rfl⟩)
         go_roundw
         case rel =>
                    refine ⟨1, Xo, d, by omega, by go_num, by rw [HLN.out, HTK.out, HNS.out, List.append_nil], ?_, HW⟩
                    show World.ownsRow _ _ _ _ _ _ _
                    rw [HLN.out, HTK.out, HNS.out, List.append_nil]; exact HO.out
         case measure => simp [intOf]
        ·have hps := HPS.out
         rw [if_neg hk] at hps
         have HNS := zh hps; clear hps HPS
         have hk2 : decide (idx x.txt fs < 0) = true := zE (by omega)
         have hk3 : idx x.txt fs < 0 := by omega
         clear hk
         generalize idx x.txt fs = q at *
         go_upto_region 22 with (go_at_call 125; refine HF.out.mono ?_; rintro e w' ⟨rfl, rfl⟩)
         have HOx := zh (own_below HO.out HSwr.out (zL _))
         go_wp2_with (at_builtin; refine wpList_moreS _ rfl _ _ 84 rfl 39 (.agg #[.int .i64 0, .int .i64 0]) 2 16 Tryz.underlying84 infoFtS rfl (by decide) B Xo (LK).length d ((LK).flatMap ftC) rfl (own_below HOx.out ((zB _ _).alloc (zL _) _) (zL _)) wr.heap.size [.int .i64 3, .int .i64 fa] rfl rfl (two_cells _ _ _ _) (by intro u hu; simp at hu; rcases hu with rfl | rfl <;> rfl) (by simp only [maxLen]; have := HLL.out; omega) (by have := HLL.out; omega) (by have := HSwr.out.size; have := HW.out.size; simp; omega) ?_)
         intro X6 d6 w6 hown6 hb6 hg6 hat6
         have HO6 : Hid (w6.ownsRow B 39 2 (.slice X6 ((LK).length + 1) d6) ((LK).length + 1) ((LK).flatMap ftC ++ [.int .i64 3, .int .i64 fa])) := zh hown6
         have HB6 : Hid (Below B w2 w6) := zh (HW.out.trans ((HSwr.out.mono (by have := HW.out.size; omega)).trans (((zB _ _).alloc (by have := HSwr.out.size; have := HW.out.size; omega) _).trans hb6)))
         clear hown6 hb6 hg6 hat6 HOx
         go_wp2_with fail
         go_roundw
         case rel =>
                    refine ⟨1, X6, d6, by omega, by go_num, by rw [HLN.out, HTK.out, HNS.out, zA7]; rfl, ?_, HB6⟩
                    show World.ownsRow _ _ _ _ _ _ _
                    rw [HLN.out, HTK.out, HNS.out, zA7, List.flatMap_append]; exact HO6.out
         case measure => simp [intOf]
       ·clear hk
        have HF := zh (HFN.out (x.ps.getD i pw0).2.1 wr (HSTf.out _ HW.out))
        have HPS : Hid (prS x (x.ps.getD i pw0).2 = if 0 ≤ idx x.txt (x.ps.getD i pw0).2.1 then [] else [(3, (x.ps.getD i pw0).2.2)]) := zh rfl
        have HTK : Hid (L0 ++ prP x i 2 = (L0 ++ prP x i 1) ++ prS x (x.ps.getD i pw0).2) := zh (by rw [prP_2, List.append_assoc])
        have HLL : Hid ((L0 ++ prP x i 1).length ≤ 262144) := zh (by have h1 := prP_len x i 1; have := HL0.out; rw [zA7]; omega)
        have hc0 := hc 2 _ rfl
        have hc1 := hc 3 _ rfl
        simp only [show ((1 : Nat) : Int) = 1 from rfl]
        generalize hLN : L0 ++ prP x i 2 = LN at *
        have HLN := zh hLN; clear hLN
        generalize hLK : L0 ++ prP x i 1 = LK at *
        clear hLK
        generalize prS x (x.ps.getD i pw0).2 = PS at *
        generalize (x.ps.getD i pw0).2.1 = fs at *
        generalize (x.ps.getD i pw0).2.2 = fa at *
        skip
        clear hc
        by_cases hk : 0 ≤ idx x.txt fs
        ·have hps := HPS.out
         rw [if_pos hk] at hps
         have HNS := zh hps; clear hps HPS
         have hk2 : decide (idx x.txt fs < 0) = false := zF (by omega)
         generalize idx x.txt fs = q at *
         go_wp2_with (go_at_call 125; refine HF.out.mono ?_; rintro e w' ⟨rfl, rfl⟩)
         go_roundw
         case rel =>
                    refine ⟨2, Xo, d, by omega, by go_num, by rw [HLN.out, HTK.out, HNS.out, List.append_nil], ?_, HW⟩
                    show World.ownsRow _ _ _ _ _ _ _
                    rw [HLN.out, HTK.out, HNS.out, List.append_nil]; exact HO.out
         case measure => simp [intOf]
        ·have hps := HPS.out
         rw [if_neg hk] at hps
         have HNS := zh hps; clear hps HPS
         have hk2 : decide (idx x.txt fs < 0) = true := zE (by omega)
         have hk3 : idx x.txt fs < 0 := by omega
         clear hk
         generalize idx x.txt fs = q at *
         go_upto_region 22 with (go_at_call 125; refine HF.out.mono ?_; rintro e w' ⟨rfl, rfl⟩)
         have HOx := zh (own_below HO.out HSwr.out (zL _))
         go_wp2_with (at_builtin; refine wpList_moreS _ rfl _ _ 84 rfl 39 (.agg #[.int .i64 0, .int .i64 0]) 2 16 Tryz.underlying84 infoFtS rfl (by decide) B Xo (LK).length d ((LK).flatMap ftC) rfl (own_below HOx.out ((zB _ _).alloc (zL _) _) (zL _)) wr.heap.size [.int .i64 3, .int .i64 fa] rfl rfl (two_cells _ _ _ _) (by intro u hu; simp at hu; rcases hu with rfl | rfl <;> rfl) (by simp only [maxLen]; have := HLL.out; omega) (by have := HLL.out; omega) (by have := HSwr.out.size; have := HW.out.size; simp; omega) ?_)
         intro X6 d6 w6 hown6 hb6 hg6 hat6
         have HO6 : Hid (w6.ownsRow B 39 2 (.slice X6 ((LK).length + 1) d6) ((LK).length + 1) ((LK).flatMap ftC ++ [.int .i64 3, .int .i64 fa])) := zh hown6
         have HB6 : Hid (Below B w2 w6) := zh (HW.out.trans ((HSwr.out.mono (by have := HW.out.size; omega)).trans (((zB _ _).alloc (by have := HSwr.out.size; have := HW.out.size; omega) _).trans hb6)))
         clear hown6 hb6 hg6 hat6 HOx
         go_wp2_with fail
         go_roundw
         case rel =>
                    refine ⟨2, X6, d6, by omega, by go_num, by rw [HLN.out, HTK.out, HNS.out, zA7]; rfl, ?_, HB6⟩
                    show World.ownsRow _ _ _ _ _ _ _
                    rw [HLN.out, HTK.out, HNS.out, zA7, List.flatMap_append]; exact HO6.out
         case measure => simp [intOf]
       ·clear hk hc
        simp only [show ((2 : Nat) : Int) = 2 from rfl]
        rw [HNX.out] at HO ⊢
        go_wp2_with fail
        go_roundw
        case rel => exact ⟨i + 1, Xo, d, by omega, by go_num, rfl, HO, HW⟩
        case measure => simp [intOf]; omega
     ·obtain rfl : i = m := by omega
      have hpf := HPF.out
      rw [hpf] at HQ
      clear hpf
      generalize L0 ++ pairsK x i = L9 at *
      go_wp2_with fail
      exact HQ.out _ _ ⟨Xo, d, rfl, own_mono HO.out (by omega), HB2.out.trans (HW.out.mono (by omega))⟩
end
section
open Go.RowKit RM
end
section
open Go.RowKit RM
def allT (R : Int → Int → Bool) (i j : Int) (u v : Nat) : Bool := (List.range v).all fun x => !(R i x && R j x) || R u x
theorem allT_next (R : Int → Int → Bool) (i j : Int) (u v : Nat) : allT R i j u (v + 1) = (allT R i j u v && (!(R i v && R j v) || R u v)) := by
 unfold allT
 rw [List.range_succ, List.all_append]
 simp
theorem qjoin_any (n : Int) (l : List Nat) (hl : RW l) (i j : Int) (w : World) :
 Calls Tryz.prog 127 #[.agg (rv n l), .int .i64 i, .int .i64 j] w fun e w' => e = .returned (optV (joinR n l i j)) ∧ Below w.heap.size w w' := by
 have hr1 := RelAt.new w n l
 have hb : Below w.heap.size w (w.alloc (.cells (rv n l) 95)) := (zB _ _).alloc (zL _) _
 have HB := zh hb; clear hb
 have HPT : Hid (∀ w, Calls Tryz.prog 181 #[.agg (rv n l)] w fun e w' => e = .returned (.int .i64 ((pts n : Nat) : Int)) ∧ Below w.heap.size w w') := fun w => qpoints_any n l w
 have HHAS : Hid (∀ (a b : Int) w, Calls Tryz.prog 182 #[.agg (rv n l), .int .i64 a, .int .i64 b] w fun e w' => e = .returned (.bool ((hasR n l) a b)) ∧ Below w.heap.size w w') := fun a b w => qhas_any n l hl a b w
 have HTT : Hid (∀ u : Nat, bndT (pts n) (hasR n l) i j u = ((hasR n l) i u && (hasR n l) j u && allT (hasR n l) i j u (pts n))) := fun _ => rfl
 have HHIT : Hid (∀ k : Nat, k < pts n → bndT (pts n) (hasR n l) i j k = true → (∀ a : Nat, a < k → bndT (pts n) (hasR n l) i j a = false) → optV (joinR n l i j) = .tuple #[.int .i64 (k : Int), .bool true]) := fun k h1 h2 h3 => by
  unfold joinR bndO; rw [fnd_hit h1 h2 h3, optV_some]
 have HNO : Hid ((∀ a : Nat, a < pts n → bndT (pts n) (hasR n l) i j a = false) → optV (joinR n l i j) = .tuple #[.int .i64 0, .bool false]) := fun h => by
  unfold joinR bndO; rw [fnd_none h, optV_none]
 have hp := pts_le n
 generalize optV (joinR n l i j) = res at *
 generalize bndT (pts n) (hasR n l) i j = T at *
 generalize (hasR n l) = R at *
 generalize pts n = p at *
 go_enter Tryz.func127, Tryz.ntmps127
 go_wp2_with fail
 go_loopw [8, 9, 10] (fun uv _ _ wr => ∃ u : Nat, u ≤ p ∧ uv = .int .i64 u ∧ RelAt wr w.heap.size n l ∧ Hid (Below w.heap.size w wr) ∧ Hid (∀ a, a < u → T a = false)) (fun uv _ _ _ => p - (intOf uv).toNat)
 case atStart => exact ⟨0, by omega, rfl, hr1, HB, fun a ha => by omega⟩
 case round =>
  clear hr1 HB
  obtain ⟨u, hu, rfl, rr, HB, HA⟩ := hrel
  go_wp2_with (refine wpList_loadRel rfl _ rfl w.heap.size rfl n l hl rr ?_)
  refine (HPT.out _).mono ?_
  rintro e w1 ⟨rfl, hb1⟩
  have r1 := rr.below hb1 rr.lt
  have HB1 := zh (HB.out.trans (hb1.mono HB.out.size)); clear hb1 rr HB
  by_cases hlt : u < p
  ·go_wp2_with (refine wpList_loadRel (by rfl) _ rfl w.heap.size rfl n l hl r1 ?_)
   refine (HHAS.out i (u : Int) _).mono ?_
   rintro e w2 ⟨rfl, hb⟩
   have r2 := r1.below hb r1.lt
   have HB2 := zh (HB1.out.trans (hb.mono HB1.out.size)); clear hb
   clear r1 HB1
   cases d1 : R i (u : Int) with
   | false =>
     go_wp2_with fail
     have HG : Hid (false = (R i u && R j u && allT R i j u 0)) := by show _ = _; rw [d1]; simp
     obtain ⟨wo, rfl⟩ : ∃ wo : World, wo = w2 := ⟨_, rfl⟩
     go_loopw [9, 10] (fun gv vv wr => ∃ (v : Nat) (q : Bool), v ≤ p ∧ gv = .bool q ∧ vv = .int .i64 v ∧ RelAt wr w.heap.size n l ∧ Hid (Below w.heap.size w wr) ∧ Hid (q = (R i u && R j u && allT R i j u v))) (fun _ vv _ => p - (intOf vv).toNat)
     case atStart => exact ⟨0, false, by omega, rfl, rfl, r2, HB2, HG⟩
     case round =>
      clear r2 HB2 HG
      obtain ⟨v, q, hv, rfl, rfl, rr, HB, HG⟩ := hrel
      go_wp2_with (refine wpList_loadRel rfl _ rfl w.heap.size rfl n l hl rr ?_)
      refine (HPT.out _).mono ?_
      rintro e v1 ⟨rfl, hb⟩
      have k1 := rr.below hb rr.lt
      have HK1 := zh (HB.out.trans (hb.mono HB.out.size)); clear hb rr HB
      by_cases hvp : v < p
      ·have HNX := zh (allT_next R i j u v)
       go_wp2_with (refine wpList_loadRel (by rfl) _ rfl w.heap.size rfl n l hl k1 ?_)
       refine (HHAS.out i (v : Int) _).mono ?_
       rintro e v2 ⟨rfl, hb⟩
       have k2 := k1.below hb k1.lt
       have HK2 := zh (HK1.out.trans (hb.mono HK1.out.size)); clear hb
       clear k1 HK1
       cases c1 : R i (v : Int) with
       | false =>
         have HG2 : Hid (q = (R i u && R j u && allT R i j u (v + 1))) := by show _ = _; rw [HNX.out, c1, HG.out]; simp
         clear c1
         go_wp2_with fail
         go_roundw
         case rel => exact ⟨v + 1, q, by omega, rfl, by go_num, k2, HK2, HG2⟩
         case measure => simp [intOf]; omega
       | true =>
         have C1 := zh c1; clear c1
         go_wp2_with (refine wpList_loadRel (by rfl) _ rfl w.heap.size rfl n l hl k2 ?_)
         refine (HHAS.out j (v : Int) _).mono ?_
         rintro e v3 ⟨rfl, hb⟩
         have k3 := k2.below hb k2.lt
         have HK3 := zh (HK2.out.trans (hb.mono HK2.out.size)); clear hb
         clear k2 HK2
         cases c2 : R j (v : Int) with
         | false =>
           have HG2 : Hid (q = (R i u && R j u && allT R i j u (v + 1))) := by show _ = _; rw [HNX.out, c2, HG.out]; simp
           clear c2
           go_wp2_with fail
           go_roundw
           case rel => exact ⟨v + 1, q, by omega, rfl, by go_num, k3, HK3, HG2⟩
           case measure => simp [intOf]; omega
         | true =>
           have C2 := zh c2; clear c2
           go_wp2_with (refine wpList_loadRel (by rfl) _ rfl w.heap.size rfl n l hl k3 ?_)
           refine (HHAS.out u (v : Int) _).mono ?_
           rintro e v4 ⟨rfl, hb⟩
           have k4 := k3.below hb k3.lt
           have HK4 := zh (HK3.out.trans (hb.mono HK3.out.size)); clear hb
           clear k3 HK3
           cases c3 : R u (v : Int) with
           | false =>
             have HG2 : Hid (false = (R i u && R j u && allT R i j u (v + 1))) := by show _ = _; rw [HNX.out, C1.out, C2.out, c3]; simp
             clear c3
             go_wp2_with fail
             go_roundw
             case rel => exact ⟨v + 1, false, by omega, rfl, by go_num, k4, HK4, HG2⟩
             case measure => simp [intOf]; omega
           | true =>
             have HG2 : Hid (q = (R i u && R j u && allT R i j u (v + 1))) := by show _ = _; rw [HNX.out, c3, HG.out]; simp
             clear c3
             go_wp2_with fail
             go_roundw
             case rel => exact ⟨v + 1, q, by omega, rfl, by go_num, k4, HK4, HG2⟩
             case measure => simp [intOf]; omega
      ·have e : v = p := by omega
       subst e
       cases q with
       | false =>
         have HA2 : Hid (∀ a, a < u + 1 → T a = false) := fun a ha => by
          by_cases h : a < u
          ·exact HA.out a h
          ·obtain rfl : a = u := by omega
           rw [HTT.out]; exact HG.out.symm
         go_wp2_with fail
         go_roundw
         case rel => exact ⟨u + 1, by omega, by go_num, k1, HK1, HA2⟩
         case measure => simp [intOf]; omega
       | true =>
         have HR := zh (HHIT.out u hlt ((HTT.out u).trans HG.out.symm) HA.out)
         go_wp2_with fail
         go_ret2
         exact ⟨congrArg Ending.returned HR.out.symm, HK1.out⟩
   | true =>
     have D1 := zh d1; clear d1
     go_wp2_with (refine wpList_loadRel (by rfl) _ rfl w.heap.size rfl n l hl r2 ?_)
     refine (HHAS.out j (u : Int) _).mono ?_
     rintro e w3 ⟨rfl, hb⟩
     have r3 := r2.below hb r2.lt
     have HB3 := zh (HB2.out.trans (hb.mono HB2.out.size)); clear hb
     clear r2 HB2
     obtain ⟨q0, d2⟩ : ∃ q0, R j (u : Int) = q0 := ⟨_, rfl⟩
     have D2 := zh d2; rw [d2]; clear d2
     go_wp2_with fail
     have HG : Hid (q0 = (R i u && R j u && allT R i j u 0)) := by show _ = _; rw [D1.out, D2.out]; simp [allT]
     obtain ⟨wo, rfl⟩ : ∃ wo : World, wo = w3 := ⟨_, rfl⟩
     go_loopw [9, 10] (fun gv vv wr => ∃ (v : Nat) (q : Bool), v ≤ p ∧ gv = .bool q ∧ vv = .int .i64 v ∧ RelAt wr w.heap.size n l ∧ Hid (Below w.heap.size w wr) ∧ Hid (q = (R i u && R j u && allT R i j u v))) (fun _ vv _ => p - (intOf vv).toNat)
     case atStart => exact ⟨0, q0, by omega, rfl, rfl, r3, HB3, HG⟩
     case round =>
      clear r3 HB3 HG
      obtain ⟨v, q, hv, rfl, rfl, rr, HB, HG⟩ := hrel
      go_wp2_with (refine wpList_loadRel rfl _ rfl w.heap.size rfl n l hl rr ?_)
      refine (HPT.out _).mono ?_
      rintro e v1 ⟨rfl, hb⟩
      have k1 := rr.below hb rr.lt
      have HK1 := zh (HB.out.trans (hb.mono HB.out.size)); clear hb rr HB
      by_cases hvp : v < p
      ·have HNX := zh (allT_next R i j u v)
       go_wp2_with (refine wpList_loadRel (by rfl) _ rfl w.heap.size rfl n l hl k1 ?_)
       refine (HHAS.out i (v : Int) _).mono ?_
       rintro e v2 ⟨rfl, hb⟩
       have k2 := k1.below hb k1.lt
       have HK2 := zh (HK1.out.trans (hb.mono HK1.out.size)); clear hb
       clear k1 HK1
       cases c1 : R i (v : Int) with
       | false =>
         have HG2 : Hid (q = (R i u && R j u && allT R i j u (v + 1))) := by show _ = _; rw [HNX.out, c1, HG.out]; simp
         clear c1
         go_wp2_with fail
         go_roundw
         case rel => exact ⟨v + 1, q, by omega, rfl, by go_num, k2, HK2, HG2⟩
         case measure => simp [intOf]; omega
       | true =>
         have C1 := zh c1; clear c1
         go_wp2_with (refine wpList_loadRel (by rfl) _ rfl w.heap.size rfl n l hl k2 ?_)
         refine (HHAS.out j (v : Int) _).mono ?_
         rintro e v3 ⟨rfl, hb⟩
         have k3 := k2.below hb k2.lt
         have HK3 := zh (HK2.out.trans (hb.mono HK2.out.size)); clear hb
         clear k2 HK2
         cases c2 : R j (v : Int) with
         | false =>
           have HG2 : Hid (q = (R i u && R j u && allT R i j u (v + 1))) := by show _ = _; rw [HNX.out, c2, HG.out]; simp
           clear c2
           go_wp2_with fail
           go_roundw
           case rel => exact ⟨v + 1, q, by omega, rfl, by go_num, k3, HK3, HG2⟩
           case measure => simp [intOf]; omega
         | true =>
           have C2 := zh c2; clear c2
           go_wp2_with (refine wpList_loadRel (by rfl) _ rfl w.heap.size rfl n l hl k3 ?_)
           refine (HHAS.out u (v : Int) _).mono ?_
           rintro e v4 ⟨rfl, hb⟩
           have k4 := k3.below hb k3.lt
           have HK4 := zh (HK3.out.trans (hb.mono HK3.out.size)); clear hb
           clear k3 HK3
           cases c3 : R u (v : Int) with
           | false =>
             have HG2 : Hid (false = (R i u && R j u && allT R i j u (v + 1))) := by show _ = _; rw [HNX.out, C1.out, C2.out, c3]; simp
             clear c3
             go_wp2_with fail
             go_roundw
             case rel => exact ⟨v + 1, false, by omega, rfl, by go_num, k4, HK4, HG2⟩
             case measure => simp [intOf]; omega
           | true =>
             have HG2 : Hid (q = (R i u && R j u && allT R i j u (v + 1))) := by show _ = _; rw [HNX.out, c3, HG.out]; simp
             clear c3
             go_wp2_with fail
             go_roundw
             case rel => exact ⟨v + 1, q, by omega, rfl, by go_num, k4, HK4, HG2⟩
             case measure => simp [intOf]; omega
      ·have e : v = p := by omega
       subst e
       cases q with
       | false =>
         have HA2 : Hid (∀ a, a < u + 1 → T a = false) := fun a ha => by
          by_cases h : a < u
          ·exact HA.out a h
          ·obtain rfl : a = u := by omega
           rw [HTT.out]; exact HG.out.symm
         go_wp2_with fail
         go_roundw
         case rel => exact ⟨u + 1, by omega, by go_num, k1, HK1, HA2⟩
         case measure => simp [intOf]; omega
       | true =>
         have HR := zh (HHIT.out u hlt ((HTT.out u).trans HG.out.symm) HA.out)
         go_wp2_with fail
         go_ret2
         exact ⟨congrArg Ending.returned HR.out.symm, HK1.out⟩
  ·have e : u = p := by omega
   subst e
   have HR := zh (HNO.out HA.out)
   go_wp2_with fail
   go_ret2
   exact ⟨congrArg Ending.returned HR.out.symm, HB1.out⟩
theorem qmeet_any (n : Int) (l : List Nat) (hl : RW l) (i j : Int) (w : World) :
 Calls Tryz.prog 128 #[.agg (rv n l), .int .i64 i, .int .i64 j] w fun e w' => e = .returned (optV (meetR n l i j)) ∧ Below w.heap.size w w' := by
 have hr1 := RelAt.new w n l
 have hb : Below w.heap.size w (w.alloc (.cells (rv n l) 95)) := (zB _ _).alloc (zL _) _
 have HB := zh hb; clear hb
 have HPT : Hid (∀ w, Calls Tryz.prog 181 #[.agg (rv n l)] w fun e w' => e = .returned (.int .i64 ((pts n : Nat) : Int)) ∧ Below w.heap.size w w') := fun w => qpoints_any n l w
 have HHAS : Hid (∀ (a b : Int) w, Calls Tryz.prog 182 #[.agg (rv n l), .int .i64 b, .int .i64 a] w fun e w' => e = .returned (.bool ((flp (hasR n l)) a b)) ∧ Below w.heap.size w w') := fun a b w => qhas_any n l hl b a w
 have HTT : Hid (∀ u : Nat, bndT (pts n) (flp (hasR n l)) i j u = ((flp (hasR n l)) i u && (flp (hasR n l)) j u && allT (flp (hasR n l)) i j u (pts n))) := fun _ => rfl
 have HHIT : Hid (∀ k : Nat, k < pts n → bndT (pts n) (flp (hasR n l)) i j k = true → (∀ a : Nat, a < k → bndT (pts n) (flp (hasR n l)) i j a = false) → optV (meetR n l i j) = .tuple #[.int .i64 (k : Int), .bool true]) := fun k h1 h2 h3 => by
  unfold meetR bndO; rw [fnd_hit h1 h2 h3, optV_some]
 have HNO : Hid ((∀ a : Nat, a < pts n → bndT (pts n) (flp (hasR n l)) i j a = false) → optV (meetR n l i j) = .tuple #[.int .i64 0, .bool false]) := fun h => by
  unfold meetR bndO; rw [fnd_none h, optV_none]
 have hp := pts_le n
 generalize optV (meetR n l i j) = res at *
 generalize bndT (pts n) (flp (hasR n l)) i j = T at *
 generalize (flp (hasR n l)) = R at *
 generalize pts n = p at *
 go_enter Tryz.func128, Tryz.ntmps128
 go_wp2_with fail
 go_loopw [8, 9, 10] (fun uv _ _ wr => ∃ u : Nat, u ≤ p ∧ uv = .int .i64 u ∧ RelAt wr w.heap.size n l ∧ Hid (Below w.heap.size w wr) ∧ Hid (∀ a, a < u → T a = false)) (fun uv _ _ _ => p - (intOf uv).toNat)
 case atStart => exact ⟨0, by omega, rfl, hr1, HB, fun a ha => by omega⟩
 case round =>
  clear hr1 HB
  obtain ⟨u, hu, rfl, rr, HB, HA⟩ := hrel
  go_wp2_with (refine wpList_loadRel rfl _ rfl w.heap.size rfl n l hl rr ?_)
  refine (HPT.out _).mono ?_
  rintro e w1 ⟨rfl, hb1⟩
  have r1 := rr.below hb1 rr.lt
  have HB1 := zh (HB.out.trans (hb1.mono HB.out.size)); clear hb1 rr HB
  by_cases hlt : u < p
  ·go_wp2_with (refine wpList_loadRel (by rfl) _ rfl w.heap.size rfl n l hl r1 ?_)
   refine (HHAS.out i (u : Int) _).mono ?_
   rintro e w2 ⟨rfl, hb⟩
   have r2 := r1.below hb r1.lt
   have HB2 := zh (HB1.out.trans (hb.mono HB1.out.size)); clear hb
   clear r1 HB1
   cases d1 : R i (u : Int) with
   | false =>
     go_wp2_with fail
     have HG : Hid (false = (R i u && R j u && allT R i j u 0)) := by show _ = _; rw [d1]; simp
     obtain ⟨wo, rfl⟩ : ∃ wo : World, wo = w2 := ⟨_, rfl⟩
     go_loopw [9, 10] (fun gv vv wr => ∃ (v : Nat) (q : Bool), v ≤ p ∧ gv = .bool q ∧ vv = .int .i64 v ∧ RelAt wr w.heap.size n l ∧ Hid (Below w.heap.size w wr) ∧ Hid (q = (R i u && R j u && allT R i j u v))) (fun _ vv _ => p - (intOf vv).toNat)
     case atStart => exact ⟨0, false, by omega, rfl, rfl, r2, HB2, HG⟩
     case round =>
      clear r2 HB2 HG
      obtain ⟨v, q, hv, rfl, rfl, rr, HB, HG⟩ := hrel
      go_wp2_with (refine wpList_loadRel rfl _ rfl w.heap.size rfl n l hl rr ?_)
      refine (HPT.out _).mono ?_
      rintro e v1 ⟨rfl, hb⟩
      have k1 := rr.below hb rr.lt
      have HK1 := zh (HB.out.trans (hb.mono HB.out.size)); clear hb rr HB
      by_cases hvp : v < p
      ·have HNX := zh (allT_next R i j u v)
       go_wp2_with (refine wpList_loadRel (by rfl) _ rfl w.heap.size rfl n l hl k1 ?_)
       refine (HHAS.out i (v : Int) _).mono ?_
       rintro e v2 ⟨rfl, hb⟩
       have k2 := k1.below hb k1.lt
       have HK2 := zh (HK1.out.trans (hb.mono HK1.out.size)); clear hb
       clear k1 HK1
       cases c1 : R i (v : Int) with
       | false =>
         have HG2 : Hid (q = (R i u && R j u && allT R i j u (v + 1))) := by show _ = _; rw [HNX.out, c1, HG.out]; simp
         clear c1
         go_wp2_with fail
         go_roundw
         case rel => exact ⟨v + 1, q, by omega, rfl, by go_num, k2, HK2, HG2⟩
         case measure => simp [intOf]; omega
       | true =>
         have C1 := zh c1; clear c1
         go_wp2_with (refine wpList_loadRel (by rfl) _ rfl w.heap.size rfl n l hl k2 ?_)
         refine (HHAS.out j (v : Int) _).mono ?_
         rintro e v3 ⟨rfl, hb⟩
         have k3 := k2.below hb k2.lt
         have HK3 := zh (HK2.out.trans (hb.mono HK2.out.size)); clear hb
         clear k2 HK2
         cases c2 : R j (v : Int) with
         | false =>
           have HG2 : Hid (q = (R i u && R j u && allT R i j u (v + 1))) := by show _ = _; rw [HNX.out, c2, HG.out]; simp
           clear c2
           go_wp2_with fail
           go_roundw
           case rel => exact ⟨v + 1, q, by omega, rfl, by go_num, k3, HK3, HG2⟩
           case measure => simp [intOf]; omega
         | true =>
           have C2 := zh c2; clear c2
           go_wp2_with (refine wpList_loadRel (by rfl) _ rfl w.heap.size rfl n l hl k3 ?_)
           refine (HHAS.out u (v : Int) _).mono ?_
           rintro e v4 ⟨rfl, hb⟩
           have k4 := k3.below hb k3.lt
           have HK4 := zh (HK3.out.trans (hb.mono HK3.out.size)); clear hb
           clear k3 HK3
           cases c3 : R u (v : Int) with
           | false =>
             have HG2 : Hid (false = (R i u && R j u && allT R i j u (v + 1))) := by show _ = _; rw [HNX.out, C1.out, C2.out, c3]; simp
             clear c3
             go_wp2_with fail
             go_roundw
             case rel => exact ⟨v + 1, false, by omega, rfl, by go_num, k4, HK4, HG2⟩
             case measure => simp [intOf]; omega
           | true =>
             have HG2 : Hid (q = (R i u && R j u && allT R i j u (v + 1))) := by show _ = _; rw [HNX.out, c3, HG.out]; simp
             clear c3
             go_wp2_with fail
             go_roundw
             case rel => exact ⟨v + 1, q, by omega, rfl, by go_num, k4, HK4, HG2⟩
             case measure => simp [intOf]; omega
      ·have e : v = p := by omega
       subst e
       cases q with
       | false =>
         have HA2 : Hid (∀ a, a < u + 1 → T a = false) := fun a ha => by
          by_cases h : a < u
          ·exact HA.out a h
          ·obtain rfl : a = u := by omega
           rw [HTT.out]; exact HG.out.symm
         go_wp2_with fail
         go_roundw
         case rel => exact ⟨u + 1, by omega, by go_num, k1, HK1, HA2⟩
         case measure => simp [intOf]; omega
       | true =>
         have HR := zh (HHIT.out u hlt ((HTT.out u).trans HG.out.symm) HA.out)
         go_wp2_with fail
         go_ret2
         exact ⟨congrArg Ending.returned HR.out.symm, HK1.out⟩
   | true =>
     have D1 := zh d1; clear d1
     go_wp2_with (refine wpList_loadRel (by rfl) _ rfl w.heap.size rfl n l hl r2 ?_)
     refine (HHAS.out j (u : Int) _).mono ?_
     rintro e w3 ⟨rfl, hb⟩
     have r3 := r2.below hb r2.lt
     have HB3 := zh (HB2.out.trans (hb.mono HB2.out.size)); clear hb
     clear r2 HB2
     obtain ⟨q0, d2⟩ : ∃ q0, R j (u : Int) = q0 := ⟨_, rfl⟩
     have D2 := zh d2; rw [d2]; clear d2
     go_wp2_with fail
     have HG : Hid (q0 = (R i u && R j u && allT R i j u 0)) := by show _ = _; rw [D1.out, D2.out]; simp [allT]
     obtain ⟨wo, rfl⟩ : ∃ wo : World, wo = w3 := ⟨_, rfl⟩
     go_loopw [9, 10] (fun gv vv wr => ∃ (v : Nat) (q : Bool), v ≤ p ∧ gv = .bool q ∧ vv = .int .i64 v ∧ RelAt wr w.heap.size n l ∧ Hid (Below w.heap.size w wr) ∧ Hid (q = (R i u && R j u && allT R i j u v))) (fun _ vv _ => p - (intOf vv).toNat)
     case atStart => exact ⟨0, q0, by omega, rfl, rfl, r3, HB3, HG⟩
     case round =>
      clear r3 HB3 HG
      obtain ⟨v, q, hv, rfl, rfl, rr, HB, HG⟩ := hrel
      go_wp2_with (refine wpList_loadRel rfl _ rfl w.heap.size rfl n l hl rr ?_)
      refine (HPT.out _).mono ?_
      rintro e v1 ⟨rfl, hb⟩
      have k1 := rr.below hb rr.lt
      have HK1 := zh (HB.out.trans (hb.mono HB.out.size)); clear hb rr HB
      by_cases hvp : v < p
      ·have HNX := zh (allT_next R i j u v)
       go_wp2_with (refine wpList_loadRel (by rfl) _ rfl w.heap.size rfl n l hl k1 ?_)
       refine (HHAS.out i (v : Int) _).mono ?_
       rintro e v2 ⟨rfl, hb⟩
       have k2 := k1.below hb k1.lt
       have HK2 := zh (HK1.out.trans (hb.mono HK1.out.size)); clear hb
       clear k1 HK1
       cases c1 : R i (v : Int) with
       | false =>
         have HG2 : Hid (q = (R i u && R j u && allT R i j u (v + 1))) := by show _ = _; rw [HNX.out, c1, HG.out]; simp
         clear c1
         go_wp2_with fail
         go_roundw
         case rel => exact ⟨v + 1, q, by omega, rfl, by go_num, k2, HK2, HG2⟩
         case measure => simp [intOf]; omega
       | true =>
         have C1 := zh c1; clear c1
         go_wp2_with (refine wpList_loadRel (by rfl) _ rfl w.heap.size rfl n l hl k2 ?_)
         refine (HHAS.out j (v : Int) _).mono ?_
         rintro e v3 ⟨rfl, hb⟩
         have k3 := k2.below hb k2.lt
         have HK3 := zh (HK2.out.trans (hb.mono HK2.out.size)); clear hb
         clear k2 HK2
         cases c2 : R j (v : Int) with
         | false =>
           have HG2 : Hid (q = (R i u && R j u && allT R i j u (v + 1))) := by show _ = _; rw [HNX.out, c2, HG.out]; simp
           clear c2
           go_wp2_with fail
           go_roundw
           case rel => exact ⟨v + 1, q, by omega, rfl, by go_num, k3, HK3, HG2⟩
           case measure => simp [intOf]; omega
         | true =>
           have C2 := zh c2; clear c2
           go_wp2_with (refine wpList_loadRel (by rfl) _ rfl w.heap.size rfl n l hl k3 ?_)
           refine (HHAS.out u (v : Int) _).mono ?_
           rintro e v4 ⟨rfl, hb⟩
           have k4 := k3.below hb k3.lt
           have HK4 := zh (HK3.out.trans (hb.mono HK3.out.size)); clear hb
           clear k3 HK3
           cases c3 : R u (v : Int) with
           | false =>
             have HG2 : Hid (false = (R i u && R j u && allT R i j u (v + 1))) := by show _ = _; rw [HNX.out, C1.out, C2.out, c3]; simp
             clear c3
             go_wp2_with fail
             go_roundw
             case rel => exact ⟨v + 1, false, by omega, rfl, by go_num, k4, HK4, HG2⟩
             case measure => simp [intOf]; omega
           | true =>
             have HG2 : Hid (q = (R i u && R j u && allT R i j u (v + 1))) := by show _ = _; rw [HNX.out, c3, HG.out]; simp
             clear c3
             go_wp2_with fail
             go_roundw
             case rel => exact ⟨v + 1, q, by omega, rfl, by go_num, k4, HK4, HG2⟩
             case measure => simp [intOf]; omega
      ·have e : v = p := by omega
       subst e
       cases q with
       | false =>
         have HA2 : Hid (∀ a, a < u + 1 → T a = false) := fun a ha => by
          by_cases h : a < u
          ·exact HA.out a h
          ·obtain rfl : a = u := by omega
           rw [HTT.out]; exact HG.out.symm
         go_wp2_with fail
         go_roundw
         case rel => exact ⟨u + 1, by omega, by go_num, k1, HK1, HA2⟩
         case measure => simp [intOf]; omega
       | true =>
         have HR := zh (HHIT.out u hlt ((HTT.out u).trans HG.out.symm) HA.out)
         go_wp2_with fail
         go_ret2
         exact ⟨congrArg Ending.returned HR.out.symm, HK1.out⟩
  ·have e : u = p := by omega
   subst e
   have HR := zh (HNO.out HA.out)
   go_wp2_with fail
   go_ret2
   exact ⟨congrArg Ending.returned HR.out.symm, HB1.out⟩
end
section
open Go.RowKit RM
theorem qlattice_any (n : Int) (l : List Nat) (hl : RW l) (w : World) :
 Calls Tryz.prog 62 #[.agg (rv n l)] w fun e w' => e = .returned (.bool (latB n l)) ∧ Below w.heap.size w w' := by
 have hr1 := RelAt.new w n l
 have hc0 := hr1.cell0
 have hb : Below w.heap.size w (w.alloc (.cells (rv n l) 95)) := (zB _ _).alloc (zL _) _
 have HB := zh hb; clear hb
 by_cases h1 : n < 1
 ·rw [latB_low h1]
  go_enter Tryz.func62, Tryz.ntmps62
  go_wp2_with fail
  go_ret
  exact ⟨rfl, HB.out⟩
 ·by_cases h2 : 64 < n
  ·rw [latB_high h2]
   have h3 : 1 ≤ n := by omega
   go_enter Tryz.func62, Tryz.ntmps62
   go_wp2_with fail
   go_ret
   exact ⟨rfl, HB.out⟩
  ·have h3 : 1 ≤ n := by omega
   have h4 : n ≤ 64 := by omega
   have hp : ((pts n : Nat) : Int) = n := pts_in (by omega) h4
   have HO : Hid (∀ w, Calls Tryz.prog 126 #[.agg (rv n l)] w fun e w' => e = .returned (.bool (ordR n l)) ∧ Below w.heap.size w w') := qorder_any n l hl
   cases hord : ordR n l with
   | false =>
     rw [latB_ord hord]
     rw [hord] at HO
     clear hp
     go_enter Tryz.func62, Tryz.ntmps62
     go_wp2_with (refine wpList_loadRel (by rfl) _ rfl w.heap.size rfl n l hl hr1 ?_)
     refine (HO.out _).mono ?_
     rintro e w1 ⟨rfl, hb1⟩
     have HB1 := zh (HB.out.trans (hb1.mono (by simp))); clear hb1
     go_wp2_with fail
     go_ret
     exact ⟨rfl, HB1.out⟩
   | true =>
     rw [hord] at HO
     have HYES : Hid ((∀ a, a < pts n → ∀ b, b < a → latT n l a b = true) → latB n l = true) := fun h => latB_yes h3 h4 hord h
     have HNO : Hid (∀ a b, a < pts n → b < a → latT n l a b = false → latB n l = false) := fun a b ha hb h => latB_pair ha hb h
     have HBU : Hid (∀ (i j : Nat) w, Calls Tryz.prog 127 #[.agg (rv n l), .int .i64 (i : Int), .int .i64 (j : Int)] w fun e w' => e = .returned (.tuple #[.int .i64 (((joinR n l i j).getD 0 : Nat) : Int), .bool (joinR n l i j).isSome]) ∧ Below w.heap.size w w') := fun i j w => qjoin_any n l hl i j w
     have HBD : Hid (∀ (i j : Nat) w, Calls Tryz.prog 128 #[.agg (rv n l), .int .i64 (i : Int), .int .i64 (j : Int)] w fun e w' => e = .returned (.tuple #[.int .i64 (((meetR n l i j).getD 0 : Nat) : Int), .bool (meetR n l i j).isSome]) ∧ Below w.heap.size w w') := fun i j w => qmeet_any n l hl i j w
     have HLT : Hid (∀ i j : Nat, latT n l i j = ((joinR n l i j).isSome && (meetR n l i j).isSome)) := fun _ _ => rfl
     clear hord
     generalize latB n l = res at *
     generalize latT n l = T at *
     generalize joinR n l = J at *
     generalize meetR n l = M at *
     have hc0' := hc0
     rw [← hp] at hc0 h3 h4
     have HPN := zh hp; clear hp
     generalize pts n = p at *
     go_enter Tryz.func62, Tryz.ntmps62
     go_wp2_with (refine wpList_loadRel (by rfl) _ rfl w.heap.size rfl n l hl hr1 ?_)
     refine (HO.out _).mono ?_
     rintro e w1 ⟨rfl, hb1⟩
     have r1 := hr1.below hb1 hr1.lt
     have HB1 := zh (HB.out.trans (hb1.mono (by simp))); clear hb1 hc0 hr1 HB hc0'
     go_wp2_with fail
     go_loopw [3, 4, 5, 6, 7, 8] (fun iv _ _ _ _ _ wr => ∃ i : Nat, i ≤ p ∧ iv = .int .i64 i ∧ RelAt wr w.heap.size n l ∧ Hid (Below w.heap.size w wr) ∧ Hid (∀ a, a < i → ∀ b, b < a → T a b = true)) (fun iv _ _ _ _ _ _ => p - (intOf iv).toNat)
     case atStart => exact ⟨0, by omega, rfl, r1, HB1, fun a ha => by omega⟩
     case round =>
      clear r1 HB1
      obtain ⟨i, hi, rfl, rr, HB, HA⟩ := hrel
      have hc1 := rr.cell0
      rw [← HPN.out] at hc1
      by_cases hlt : i < p
      ·go_wp2_with fail
       clear hc1
       obtain ⟨wo, rfl⟩ : ∃ wo : World, wo = wr := ⟨_, rfl⟩
       go_loopw [4, 5, 6, 7, 8] (fun jv _ _ _ _ wr => ∃ j : Nat, j ≤ i ∧ jv = .int .i64 j ∧ RelAt wr w.heap.size n l ∧ Hid (Below w.heap.size w wr) ∧ Hid (∀ b, b < j → T i b = true)) (fun jv _ _ _ _ _ => i - (intOf jv).toNat)
       case atStart => exact ⟨0, by omega, rfl, rr, HB, fun b hb => by omega⟩
       case round =>
           clear rr HB
           obtain ⟨j, hj, rfl, rr, HB, HJ⟩ := hrel
           by_cases hji : j < i
           ·have HTT := zh (HLT.out i j)
            have HU := zh (HBU.out i j)
            have HD := zh (HBD.out i j)
            have HN := zh (HNO.out i j hlt hji)
            generalize (J (i : Int) (j : Int)).isSome = b1 at *
            generalize (M (i : Int) (j : Int)).isSome = b2 at *
            generalize (J (i : Int) (j : Int)).getD 0 = v1 at *
            generalize (M (i : Int) (j : Int)).getD 0 = v2 at *
            go_wp2_with (refine wpList_loadRel rfl _ rfl w.heap.size rfl n l hl rr ?_)
            refine (HU.out _).mono ?_
            rintro e w4 ⟨rfl, hb4⟩
            have r4 := rr.below hb4 rr.lt
            have HB4 := zh (HB.out.trans (hb4.mono HB.out.size)); clear hb4 rr HB
            go_wp2_with (refine wpList_loadRel rfl _ rfl w.heap.size rfl n l hl r4 ?_)
            refine (HD.out _).mono ?_
            rintro e w5 ⟨rfl, hb5⟩
            have r5 := r4.below hb5 r4.lt
            have HB5 := zh (HB4.out.trans (hb5.mono HB4.out.size)); clear hb5 r4 HB4
            cases b1 with
            | false =>
              have HR := zh (HN.out HTT.out)
              go_wp2_with fail
              go_ret
              exact ⟨ret_eq (bool_eq HR.out.symm), HB5.out⟩
            | true =>
              cases b2 with
              | false =>
                have HR := zh (HN.out HTT.out)
                go_wp2_with fail
                go_ret
                exact ⟨ret_eq (bool_eq HR.out.symm), HB5.out⟩
              | true =>
                have HJ2 : Hid (∀ b, b < j + 1 → T i b = true) := fun b hb => by
                   by_cases h : b < j
                   ·exact HJ.out b h
                   ·obtain rfl : b = j := by omega
                    exact HTT.out
                go_wp2_with fail
                go_roundw
                case rel => exact ⟨j + 1, by omega, by go_num, r5, HB5, HJ2⟩
                case measure => simp [intOf]; omega
           ·have hjj : j = i := by omega
            subst hjj
            have HA2 : Hid (∀ a, a < j + 1 → ∀ b, b < a → T a b = true) := fun a ha => by
               by_cases h : a < j
               ·exact HA.out a h
               ·obtain rfl : a = j := by omega
                exact HJ.out
            go_wp2_with fail
            go_roundw
            case rel => exact ⟨j + 1, by omega, by go_num, rr, HB, HA2⟩
            case measure => simp [intOf]; omega
      ·have hpi : i = p := by omega
       subst hpi
       have HR := zh (HYES.out HA.out)
       go_wp2_with fail
       go_ret
       exact ⟨ret_eq (bool_eq HR.out.symm), HB.out⟩
end
section
open Go.RowKit
theorem refLeast_any (A : Option Addr) (c : Nat) (l : List (Int × Int)) (w : World) (hl : l.length ≤ 4294967296) (hA : Ls ftC w A l) :
 Calls Tryz.prog 64 #[.slice A l.length c] w fun e w' => e = .returned (.agg (ftv (lstF l))) ∧ Below w.heap.size w w' := by
 have HA := zh hA; clear hA
 have HT : Hid (∀ k, k < l.length → lstF (l.take (k + 1)) = stepF (lstF (l.take k)) (l.getD k (0, 0))) := lstF_take l
 have HE : Hid (lstF (l.take l.length) = lstF l) := by rw [List.take_length]; exact rfl
 generalize hn : l.length = n at *
 have HN := zh hn; clear hn
 go_enter Tryz.func64, Tryz.ntmps64
 go_wp2_with fail
 have z1 : RowAt ((w.alloc (.cells (ftv (0, 0)) 39)).alloc (.cells (ftv (0, 0)) 39)) w.heap.size 39 (ftv (0, 0)) := (RowAt.new w _ _).alloc _
 have p1 : RowAt ((w.alloc (.cells (ftv (0, 0)) 39)).alloc (.cells (ftv (0, 0)) 39)) (w.heap.size + 1) 39 (ftv (lstF (l.take 0))) := by
  have h := RowAt.new (w.alloc (.cells (ftv (0, 0)) 39)) 39 (ftv (0, 0))
  rw [show (w.alloc (.cells (ftv (0, 0)) 39)).heap.size = w.heap.size + 1 by simp] at h
  exact h
 have HB1 : Hid (Below w.heap.size w ((w.alloc (.cells (ftv (0, 0)) 39)).alloc (.cells (ftv (0, 0)) 39))) := ((zB _ w).alloc (zL _) _).alloc (by simp) _
 go_loopw [5, 4] (fun _ kv wr => ∃ k : Nat, k ≤ n ∧ kv = .int .i64 k ∧ RowAt wr w.heap.size 39 (ftv (0, 0)) ∧ RowAt wr (w.heap.size + 1) 39 (ftv (lstF (l.take k))) ∧ Hid (Below w.heap.size w wr)) (fun _ kv _ => n - (intOf kv).toNat)
 case atStart => exact ⟨0, by omega, rfl, z1, p1, HB1⟩
 case round =>
  clear z1 p1 HB1
  obtain ⟨k, hk, rfl, z1, p1, HB1⟩ := hrel
  by_cases hlt : k < n
  ·have HLT := zh hlt
   obtain ⟨b, o, rfl, _, hc⟩ := (HA.out.below HB1.out).at 2 (fun _ => rfl) (by omega) (0, 0) (i := k) (by rw [HN.out]; exact hlt)
   have hr := hc k (by rw [HN.out]; exact hlt)
   have c0 := hr 0 _ rfl
   have c1 := hr 1 _ rfl
   rw [Nat.add_zero] at c0
   have HTK := zh (HT.out k hlt)
   clear hc hr
   have HBx : Hid (Below w.heap.size w (wr.alloc (.cells (ftv (l.getD k (0, 0))) 39))) := zh (HB1.out.alloc HB1.out.size _)
   have Hz := zh (z1.alloc (.cells (ftv (l.getD k (0, 0))) 39))
   have Hp := zh (p1.alloc (.cells (ftv (l.getD k (0, 0))) 39))
   have Hx := zh (RowAt.new wr 39 (ftv (l.getD k (0, 0))))
   clear z1 p1
   generalize l.getD k (0, 0) = f at *
   generalize lstF (l.take k) = m at *
   go_upto_region 6 with fail
   change Code.wp _ _ _ _ (wr.alloc (.cells (ftv f) 39))
   generalize wr.alloc (.cells (ftv f) 39) = wc at *
   generalize hgx : wr.heap.size = gx at *
   clear c0 c1 hgx
   obtain ⟨a0, a1, _, _⟩ := rw2 Hx.out
   obtain ⟨b0, b1, _, _⟩ := rw2 Hp.out
   have hcm := cmpF_neg f m
   have hst : stepF m f = if f.1 = 0 then m else if m.1 = 0 then f else if cmpF f m < 0 then f else m := rfl
   by_cases hf : f.1 = 0
   ·have hs : stepF m f = m := by rw [hst, if_pos hf]
    have qf : (f.1 != 0) = false := by simp [hf]
    clear hcm hst hf
    have HS9 := zh hs
    clear hs
    go_wp2_with fail
    go_roundw
    case rel =>
     refine ⟨k + 1, by have := HLT.out; omega, by go_num, Hz.out, ?_, HBx⟩
     rw [HTK.out, HS9.out]; exact Hp.out
    case measure => have := HLT.out; simp [intOf]; omega
   ·have qf : (f.1 != 0) = true := by simp [hf]
    rw [if_neg hf] at hst
    have HFF := zh hf; clear hf
    by_cases hm : m.1 = 0
    ·have hs : stepF m f = f := by rw [hst, if_pos hm]
     have qm : (m.1 == 0) = true := by simp [hm]
     clear hcm hst hm
     have HS9 := zh hs
     clear hs
     go_upto_region 7 with fail
     clear a0 a1 b0 b1
     go_wp2_with (first
      | (refine wpList_loadS (by rfl) _ _ rfl gx rfl _ _ _ Hx.out Tryz.underlying39 rfl (by kernel_rfl) ?_)
      | (refine wpList_stRow (by rfl) _ _ _ rfl (w.heap.size + 1) (ftv f) rfl rfl _ _ Hp.out (by kernel_rfl) rfl (by simp [ftv, Value.oneCell']) ?_; intro w2 r2 he))
     go_roundw
     case rel =>
      refine ⟨k + 1, by have := HLT.out; omega, by go_num, Hz.out.other he (by omega), ?_, zh (HBx.out.trans (he.below (by omega)))⟩
      rw [HTK.out, HS9.out]; exact r2
     case measure => have := HLT.out; simp [intOf]; omega
    ·have qm : (m.1 == 0) = false := by simp [hm]
     rw [if_neg hm] at hst
     have HMM := zh hm; clear hm
     by_cases h1 : f.1 < m.1
     ·have hs : stepF m f = f := by rw [hst, if_pos (hcm.2 (.inl h1))]
      have q1 : decide (f.1 < m.1) = true := zE h1
      clear hcm hst
      have HS9 := zh hs
      clear hs
      go_upto_region 7 with fail
      clear a0 a1 b0 b1
      go_wp2_with (first
       | (refine wpList_loadS (by rfl) _ _ rfl gx rfl _ _ _ Hx.out Tryz.underlying39 rfl (by kernel_rfl) ?_)
       | (refine wpList_stRow (by rfl) _ _ _ rfl (w.heap.size + 1) (ftv f) rfl rfl _ _ Hp.out (by kernel_rfl) rfl (by simp [ftv, Value.oneCell']) ?_; intro w2 r2 he))
      go_roundw
      case rel =>
       refine ⟨k + 1, by have := HLT.out; omega, by go_num, Hz.out.other he (by omega), ?_, zh (HBx.out.trans (he.below (by omega)))⟩
       rw [HTK.out, HS9.out]; exact r2
      case measure => have := HLT.out; simp [intOf]; omega
     ·have q1 : decide (f.1 < m.1) = false := zF h1
      by_cases h2 : f.1 = m.1
      ·have q2 : (f.1 == m.1) = true := by simp [h2]
       by_cases h3 : f.2 < m.2
       ·have hs : stepF m f = f := by rw [hst, if_pos (hcm.2 (.inr ⟨h2, h3⟩))]
        have q3 : decide (f.2 < m.2) = true := zE h3
        have HH2 := zh h2
        clear hcm hst h2
        have HS9 := zh hs
        clear hs
        go_upto_region 7 with fail
        clear a0 a1 b0 b1
        go_wp2_with (first
             | (refine wpList_loadS (by rfl) _ _ rfl gx rfl _ _ _ Hx.out Tryz.underlying39 rfl (by kernel_rfl) ?_)
             | (refine wpList_stRow (by rfl) _ _ _ rfl (w.heap.size + 1) (ftv f) rfl rfl _ _ Hp.out (by kernel_rfl) rfl (by simp [ftv, Value.oneCell']) ?_; intro w2 r2 he))
        go_roundw
        case rel =>
             refine ⟨k + 1, by have := HLT.out; omega, by go_num, Hz.out.other he (by omega), ?_, zh (HBx.out.trans (he.below (by omega)))⟩
             rw [HTK.out, HS9.out]; exact r2
        case measure => have := HLT.out; simp [intOf]; omega
       ·have hs : stepF m f = m := by rw [hst, if_neg (fun h => by rcases hcm.1 h with h | h <;> omega)]
        have q3 : decide (f.2 < m.2) = false := zF h3
        have HH2 := zh h2
        clear hcm hst h2
        have HS9 := zh hs
        clear hs
        go_wp2_with fail
        go_roundw
        case rel =>
             refine ⟨k + 1, by have := HLT.out; omega, by go_num, Hz.out, ?_, HBx⟩
             rw [HTK.out, HS9.out]; exact Hp.out
        case measure => have := HLT.out; simp [intOf]; omega
      ·have hs : stepF m f = m := by rw [hst, if_neg (fun h => by rcases hcm.1 h with h | h <;> omega)]
       have q2 : (f.1 == m.1) = false := by simp [h2]
       clear hcm hst
       have HS9 := zh hs
       clear hs
       go_wp2_with fail
       go_roundw
       case rel =>
            refine ⟨k + 1, by have := HLT.out; omega, by go_num, Hz.out, ?_, HBx⟩
            rw [HTK.out, HS9.out]; exact Hp.out
       case measure => have := HLT.out; simp [intOf]; omega
  ·obtain rfl : k = n := by omega
   rw [HE.out] at p1
   go_wp2_with (first
        | (refine wpList_loadS (by rfl) _ _ rfl (w.heap.size + 1) rfl _ _ _ p1 Tryz.underlying39 rfl (by kernel_rfl) ?_)
        | (refine wpList_stRow (by rfl) _ _ _ rfl w.heap.size (ftv (lstF l)) rfl rfl _ _ z1 (by kernel_rfl) rfl (by simp [ftv, Value.oneCell']) ?_; intro w2 r2 he))
   exact bodyPost_ret (retRow rfl _ _ w.heap.size _ _ (0, 0) _ rfl r2 Tryz.underlying39 rfl (by kernel_rfl)) rfl ⟨rfl, HB1.out.trans (he.below (by omega))⟩
end
section
open Go.RowKit RM
theorem run_sv1 (t : Bool) (A : Option Addr) (n c : Nat) (w : World) : (Instr.field 45 (.agg (sv t A n c)) 1).run Tryz.prog w = .ok (.slice A n c) w := by kernel_rfl
theorem ordF_len (x : Cd) : (ordF x).length ≤ 1 := by unfold ordF; split <;> simp
theorem rnameF_len (s : Sc) (x : Cd) : (rnameF s x).length ≤ 1 := by
 unfold rnameF
 repeat' split
 all_goals simp
theorem qfault_any (s : Sc) (x : Cd) (w : World) (h : ScOk w s) (hx : CdOk w w.heap.size x) (hsum : x.op = 3 → (flat (dshF s x.ws)).length ≤ 65536) :
 Calls Tryz.prog 15 #[.agg (scv s), .agg (cdv x)] w fun e w' => e = .returned (.agg (ftv (rfaultF s x))) ∧ Below w.heap.size w w' := by
 obtain ⟨r0, q0, z0, hb⟩ := (three_rows w (scv s) (cdv x) (ftv (0, 0)) 25 34 39)
 refine cHid fun Q' hQ => ?_
 have HQ := zh hQ; clear hQ
 go_enter Tryz.func15, Tryz.ntmps15
 go_upto_region 1 with fail
 change Code.wp _ _ _ _ (((w.alloc (.cells (scv s) 25)).alloc (.cells (cdv x) 34)).alloc (.cells (ftv (0, 0)) 39))
 generalize ((w.alloc (.cells (scv s) 25)).alloc (.cells (cdv x) 34)).alloc (.cells (ftv (0, 0)) 39) = w1 at *
 have hz := z0.lt
 have hws : x.ws.length ≤ 65536 := hx.wfew
 have hps : x.ps.length ≤ 65536 := hx.pfew
 have hlf : s.ls.length ≤ 65536 := h.lfew
 have hvf : s.vs.length ≤ 65536 := h.vfew
 have HOKf : Hid (∀ W, Below w.heap.size w W → ScOk W s) := zh fun W hW => h.below hW
 have HXf : Hid (∀ W, Below w.heap.size w W → CdOk W w.heap.size x) := zh fun W hW => hx.below hW
 have HCI := zh (cdinfo hx)
 have HSUM := zh hsum
 have HRSf : Hid (∀ W, Below w1.heap.size w1 W → RowAt W w.heap.size 25 (scv s)) := zh fun W hW => r0.below hW r0.lt
 have HRCf : Hid (∀ W, Below w1.heap.size w1 W → RowAt W (w.heap.size + 1) 34 (cdv x)) := zh fun W hW => q0.below hW q0.lt
 have HRZf : Hid (∀ W, Below w1.heap.size w1 W → RowAt W (w.heap.size + 1 + 1) 39 (ftv (0, 0))) := zh fun W hW => z0.below hW z0.lt
 have HB := zh hb
 have HRF : Hid (rfaultF s x = if 1 ≤ x.op ∧ x.op ≤ 7 then lstF (rnmK s x x.ws.length ++ pairsF x ++ rnameF s x ++ ordF x ++ rlimF s x) else (0, 0)) := zh rfl
 have HRS := zh r0
 have HRC := zh q0
 have HRZ := zh z0
 have d0 := (cd_cells q0).1
 clear h hx hsum r0 q0 z0 hb
 by_cases hop : 1 ≤ x.op ∧ x.op ≤ 7
 ·have hrf := HRF.out
  rw [if_pos hop] at hrf
  rw [hrf] at HQ
  clear HRF hrf
  obtain ⟨hop1, hop7⟩ := hop
  have HNM := zh (qnamed_any s x w1 (HOKf.out _ HB.out) ((HXf.out _ HB.out).mono HB.out.size))
  have HLL0 : Hid ((rnmK s x x.ws.length ++ pairsF x).length ≤ 196608) := zh (by have h1 := rnmK_len s x x.ws.length; have h2 := pairsK_len x x.ps.length; rw [zA7]; show (rnmK s x x.ws.length).length + (pairsK x x.ps.length).length ≤ _; omega)
  have HL1 := zh (rnameF_len s x)
  have HL2 := zh (ordF_len x)
  have HNMF : Hid (rnameF s x = if dVar x.op = livB s x.n.1 then (if dVar x.op = true then (if 0 ≤ idx s.lnms x.n.1 then [] else [(4, x.n.2)]) else []) else [(3, x.n.2)]) := zh rfl
  have HORD : Hid (ordF x = if (decide (x.op = 5) && (decide (x.ws.length ≤ 64) && !latB ((pts (x.ws.length : Nat) : Nat) : Int) (relF x))) = true then [(5, x.pp)] else []) := zh rfl
  have HLIM : Hid (rlimF s x = if rlimB s x = true then [(7, x.p)] else []) := zh rfl
  have HLB : Hid (rlimB s x = ((!dVar x.op && (decide (rmost x.op < rnum s x) || decide (16 ≤ s.ls.length))) || (dVar x.op && decide (64 < s.vs.length + rnum s x)))) := zh rfl
  generalize rnmK s x x.ws.length ++ pairsF x = L0 at *
  have hwb : w.heap.size ≤ w1.heap.size := by omega
  generalize hgz : w.heap.size + 1 + 1 = gz at *
  have HGZ := zh hgz; clear hgz
  go_upto_region 4 with (first
   | (refine wpList_loadS (by rfl) 25 _ rfl w.heap.size rfl _ _ _ HRS.out Tryz.underlying25 rfl (by kernel_rfl) ?_)
   | (refine wpList_loadS (by rfl) 34 _ rfl (w.heap.size + 1) rfl _ _ _ HRC.out Tryz.underlying34 rfl HCI.out ?_)
   | (go_at_call 59; refine HNM.out.mono ?_; rintro e w2 ⟨Xo, d, rfl, hown, hb2⟩; have HO := zh hown; have HW := zh hb2; clear hown hb2))
  clear d0 HRS HRC HRZ HNM
  generalize hB : w1.heap.size = B at *
  have HRC := zh (HRCf.out _ HW.out)
  have d0 := (cd_cells HRC.out).1
  have d4 := (cd_cells HRC.out).2.2.2.2.1
  go_upto_region 5 with fail
  clear d4
  go_cut [7] from 24 to 31 (fun v wx => v = .bool (dVar x.op) ∧ wx = w2)
  case first =>
   have HDV : Hid (dVar x.op = (decide (x.op = 6) || decide (x.op = 7))) := zh (by unfold dVar; rw [Bool.eq_iff_iff]; simp)
   clear hop1 hop7
   by_cases h6 : x.op = 6
   ·have hd := HDV.out
    rw [zE h6, Bool.true_or] at hd
    rw [h6] at d0
    have H6 := zh h6; clear h6
    generalize dVar x.op = dv at *
    subst hd
    go_wp2_with fail
    go_meet
    case rel => exact ⟨rfl, rfl⟩
   ·have hd := HDV.out
    rw [zF h6, Bool.false_or] at hd
    have q6 : (x.op == 6) = false := by simp [h6]
    have H6 := zh h6; clear h6
    by_cases h7 : x.op = 7
    ·rw [zE h7] at hd
     rw [h7] at d0 q6
     have H7 := zh h7; clear h7
     generalize dVar x.op = dv at *
     subst hd
     go_wp2_with fail
     go_meet
     case rel => exact ⟨rfl, rfl⟩
    ·rw [zF h7] at hd
     have q7 : (x.op == 7) = false := by simp [h7]
     have H7 := zh h7; clear h7
     generalize dVar x.op = dv at *
     subst hd
     go_wp2_with fail
     go_meet
     case rel => exact ⟨rfl, rfl⟩
  case rest =>
   obtain ⟨rfl, hwc⟩ := hcut
   obtain rfl := hwc.symm
   clear d0 hwc
   generalize hdv : dVar x.op = dv at *
   have HDVE := zh hdv; clear hdv
   -- the declaration's name
   generalize hL1 : L0 ++ rnameF s x = L1 at *
   have HL1E := zh hL1; clear hL1
   have HRS := zh (HRSf.out _ HW.out)
   have d2 := (cd_cells HRC.out).2.2.1
   have HWS : Hid (Below w.heap.size w w2) := zh (HB.out.trans (HW.out.mono (by omega)))
   have HLV := zh (qlives_any s x.n.1 w2 (HOKf.out _ HWS.out))
   go_upto_if 38 with (first
        | (refine wpList_loadS (by rfl) 25 _ rfl w.heap.size rfl _ _ _ HRS.out Tryz.underlying25 rfl (by kernel_rfl) ?_)
        | (go_at_call 60; refine HLV.out.mono ?_; rintro e w3 ⟨rfl, hb3⟩; have HS3 := zh hb3; clear hb3))
   clear d2
   have HO := zh (own_below HO.out HS3.out (zL _))
   have HW := zh (HW.out.trans ((HS3.out).mono (by have := HW.out.size; omega)))
   have HRS := zh (HRSf.out _ HW.out)
   have HRC := zh (HRCf.out _ HW.out)
   have HWS : Hid (Below w.heap.size w w3) := zh (HB.out.trans (HW.out.mono (by omega)))
   go_cut [5] from 39 to 61 (fun ov wx => ∃ (Xo : Option Addr) (d : Nat), ov = .slice Xo L1.length d ∧ Hid (wx.ownsRow B 39 2 (.slice Xo L1.length d) L1.length (L1.flatMap ftC)) ∧ Hid (Below B w1 wx))
   case first =>
        have HLL : Hid (L0.length ≤ 196608) := HLL0
        have d2 := (cd_cells HRC.out).2.2.1
        have d3 := (cd_cells HRC.out).2.2.2.1
        have hnm := HNMF.out
        have HBN : Hid ((!(false == true)) = true ∧ (!(true == false)) = true ∧ (!(true == true)) = false ∧ (!(false == false)) = false) := zh ⟨rfl, rfl, rfl, rfl⟩
        generalize hlv : livB s x.n.1 = lv at *
        clear hlv
        cases dv with
        | false =>
          cases lv with
          | false =>
            simp only [HBN.out]
            simp only [if_true, Bool.false_eq_true, if_false] at hnm
            have HNS : Hid (L1 = L0) := zh (by rw [← HL1E.out, hnm, List.append_nil])
            clear hnm
            go_wp2_with fail
            have hsl : (Value.slice Xo (L0).length d) = .slice Xo (L1).length d := by rw [HNS.out]
            go_meet
            case rel => exact ⟨Xo, d, hsl, zh (by rw [HNS.out]; exact HO.out), HW⟩
          | true =>
            simp only [HBN.out]
            simp only [Bool.false_eq_true, if_false] at hnm
            have HNS : Hid (L1 = L0 ++ [(3, x.n.2)]) := zh (by rw [← HL1E.out, hnm])
            clear hnm
            go_wp2_with (at_builtin; refine wpList_moreS _ rfl _ _ 84 rfl 39 (.agg #[.int .i64 0, .int .i64 0]) 2 16 Tryz.underlying84 infoFtS rfl (by decide) B Xo (L0).length d ((L0).flatMap ftC) rfl (own_below HO.out ((zB _ _).alloc (zL _) _) (zL _)) w3.heap.size [.int .i64 3, .int .i64 (x.n.2)] rfl rfl (two_cells _ _ _ _) (by intro u hu; simp at hu; rcases hu with rfl | rfl <;> rfl) (by simp only [maxLen]; have := HLL.out; omega) (by have := HLL.out; omega) (by have := HW.out.size; simp; omega) ?_)
            intro X6 d6 w6 hown6 hb6 hg6 hat6
            have HO6 : Hid (w6.ownsRow B 39 2 (.slice X6 (L1).length d6) (L1).length ((L1).flatMap ftC)) := zh (by rw [HNS.out, zA7, List.flatMap_append]; exact hown6)
            have HB6 : Hid (Below B w1 w6) := zh (HW.out.trans (((zB _ _).alloc (by have := HW.out.size; omega) _).trans hb6))
            have hsl : (Value.slice X6 ((L0).length + 1) d6) = .slice X6 (L1).length d6 := by rw [HNS.out, zA7]; rfl
            clear hown6 hb6 hg6 hat6
            go_wp2_with fail
            go_meet
            case rel => exact ⟨X6, d6, hsl, HO6, HB6⟩
        | true =>
          cases lv with
          | false =>
            simp only [HBN.out]
            simp only [Bool.true_eq_false, if_false] at hnm
            have HNS : Hid (L1 = L0 ++ [(3, x.n.2)]) := zh (by rw [← HL1E.out, hnm])
            clear hnm
            go_wp2_with (at_builtin; refine wpList_moreS _ rfl _ _ 84 rfl 39 (.agg #[.int .i64 0, .int .i64 0]) 2 16 Tryz.underlying84 infoFtS rfl (by decide) B Xo (L0).length d ((L0).flatMap ftC) rfl (own_below HO.out ((zB _ _).alloc (zL _) _) (zL _)) w3.heap.size [.int .i64 3, .int .i64 (x.n.2)] rfl rfl (two_cells _ _ _ _) (by intro u hu; simp at hu; rcases hu with rfl | rfl <;> rfl) (by simp only [maxLen]; have := HLL.out; omega) (by have := HLL.out; omega) (by have := HW.out.size; simp; omega) ?_)
            intro X6 d6 w6 hown6 hb6 hg6 hat6
            have HO6 : Hid (w6.ownsRow B 39 2 (.slice X6 (L1).length d6) (L1).length ((L1).flatMap ftC)) := zh (by rw [HNS.out, zA7, List.flatMap_append]; exact hown6)
            have HB6 : Hid (Below B w1 w6) := zh (HW.out.trans (((zB _ _).alloc (by have := HW.out.size; omega) _).trans hb6))
            have hsl : (Value.slice X6 ((L0).length + 1) d6) = .slice X6 (L1).length d6 := by rw [HNS.out, zA7]; rfl
            clear hown6 hb6 hg6 hat6
            go_wp2_with fail
            go_meet
            case rel => exact ⟨X6, d6, hsl, HO6, HB6⟩
          | true =>
            simp only [HBN.out]
            simp only [if_true] at hnm
            have HLA := zh (refLat_any s x.n.1 w3 (HOKf.out _ HWS.out))
            by_cases hk : 0 ≤ idx s.lnms x.n.1
            ·rw [if_pos hk] at hnm
             have HNS : Hid (L1 = L0) := zh (by rw [← HL1E.out, hnm, List.append_nil])
             clear hnm
             generalize idx s.lnms x.n.1 = q at *
             go_wp2_with (first
              | (refine wpList_loadS (by first | rfl | kernel_rfl) 25 _ rfl w.heap.size rfl _ _ _ HRS.out Tryz.underlying25 rfl (by kernel_rfl) ?_)
              | (go_at_call 61; refine HLA.out.mono ?_; rintro e w4 ⟨rfl, hb4⟩; have HS4 := zh hb4; clear hb4))
             have HO := zh (own_below HO.out HS4.out (zL _))
             have HW := zh (HW.out.trans ((HS4.out).mono (by have := HW.out.size; omega)))
             have HRS := zh (HRSf.out _ HW.out)
             have HRC := zh (HRCf.out _ HW.out)
             have hsl : (Value.slice Xo (L0).length d) = .slice Xo (L1).length d := by rw [HNS.out]
             go_meet
             case rel => exact ⟨Xo, d, hsl, zh (by rw [HNS.out]; exact HO.out), HW⟩
            ·rw [if_neg hk] at hnm
             have HNS : Hid (L1 = L0 ++ [(4, x.n.2)]) := zh (by rw [← HL1E.out, hnm])
             have hk3 : idx s.lnms x.n.1 < 0 := by omega
             clear hnm hk
             generalize idx s.lnms x.n.1 = q at *
             go_upto_region 9 with (first
              | (refine wpList_loadS (by first | rfl | kernel_rfl) 25 _ rfl w.heap.size rfl _ _ _ HRS.out Tryz.underlying25 rfl (by kernel_rfl) ?_)
              | (go_at_call 61; refine HLA.out.mono ?_; rintro e w4 ⟨rfl, hb4⟩; have HS4 := zh hb4; clear hb4))
             clear d2 d3
             have HO := zh (own_below HO.out HS4.out (zL _))
             have HW := zh (HW.out.trans ((HS4.out).mono (by have := HW.out.size; omega)))
             have HRS := zh (HRSf.out _ HW.out)
             have HRC := zh (HRCf.out _ HW.out)
             have d3 := (cd_cells HRC.out).2.2.2.1
             go_wp2_with (at_builtin; refine wpList_moreS _ rfl _ _ 84 rfl 39 (.agg #[.int .i64 0, .int .i64 0]) 2 16 Tryz.underlying84 infoFtS rfl (by decide) B Xo (L0).length d ((L0).flatMap ftC) rfl (own_below HO.out ((zB _ _).alloc (zL _) _) (zL _)) w4.heap.size [.int .i64 4, .int .i64 (x.n.2)] rfl rfl (two_cells _ _ _ _) (by intro u hu; simp at hu; rcases hu with rfl | rfl <;> rfl) (by simp only [maxLen]; have := HLL.out; omega) (by have := HLL.out; omega) (by have := HW.out.size; simp; omega) ?_)
             intro X6 d6 w6 hown6 hb6 hg6 hat6
             have HO6 : Hid (w6.ownsRow B 39 2 (.slice X6 (L1).length d6) (L1).length ((L1).flatMap ftC)) := zh (by rw [HNS.out, zA7, List.flatMap_append]; exact hown6)
             have HB6 : Hid (Below B w1 w6) := zh (HW.out.trans (((zB _ _).alloc (by have := HW.out.size; omega) _).trans hb6))
             have hsl : (Value.slice X6 ((L0).length + 1) d6) = .slice X6 (L1).length d6 := by rw [HNS.out, zA7]; rfl
             clear hown6 hb6 hg6 hat6
             go_wp2_with fail
             go_meet
             case rel => exact ⟨X6, d6, hsl, HO6, HB6⟩
   case rest =>
        obtain ⟨Xo, d, rfl, HO, HW⟩ := hcut
        generalize (!(dv == livB s x.n.1)) = nb38
        have HRC := zh (HRCf.out _ HW.out)
        have d0 := (cd_cells HRC.out).1
        have HWS : Hid (Below w.heap.size w wc) := zh (HB.out.trans (HW.out.mono (by omega)))
        obtain ⟨ob, hob⟩ : ∃ ob : Bool, ob = (decide (x.op = 5) && (decide (x.ws.length ≤ 64) && !latB ((pts (x.ws.length : Nat) : Nat) : Int) (relF x))) := ⟨_, rfl⟩
        rw [← hob] at HORD
        have HOBd := zh hob; clear hob
        generalize hL2 : L1 ++ ordF x = L2 at *
        have HL2E := zh hL2; clear hL2
        have HLL1 : Hid (L1.length ≤ 196609) := zh (by rw [← HL1E.out, zA7]; have := HLL0.out; have := HL1.out; omega)
        have HLL2 : Hid (L2.length ≤ 196610) := zh (by rw [← HL2E.out, zA7]; have := HLL1.out; have := HL2.out; omega)
        go_upto_region 10 with fail
        go_cut [74] from 62 to 74 (fun cv wx => cv = .bool ob ∧ Hid (Below wc.heap.size wc wx))
        case first =>
         by_cases h5 : x.op = 5
         ·have q5 : (x.op == 5) = true := by simp [h5]
          have hob := HOBd.out
          rw [zE h5, Bool.true_and] at hob
          have H5 := zh h5; clear h5
          by_cases h64 : x.ws.length ≤ 64
          ·rw [zE h64, Bool.true_and] at hob
           have HRLn := zh (qrelated_any x wc ((HXf.out _ HWS.out).mono HWS.out.size))
           have HLT9 := zh fun W => qlattice_any ((pts (x.ws.length : Nat) : Nat) : Int) (relF x) (relF_rw x) W
           generalize latB ((pts (x.ws.length : Nat) : Nat) : Int) (relF x) = lb at *
           generalize rv ((pts (x.ws.length : Nat) : Nat) : Int) (relF x) = rvv at *
           have HOX := zh hob; clear hob
           generalize x.ws.length = wn at *
           have h64i : (wn : Int) ≤ 64 := by omega
           have q64 : decide ((wn : Int) ≤ 64) = true := zE h64i
           go_wp2_with (first
             | (refine wpList_loadS (by first | rfl | kernel_rfl | (simp only [Region.wanted, yielded]; simp)) _ _ rfl (w.heap.size + 1) rfl _ _ _ HRC.out Tryz.underlying34 rfl HCI.out ?_)
             | (go_at_call 63; refine HRLn.out.mono ?_; rintro e wa ⟨rfl, hba⟩; have HLTa := zh (HLT9.out wa); have HBa := zh hba; clear hba)
             | (go_at_call 62; refine HLTa.out.mono ?_; rintro e wb ⟨rfl, hbb⟩; have HBb := zh hbb; clear hbb))
           go_meet
           case rel => exact ⟨by rw [HOX.out], zh (HBa.out.trans (HBb.out.mono HBa.out.size))⟩
          ·rw [zF h64, Bool.false_and] at hob
           have HOX := zh hob; clear hob
           generalize x.ws.length = wn at *
           go_wp2_with fail
           go_meet
           case rel => exact ⟨by rw [HOX.out], zh (zB _ _)⟩
         ·have q5 : (x.op == 5) = false := by simp [h5]
          have hob := HOBd.out
          rw [zF h5, Bool.false_and] at hob
          have HOX := zh hob; clear hob
          have H5 := zh h5; clear h5
          generalize x.ws.length = wn at *
          go_wp2_with fail
          go_meet
          case rel => exact ⟨by rw [HOX.out], zh (zB _ _)⟩
        case rest =>
         obtain ⟨rfl, HS9⟩ := hcut
         clear d0 HWS
         have HO := zh (own_below HO.out HS9.out (zL _))
         have HW := zh (HW.out.trans ((HS9.out).mono (by have := HW.out.size; omega)))
         have HRS := zh (HRSf.out _ HW.out)
         have HRC := zh (HRCf.out _ HW.out)
         go_upto_if 74 with fail
         go_cut [5] from 75 to 80 (fun ov wx => ∃ (Xo : Option Addr) (d : Nat), ov = .slice Xo L2.length d ∧ Hid (wx.ownsRow B 39 2 (.slice Xo L2.length d) L2.length (L2.flatMap ftC)) ∧ Hid (Below B w1 wx))
         case first =>
          have HLL := HLL1
          have d6 := (cd_cells HRC.out).2.2.2.2.2.2
          cases ob with
          | false =>
            have HNS : Hid (L2 = L1) := zh (by rw [← HL2E.out, HORD.out, if_neg (by simp), List.append_nil])
            go_wp2_with fail
            have hsl : (Value.slice Xo (L1).length d) = .slice Xo (L2).length d := by rw [HNS.out]
            go_meet
            case rel => exact ⟨Xo, d, hsl, zh (by rw [HNS.out]; exact HO.out), HW⟩
          | true =>
            have HNS : Hid (L2 = L1 ++ [(5, x.pp)]) := zh (by rw [← HL2E.out, HORD.out, if_pos rfl])
            go_wp2_with (at_builtin; refine wpList_moreS _ rfl _ _ 84 rfl 39 (.agg #[.int .i64 0, .int .i64 0]) 2 16 Tryz.underlying84 infoFtS rfl (by decide) B Xo (L1).length d ((L1).flatMap ftC) rfl (own_below HO.out ((zB _ _).alloc (zL _) _) (zL _)) wc.heap.size [.int .i64 5, .int .i64 (x.pp)] rfl rfl (two_cells _ _ _ _) (by intro u hu; simp at hu; rcases hu with rfl | rfl <;> rfl) (by simp only [maxLen]; have := HLL.out; omega) (by have := HLL.out; omega) (by have := HW.out.size; simp; omega) ?_)
            intro X6 d6 w6 hown6 hb6 hg6 hat6
            have HO6 : Hid (w6.ownsRow B 39 2 (.slice X6 (L2).length d6) (L2).length ((L2).flatMap ftC)) := zh (by rw [HNS.out, zA7, List.flatMap_append]; exact hown6)
            have HB6 : Hid (Below B w1 w6) := zh (HW.out.trans (((zB _ _).alloc (by have := HW.out.size; omega) _).trans hb6))
            have hsl : (Value.slice X6 ((L1).length + 1) d6) = .slice X6 (L2).length d6 := by rw [HNS.out, zA7]; rfl
            clear hown6 hb6 hg6 hat6
            go_wp2_with fail
            go_meet
            case rel => exact ⟨X6, d6, hsl, HO6, HB6⟩
         case rest =>
          obtain ⟨Xo, d, rfl, HO, HW⟩ := hcut
          have HRC := zh (HRCf.out _ HW.out)
          have d0 := (cd_cells HRC.out).1
          have HMO : Hid (∀ n : Int, (if x.op = 4 then (8 : Int) else 64) = n → ((rmost x.op : Nat) : Int) = if x.op = 3 then 8 else n) := zh fun n hn => by
            unfold rmost
            by_cases h4 : x.op = 4
            ·rw [if_pos (.inl h4)]
             rw [if_pos h4] at hn
             rw [if_neg (by omega), ← hn]; rfl
            ·rw [if_neg h4] at hn
             by_cases h3 : x.op = 3
             ·rw [if_pos (.inr h3), if_pos h3]; rfl
             ·rw [if_neg (by omega), if_neg h3, ← hn]; rfl
          generalize hL3 : L2 ++ rlimF s x = L3 at *
          have HL3E := zh hL3; clear hL3
          have HRN : Hid (rnum s x = if x.op = 3 then (shF s x).length else x.ws.length) := zh rfl
          go_upto_if 83 with fail
          go_cut [8] from 81 to 83 (fun mv wx => mv = .int .i64 (if x.op = 4 then 8 else 64) ∧ wx = wc)
          case first =>
            by_cases h4 : x.op = 4
            ·have q4 : (x.op == 4) = true := by simp [h4]
             have h44 : (if x.op = 4 then (8 : Int) else 64) = 8 := if_pos h4
             clear h4
             go_wp2_with fail
             go_meet
             case rel => exact ⟨by rw [h44], rfl⟩
            ·have q4 : (x.op == 4) = false := by simp [h4]
             have h44 : (if x.op = 4 then (8 : Int) else 64) = 64 := if_neg h4
             clear h4
             go_wp2_with fail
             go_meet
             case rel => exact ⟨by rw [h44], rfl⟩
          case rest =>
            obtain ⟨rfl, hwc⟩ := hcut
            subst hwc
            have hm2 := HMO.out _ rfl
            have HM2 := zh hm2; clear hm2 HMO
            generalize (if x.op = 4 then (8 : Int) else 64) = mo at *
            go_upto_if 86 with fail
            clear d0
            go_cut [6, 8] from 84 to 91 (fun nv mv wx => nv = .int .i64 ((rnum s x : Nat) : Int) ∧ mv = .int .i64 ((rmost x.op : Nat) : Int) ∧ Hid (wx.ownsRow B 39 2 (.slice Xo L2.length d) L2.length (L2.flatMap ftC)) ∧ Hid (Below B w1 wx))
            case first =>
             by_cases h3 : x.op = 3
             ·have q3 : (x.op == 3) = true := by simp [h3]
              have HRS := zh (HRSf.out _ HW.out)
              have HWS : Hid (Below w.heap.size w wc) := zh (HB.out.trans (HW.out.mono (by omega)))
              have hsv := run_sv1
              have HSH := zh (qshape13_any s x wc wc (HOKf.out _ HWS.out) (zB _ _) ((HXf.out _ HWS.out).mono HWS.out.size) HSUM.out)
              have hr := HRN.out
              rw [if_pos h3] at hr
              have hm3 := HM2.out
              rw [if_pos h3] at hm3
              have HR := zh hr
              have HM3 := zh hm3
              have H3 := zh h3
              clear h3 hr hm3
              go_wp2_with (first
                   | (refine wpList_loadS (by rfl) 25 _ rfl w.heap.size rfl _ _ _ HRS.out Tryz.underlying25 rfl (by kernel_rfl) ?_)
                   | (refine wpList_loadS (by rfl) 34 _ rfl (w.heap.size + 1) rfl _ _ _ HRC.out Tryz.underlying34 rfl HCI.out ?_)
                   | (go_at_call 18; refine HSH.out.mono ?_; rintro e w5 ⟨A5, c5, gs, rfl, hfa5, hn5, hcr, hb5⟩; have HS5 := zh hb5; have HCR := zh (core_len hcr); clear hb5 hfa5 hn5 hcr))
              have HO := zh (own_below HO.out HS5.out (zL _))
              have HW := zh (HW.out.trans ((HS5.out).mono (by have := HW.out.size; omega)))
              have HRS := zh (HRSf.out _ HW.out)
              have HRC := zh (HRCf.out _ HW.out)
              go_meet
              case rel => exact ⟨by rw [HR.out, ← HCR.out], by rw [HM3.out], HO, HW⟩
             ·have q3 : (x.op == 3) = false := by simp [h3]
              have hr := HRN.out
              rw [if_neg h3] at hr
              have hm3 := HM2.out
              rw [if_neg h3] at hm3
              have HR := zh hr
              have HM3 := zh hm3
              clear h3 hr hm3
              go_wp2_with fail
              go_meet
              case rel => exact ⟨by rw [HR.out], by rw [HM3.out], HO, HW⟩
            case rest =>
             obtain ⟨rfl, rfl, HO, HW⟩ := hcut
             have HRC := zh (HRCf.out _ HW.out)
             have HRS := zh (HRSf.out _ HW.out)
             have hrn : rnum s x ≤ 65536 := by
                  rw [HRN.out]
                  by_cases h3 : x.op = 3
                  ·rw [if_pos h3]
                   have : shF s x = flat (dshF s x.ws) := by unfold shF; rw [h3]; rfl
                   rw [this]; exact HSUM.out h3
                  ·rw [if_neg h3]; exact hws
             have hrm : rmost x.op ≤ 64 := by unfold rmost; split <;> omega
             go_upto_region 18 with fail
             go_cut [115] from 92 to 115 (fun cv wx => cv = .bool (rlimB s x) ∧ wx = wc)
             case first =>
                  obtain ⟨c0, c1, _, _⟩ := rw2 HRS.out
                  clear hop1 hop7 HRN HM2
                  generalize rlimB s x = lb at *
                  generalize rnum s x = rn at *
                  generalize rmost x.op = rm at *
                  generalize s.ls.length = ln at *
                  generalize s.vs.length = vn at *
                  cases dv with
                  | false =>
                    by_cases h1 : rm < rn
                    ·have hlb : lb = true := by rw [HLB.out]; simp [h1]
                     go_wp2_with fail
                     go_meet
                     case rel => exact ⟨by rw [hlb]; first | done | exact congrArg Value.bool (by simp <;> omega), rfl⟩
                    ·by_cases h2 : 16 ≤ ln
                     ·have hlb : lb = true := by rw [HLB.out]; simp [h1, h2]
                      go_wp2_with fail
                      go_meet
                      case rel => exact ⟨by rw [hlb]; first | done | exact congrArg Value.bool (by simp <;> omega), rfl⟩
                     ·have hlb : lb = false := by rw [HLB.out]; simp [h1, h2]
                      go_wp2_with fail
                      go_meet
                      case rel => exact ⟨by rw [hlb]; first | done | exact congrArg Value.bool (by simp <;> omega), rfl⟩
                  | true =>
                    by_cases h1 : 64 < vn + rn
                    ·have hlb : lb = true := by rw [HLB.out]; simp [h1]
                     go_wp2_with fail
                     go_meet
                     case rel => exact ⟨by rw [hlb]; first | done | exact congrArg Value.bool (by simp <;> omega), rfl⟩
                    ·have hlb : lb = false := by rw [HLB.out]; simp [h1]
                     go_wp2_with fail
                     go_meet
                     case rel => exact ⟨by rw [hlb]; first | done | exact congrArg Value.bool (by simp <;> omega), rfl⟩
             case rest =>
                  obtain ⟨rfl, hwc⟩ := hcut
                  subst hwc
                  clear hrn hrm
                  generalize rlimB s x = lb at *
                  go_upto_if 115 with fail
                  go_cut [5] from 116 to 121 (fun ov wx => ∃ (Xo : Option Addr) (d : Nat), ov = .slice Xo L3.length d ∧ Hid (wx.ownsRow B 39 2 (.slice Xo L3.length d) L3.length (L3.flatMap ftC)) ∧ Hid (Below B w1 wx))
                  case first =>
                   have HLL := HLL2
                   have d1 := (cd_cells HRC.out).2.1
                   cases lb with
                   | false =>
                     have HNS : Hid (L3 = L2) := zh (by rw [← HL3E.out, HLIM.out, if_neg (by simp), List.append_nil])
                     go_wp2_with fail
                     have hsl : (Value.slice Xo (L2).length d) = .slice Xo (L3).length d := by rw [HNS.out]
                     go_meet
                     case rel => exact ⟨Xo, d, hsl, zh (by rw [HNS.out]; exact HO.out), HW⟩
                   | true =>
                     have HNS : Hid (L3 = L2 ++ [(7, x.p)]) := zh (by rw [← HL3E.out, HLIM.out, if_pos rfl])
                     go_wp2_with (at_builtin; refine wpList_moreS _ rfl _ _ 84 rfl 39 (.agg #[.int .i64 0, .int .i64 0]) 2 16 Tryz.underlying84 infoFtS rfl (by decide) B Xo (L2).length d ((L2).flatMap ftC) rfl (own_below HO.out ((zB _ _).alloc (zL _) _) (zL _)) wc.heap.size [.int .i64 7, .int .i64 (x.p)] rfl rfl (two_cells _ _ _ _) (by intro u hu; simp at hu; rcases hu with rfl | rfl <;> rfl) (by simp only [maxLen]; have := HLL.out; omega) (by have := HLL.out; omega) (by have := HW.out.size; simp; omega) ?_)
                     intro X6 d6 w6 hown6 hb6 hg6 hat6
                     have HO6 : Hid (w6.ownsRow B 39 2 (.slice X6 (L3).length d6) (L3).length ((L3).flatMap ftC)) := zh (by rw [HNS.out, zA7, List.flatMap_append]; exact hown6)
                     have HB6 : Hid (Below B w1 w6) := zh (HW.out.trans (((zB _ _).alloc (by have := HW.out.size; omega) _).trans hb6))
                     have hsl : (Value.slice X6 ((L2).length + 1) d6) = .slice X6 (L3).length d6 := by rw [HNS.out, zA7]; rfl
                     clear hown6 hb6 hg6 hat6
                     go_wp2_with fail
                     go_meet
                     case rel => exact ⟨X6, d6, hsl, HO6, HB6⟩
                  case rest =>
                   have HLL3 : Hid (L3.length ≤ 196611) := zh (by rw [← HL3E.out, zA7, HLIM.out]; have := HLL2.out; split <;> simp <;> omega)
                   obtain ⟨Xo, d, rfl, HO, HW⟩ := hcut
                   have HRZ := zh (HRZf.out _ HW.out)
                   have HLE := zh (refLeast_any Xo d L3 wc (by have := HLL3.out; omega) (Sl.of_own HO.out))
                   have hwbz : w.heap.size ≤ gz := by have := HGZ.out; omega
                   generalize lstF L3 = lf at *
                   go_wp2_with (first
                    | (go_at_call 64; refine HLE.out.mono ?_; rintro e wl ⟨rfl, hbl⟩; have HZl := zh (HRZ.out.below hbl HRZ.out.lt); have HBl := zh (HW.out.trans (hbl.mono (by have := HW.out.size; omega))); clear hbl)
                    | (refine wpList_stRow (by rfl) _ _ _ rfl gz _ rfl rfl _ _ HZl.out (by kernel_rfl) rfl (by simp [ftv, Value.oneCell']) ?_; intro wz rz he))
                   exact bodyPost_ret (retRow rfl _ _ gz _ _ (0, 0) _ rfl rz Tryz.underlying39 rfl (by kernel_rfl)) rfl (HQ.out _ _ ⟨rfl, HB.out.trans ((HBl.out.mono hwb).trans (he.below hwbz))⟩)
 ·have hrf := HRF.out
  rw [if_neg hop] at hrf
  rw [hrf] at HQ
  clear HRF hrf
  by_cases h1 : x.op < 1
  ·clear hop
   generalize x.op = op at *
   go_wp2_with (refine wpList_stRow (by rfl) _ _ _ rfl (w.heap.size + 1 + 1) (ftv (0, 0)) rfl rfl _ _ HRZ.out (by kernel_rfl) rfl (by simp [ftv, Value.oneCell']) ?_; intro wz rz he)
   exact bodyPost_ret (retRow rfl _ _ (w.heap.size + 1 + 1) _ _ (0, 0) _ rfl rz Tryz.underlying39 rfl (by kernel_rfl)) rfl (HQ.out _ _ ⟨rfl, HB.out.trans (he.below (by omega))⟩)
  ·have h2 : 7 < x.op := by omega
   have h3 : 1 ≤ x.op := by omega
   clear hop h1
   generalize x.op = op at *
   go_wp2_with (refine wpList_stRow (by rfl) _ _ _ rfl (w.heap.size + 1 + 1) (ftv (0, 0)) rfl rfl _ _ HRZ.out (by kernel_rfl) rfl (by simp [ftv, Value.oneCell']) ?_; intro wz rz he)
   exact bodyPost_ret (retRow rfl _ _ (w.heap.size + 1 + 1) _ _ (0, 0) _ rfl rz Tryz.underlying39 rfl (by kernel_rfl)) rfl (HQ.out _ _ ⟨rfl, HB.out.trans (he.below (by omega))⟩)
end
section
open Go.RowKit
structure Nt where
 k : Int
 p : Int
 s : ByteArray
 A : Option Addr
 n : Nat
 c : Nat
 B : Option Addr
 m : Nat
 d : Nat
def ntC (x : Nt) : List Value := [.int .i64 x.k, .int .i64 x.p, .string x.s, .slice x.A x.n x.c, .slice x.B x.m x.d]
def nt0 : Nt := ⟨0, 0, ⟨#[]⟩, none, 0, 0, none, 0, 0⟩
inductive NtOk (w : World) : Nt → Prop
 | mk (x : Nt) (ks : List Nt) (hm : x.m = ks.length) (hs : Ls ntC w x.B ks) (hn : x.n ≤ maxLen) (hl : ks.length ≤ maxLen) (hk : ∀ y ∈ ks, NtOk w y) : NtOk w x
theorem NtOk.lo {w w' : World} {x : Nt} (h : NtOk w x) (hb : Below w.heap.size w w') : NtOk w' x := by
 induction h with
 | mk x ks hm hs hn hl hk ih => exact .mk x ks hm (hs.below hb) hn hl ih
theorem many_some {w0 : World} {x : Nt} (h : NtOk w0 x) : ∀ w, Below w0.heap.size w0 w → Calls Tryz.prog 93 #[.agg (ntC x).toArray] w fun e w' => (∃ k : Int, e = .returned (.int .i64 k)) ∧ Below w.heap.size w w' := by
 induction h with
 | mk x ks hm hs hn hl hk ih =>
   intro w hw
   have HS := zh hs
   have HI : Hid (∀ i, i < ks.length → ∀ W, Below w0.heap.size w0 W → Calls Tryz.prog 93 #[.agg (ntC (ks.getD i nt0)).toArray] W fun e w' => (∃ k : Int, e = .returned (.int .i64 k)) ∧ Below W.heap.size W w') := zh fun i hi W hW => ih _ (getD_mem' hi) W hW
   have HW0 := zh hw
   have r0 := RowAt.new w 32 (ntC x).toArray
   have HB : Hid (Below w.heap.size w (w.alloc (.cells (ntC x).toArray 32))) := (zB _ _).alloc (zL _) _
   obtain ⟨k, p, s, A, n, c, B, m, d⟩ := x
   simp only at hm hs hn HS
   clear hs hk ih hw
   have HL := zh hm.symm
   have hl2 : m ≤ maxLen := by rw [hm]; exact hl
   clear hm hl
   unfold maxLen at hn hl2
   have c3 := (r0.cell 3).trans (show (ntC ⟨k, p, s, A, n, c, B, m, d⟩).toArray[3]? = some (.slice A n c) from rfl)
   have c4 := (r0.cell 4).trans (show (ntC ⟨k, p, s, A, n, c, B, m, d⟩).toArray[4]? = some (.slice B m d) from rfl)
   have hlt := r0.lt
   clear r0
   go_enter Tryz.func93, Tryz.ntmps93
   go_upto_region 1 with fail
   change Code.wp _ _ _ _ (w.alloc (.cells (ntC ⟨k, p, s, A, n, c, B, m, d⟩).toArray 32))
   generalize w.alloc (.cells (ntC ⟨k, p, s, A, n, c, B, m, d⟩).toArray 32) = w1 at *
   have HB1 : Hid (Below w0.heap.size w0 w1) := zh (HW0.out.trans (HB.out.mono HW0.out.size))
   have C4 : Hid (∀ W, Below w1.heap.size w1 W → W.cell? ⟨w.heap.size, 4, none⟩ = some (.slice B m d)) := zh fun W hW => (hW.cell (p := ⟨w.heap.size, 4, none⟩) hlt).trans c4
   clear c4
   go_wp2_with fail
   go_loopw [3, 4] (fun kv iv wr => ∃ (i : Nat) (a : Int), i ≤ m ∧ iv = .int .i64 i ∧ kv = .int .i64 a ∧ Hid (Below w1.heap.size w1 wr)) (fun _ iv _ => m - (intOf iv).toNat)
   case atStart => exact ⟨0, _, by omega, rfl, rfl, zh (zB _ _)⟩
   case round =>
    obtain ⟨i, a, hi, rfl, rfl, HW⟩ := hrel
    have q4 := C4.out wr HW.out
    by_cases hlt : i < m
    ·obtain ⟨b, o, rfl, _, hc⟩ := (HS.out.below (HB1.out.trans (HW.out.mono HB1.out.size))).at 5 (fun _ => rfl) (by omega) nt0 (i := i) (by rw [HL.out]; exact hlt)
     have HR := zh (hc i (by rw [HL.out]; exact hlt)); clear hc
     have HC := zh (HI.out i (by rw [HL.out]; exact hlt))
     generalize ks.getD i nt0 = y at *
     go_wp2_with (first
      | (refine wpList_ldIn (by rfl) _ _ rfl b (o + i * 5) rfl _ _ HR.out Tryz.underlying32 rfl (by kernel_rfl) ?_)
      | (go_at_call 93; refine (HC.out _ (HB1.out.trans (HW.out.mono HB1.out.size))).mono ?_; rintro e w2 ⟨⟨q, rfl⟩, hb⟩; have HW2 := zh (HW.out.trans (hb.mono HW.out.size)); clear hb))
     go_roundw
     case rel => exact ⟨i + 1, _, by omega, by go_num, rfl, HW2⟩
     case measure => simp [intOf]; omega
    ·obtain rfl : i = m := by omega
     go_wp2_with fail
     go_ret
     exact ⟨⟨_, rfl⟩, HB.out.trans (HW.out.mono HB.out.size)⟩
end
section
open Go.RowKit
theorem infoNt : (Tryz.prog.info? 32).map (fun i => (i.zero.isSome, i.size)) = some (true, 5) := by kernel_rfl
theorem ntC_one (x : Nt) : (ntC x).toArray.all (·.oneCell') = true := by simp [ntC, Value.oneCell']
theorem wpList_nts {ops : Array Oper} {rest : List Oper} {o : Oper} {a : Act} {w : World} {Q : Exit → Act → World → Prop} (hgd : Region.wanted o (yielded ops a.tmps) = true) (x y : Operand) (ho : o.op = .buildSlice 30 2 #[(0, x), (1, y)])
 (l r : Nt) (hx : a.eval x = .agg (ntC l).toArray) (hy : a.eval y = .agg (ntC r).toArray)
 (h : ∀ w', Ls ntC w' (some ⟨w.heap.size, 0, none⟩) [l, r] → Below w.heap.size w w' → wpList Tryz.prog ops Q rest (a.put o.dst (.slice (some ⟨w.heap.size, 0, none⟩) 2 2)) w') : wpList Tryz.prog ops Q (o :: rest) a w := by
 refine wpList_wanted hgd fun K hK => ?_
 cases hi : Tryz.prog.info? 32 with
 | none => have h0 := infoNt; rw [hi] at h0; cases h0
 | some i =>
   have h2 := infoNt
   rw [hi] at h2
   simp only [Option.map_some, Option.some.injEq, Prod.mk.injEq] at h2
   obtain ⟨z, hz⟩ := Option.isSome_iff_exists.1 h2.1
   have hs := h2.2
   refine wp_buildSlice 30 32 2 _ ho ([l, r].flatMap ntC).toArray i z Tryz.underlying30 hi hz (by rw [hs]; omega) (by rw [hs]; omega) ?_ ?_
   ·rw [show (#[(0, x), (1, y)].map fun (p : Nat × Operand) => (p.1, a.eval p.2)).toList = (([l, r].map fun s => Value.agg (ntC s).toArray).zipIdx 0).map fun x => (x.2, x.1) by simp [hx, hy], hs]
    have := Great.fill_whole (s := 5) (by decide) ([l, r].map fun s => Value.agg (ntC s).toArray) ((Array.range (2 * 5)).map (z.cells[· % z.cells.size]!)) (by
        intro v hv
        obtain ⟨s, _, rfl⟩ := List.mem_map.1 hv
        rfl) (by simp)
    rw [this]
    rfl
   ·refine hK _ _ (h _ (fun _ => ⟨w.heap.size, 0, rfl, by simp, fun j u hu => ?_⟩) ((zB _ _).alloc (zL _) _))
    rw [Nat.zero_add, cell_of_row _ w.heap.size j _ 32 (0, 0) (heap_alloc_new w _)]
    simpa using hu
theorem big10_some (A : Option Addr) (c : Nat) (l r : Nt) (w : World) (hA : Ls ntC w A [l, r]) (hl : NtOk w l) (hr : NtOk w r) :
 Calls Tryz.prog 28 #[.slice A 2 c] w fun e w' => (∃ b : Bool, e = .returned (.bool b)) ∧ Below w.heap.size w w' := by
 have HA := zh hA
 have HM : Hid (∀ k, k < 2 → ∀ W, Below w.heap.size w W → Calls Tryz.prog 93 #[.agg (ntC ([l, r].getD k nt0)).toArray] W fun e w' => (∃ k : Int, e = .returned (.int .i64 k)) ∧ Below W.heap.size W w') := zh fun k hk W hW => by
  rcases (show k = 0 ∨ k = 1 by omega) with rfl | rfl
  ·exact many_some hl W hW
  ·exact many_some hr W hW
 clear hA hl hr
 refine cHid fun Q' hQ => ?_
 have HQ := zh hQ; clear hQ
 go_enter Tryz.func28, Tryz.ntmps28
 go_wp2_with fail
 go_loopw [4, 7] (fun _ kv wr => ∃ k : Nat, k ≤ 2 ∧ kv = .int .i64 k ∧ Hid (Below w.heap.size w wr)) (fun _ kv _ => 2 - (intOf kv).toNat)
 case atStart => exact ⟨0, by omega, rfl, zh (zB _ _)⟩
 case round =>
  obtain ⟨k, hk, rfl, HW⟩ := hrel
  by_cases hlt : k < 2
  ·obtain ⟨b, o, rfl, _, hc⟩ := (HA.out.below HW.out).at 5 (fun _ => rfl) (by omega) nt0 (i := k) (by simpa using hlt)
   have HR := zh (hc k (by simpa using hlt)); clear hc
   have HC := zh (HM.out k hlt)
   generalize [l, r].getD k nt0 = y at *
   have hki : (k : Int) < 2 := by omega
   go_upto_region 4 with (first
        | (refine wpList_ldIn (by rfl) _ _ rfl b (o + k * 5) rfl _ _ HR.out Tryz.underlying32 rfl (by kernel_rfl) ?_)
        | (refine wpList_stRow (by rfl) _ _ _ rfl wr.heap.size (ntC y).toArray rfl rfl _ _ (RowAt.new _ _ _) (by kernel_rfl) rfl (ntC_one y) ?_; intro wc rc he; have HRC := zh rc; have hbw : Below wr.heap.size wr wc := ((zB _ _).alloc (zL _) _).trans (he.below (zL _)); have HWc := zh (HW.out.trans (hbw.mono HW.out.size)); clear rc he hbw))
   go_upto_if 13 with (first
        | (refine wpList_loadS (by rfl) _ _ rfl wr.heap.size rfl _ _ _ HRC.out Tryz.underlying32 rfl (by kernel_rfl) ?_)
        | (go_at_call 93; refine (HC.out _ HWc.out).mono ?_; rintro e w3 ⟨⟨q, rfl⟩, hb3⟩; have HW3 := zh (HWc.out.trans (hb3.mono HWc.out.size)); clear hb3))
   by_cases hq : 300 < q
   ·go_wp2_with fail
    exact HQ.out _ _ ⟨⟨_, rfl⟩, HW3.out⟩
   ·go_wp2_with fail
    go_roundw
    case rel => exact ⟨k + 1, by omega, by go_num, HW3⟩
    case measure => simp [intOf]; omega
  ·obtain rfl : k = 2 := by omega
   go_wp2_with fail
   exact HQ.out _ _ ⟨⟨_, rfl⟩, HW.out⟩
structure CdIn (w : World) (x : Cd) : Prop where
 ws : Ls wdC w x.A x.ws
 ps : Ls pwC w x.B x.ps
 nodes : ∃ l r, x.rest = ntC l ++ ntC r ∧ NtOk w l ∧ NtOk w r
 wmax : x.ws.length ≤ maxLen
 pmax : x.ps.length ≤ maxLen
 nn : x.n.1.size ≤ maxLen
 wn : ∀ t ∈ x.txt, t.size ≤ maxLen
 pn : ∀ p ∈ x.ps, p.1.1.size ≤ maxLen ∧ p.2.1.size ≤ maxLen
theorem CdIn.below {w w' : World} {x : Cd} (h : CdIn w x) (hb : Below w.heap.size w w') : CdIn w' x := by
 obtain ⟨l, r, h1, h2, h3⟩ := h.nodes
 exact ⟨h.ws.below hb, h.ps.below hb, ⟨l, r, h1, h2.lo hb, h3.lo hb⟩, h.wmax, h.pmax, h.nn, h.wn, h.pn⟩
theorem CdIn.ok {w : World} {x : Cd} (h : CdIn w x) (h1 : x.ws.length ≤ 100) (h2 : x.ps.length ≤ 100) : CdOk w w.heap.size x := by
 obtain ⟨l, r, e, _, _⟩ := h.nodes
 exact ⟨h.ws, h.ps, by rw [e]; rfl, by omega, by omega, h.nn, h.wn, h.pn⟩
theorem big12_some (x : Cd) (w : World) (hx : CdIn w x) :
 Calls Tryz.prog 12 #[.agg (cdv x)] w fun e w' => (∃ b : Bool, e = .returned (.bool b) ∧ (b = false → x.ws.length ≤ 100 ∧ x.ps.length ≤ 100)) ∧ Below w.heap.size w w' := by
 have r0 := RowAt.new w 34 (cdv x)
 have hb : Below w.heap.size w (w.alloc (.cells (cdv x) 34)) := (zB _ _).alloc (zL _) _
 refine cHid fun Q' hQ => ?_
 have HQ := zh hQ; clear hQ
 go_enter Tryz.func12, Tryz.ntmps12
 go_upto_region 1 with fail
 change Code.wp _ _ _ _ (w.alloc (.cells (cdv x) 34))
 generalize w.alloc (.cells (cdv x) 34) = w1 at *
 obtain ⟨l, r, hrest, hl, hr⟩ := (hx.below hb).nodes
 have hR1 : w1.rangeAt w.heap.size 7 (ntC l) := r0.range 7 (ntC l) fun j u hu => by
  have hj : j < 5 := (List.getElem?_eq_some_iff.1 hu).1
  unfold cdv
  rw [hrest, zA1, show 7 + j = j + 7 by omega]
  show (ntC l ++ ntC r)[j]? = some u
  rw [List.getElem?_append_left (by exact hj)]; exact hu
 have hR2 : w1.rangeAt w.heap.size 12 (ntC r) := r0.range 12 (ntC r) fun j u hu => by
  have hj : j < 5 := (List.getElem?_eq_some_iff.1 hu).1
  unfold cdv
  rw [hrest, zA1, show 12 + j = (j + 5) + 7 by omega]
  show (ntC l ++ ntC r)[j + 5]? = some u
  rw [List.getElem?_append_right (by show 5 ≤ j + 5; omega)]
  rw [show j + 5 - (ntC l).length = j by show j + 5 - 5 = j; omega]; exact hu
 have HR1 := zh hR1
 have HR2 := zh hR2
 have HB := zh hb
 have HBN := zh fun A c W (hA : Ls ntC W A [l, r]) (hW : Below w1.heap.size w1 W) => big10_some A c l r W hA (hl.lo hW) (hr.lo hW)
 obtain ⟨_, _, d2, _, d4, d5, _⟩ := cd_cells r0
 have hwm := hx.wmax
 have hpm := hx.pmax
 have hnm := hx.nn
 clear r0 hb hR1 hR2 hrest hl hr hx
 generalize x.ws.length = wn at *
 generalize x.ps.length = pn at *
 unfold maxLen at hwm hpm hnm
 by_cases h1 : 100 < wn
 ·go_wp2_with fail
  exact HQ.out _ _ ⟨⟨true, rfl, fun h => by cases h⟩, HB.out⟩
 by_cases h2 : 100 < pn
 ·go_wp2_with fail
  exact HQ.out _ _ ⟨⟨true, rfl, fun h => by cases h⟩, HB.out⟩
 by_cases h3 : 100 < x.n.1.size
 ·go_wp2_with fail
  exact HQ.out _ _ ⟨⟨true, rfl, fun h => by cases h⟩, HB.out⟩
 ·go_wp2_with (first
   | (refine wpList_ldIn (by rfl) _ _ rfl w.heap.size 7 rfl _ _ HR1.out Tryz.underlying32 rfl (by kernel_rfl) ?_)
   | (refine wpList_ldIn (by rfl) _ _ rfl w.heap.size 12 rfl _ _ HR2.out Tryz.underlying32 rfl (by kernel_rfl) ?_)
   | (refine wpList_nts (by rfl) _ _ rfl l r rfl rfl ?_; intro w2 hls hb2; have HL2 := zh hls; have HB2 := zh hb2; clear hls hb2)
   | (go_at_call 28; refine (HBN.out _ _ _ HL2.out HB2.out).mono ?_; rintro e w3 ⟨⟨q, rfl⟩, hb3⟩; have HB3 := zh (HB2.out.trans (hb3.mono HB2.out.size)); clear hb3))
  have hbs := HB.out.size
  exact HQ.out _ _ ⟨⟨q, rfl, fun _ => ⟨by omega, by omega⟩⟩, HB.out.trans (HB3.out.mono hbs)⟩
end
section
open Go.RowKit
structure ScR (w : World) (B : Nat) (s' : Sc) (ll : List (ByteArray × Bool × List Fac)) (vv : List (ByteArray × Int × Int)) : Prop where
 lown : w.ownsRow B 53 3 (.slice s'.LA s'.ls.length s'.lc) s'.ls.length (s'.ls.flatMap latC)
 vown : w.ownsRow B 55 3 (.slice s'.VA s'.vs.length s'.vc) s'.vs.length (s'.vs.flatMap varC)
 lats : ∀ l ∈ s'.ls, LatO w B l
 le : s'.ls.map lcore = ll
 ve : s'.vs = vv
theorem ScR.below {w w' : World} {B : Nat} {s : Sc} {ll : List (ByteArray × Bool × List Fac)} {vv : List (ByteArray × Int × Int)} (h : ScR w B s ll vv) (hb : Below w.heap.size w w') : ScR w' B s ll vv :=
 ⟨own_below h.lown hb (zL _), own_below h.vown hb (zL _), fun l hl => (h.lats l hl).below hb, h.le, h.ve⟩
theorem wp_moreS {P : Program} {w : World} {o : Oper} {a : Act} {K : Act → World → Prop} {Q : Exit → Act → World → Prop} (s x : Operand) (t : TypeId)
 (ho : o.op = .call { callee := .builtin .append, args := #[s, x], argTypes := #[t, t] })
 (e : TypeId) (z : Value) (size bytes : Nat) (ht : P.underlying t = some (.slice e))
 (hinf : (P.info? e).map (fun i => (i.zero, i.size, i.bytes)) = some (some z, size, bytes)) (hzs : z.cells.size = size) (hsz : 0 < size)
 (base : Nat) (A : Option Addr) (n c : Nat) (cs : List Value) (hs : a.eval s = .slice A n c) (hown : w.ownsRow base e size (.slice A n c) n cs)
 (g : Nat) (news : List Value) (hx : a.eval x = .slice (some ⟨g, 0, none⟩) 1 1) (hl : news.length = size)
 (hnews : ∀ j u, news[j]? = some u → w.cell? ⟨g, j, none⟩ = some u) (h1 : ∀ u ∈ news, u.oneCell' = true)
 (hn : n + 1 ≤ maxLen) (hb2 : (n + 1) * bytes ≤ 140737488355328) (hbase : base ≤ w.heap.size)
 (h : ∀ A' c' w', w'.ownsRow base e size (.slice A' (n + 1) c') (n + 1) (cs ++ news) → Below base w w' → w.grownBy w' (Value.slice A n c).ownBlock → ((Value.slice A' (n + 1) c').ownBlock = (Value.slice A n c).ownBlock ∨ (Value.slice A' (n + 1) c').ownBlock = some w.heap.size) → K (a.put o.dst (.slice A' (n + 1) c')) w') :
 o.wp P a w K Q := by
 obtain ⟨i, hi, hz, hi1, hi2⟩ := info_parts hinf
 have hadd : ∀ j, (⟨g, 0, none⟩ : Addr).add j = ⟨g, j, none⟩ := fun j => by unfold Addr.add; split <;> simp_all
 obtain ⟨v', w', hr, hown', hg, _, hat⟩ := run_append_own_at (P := P) w base t o.type e i z size bytes ht hi hz hi1 hi2 hzs hsz (.slice A n c) n cs hown ⟨g, 0, none⟩ 1 1 news (by rw [hl, Nat.one_mul])
  (fun j u hu => by rw [hadd]; exact hnews j u hu) h1 hn hb2 hbase
 obtain ⟨A', c', rfl, _, _⟩ := own_form hown'
 unfold Oper.wp execOp
 simp only [ho, resolve, invoke, builtin, Sem.run_bind, Sem.run_pure, Result.andThen_ok, List.map_toArray, List.map_cons, List.map_nil, hs, hx, hr]
 exact (h A' c' w' hown' ((zB base w).grown hg hbase (fun k hk => (hown.lt k hk).1)) hg hat)
def addL (s : Sc) (x : Cd) : List (ByteArray × Bool × List Fac) := s.ls.map lcore ++ (if (decide ((faultF s x).1 = 0) && dLat x.op) = true then [(x.n.1, shT x.op, (shF s x).map core)] else [])
def addV (s : Sc) (x : Cd) : List (ByteArray × Int × Int) := s.vs ++ (if (decide ((faultF s x).1 = 0) && dVar x.op) = true then x.ws.map fun y => (y.1, kindN x.op, idx s.lnms x.n.1) else [])
theorem run_ft0 (f : Int × Int) (w : World) : (Instr.field 39 (.agg (ftv f)) 0).run Tryz.prog w = .ok (.int .i64 f.1) w := by kernel_rfl
end
section
open Go.RowKit
theorem indexStr_any (A : Option Addr) (c : Nat) (xs : List ByteArray) (F : FuncId) (p : Nat → Bool) (w : World) (hl : xs.length ≤ 4294967296) (hA : Strs w A xs)
 (hf : ∀ args w, (callFunc F args).run Tryz.prog w = .ok (.enter F args) w)
 (H : ∀ j W, j < xs.length → Below w.heap.size w W → Calls Tryz.prog F #[.string (xs.getD j ⟨#[]⟩)] W fun e W' => e = .returned (.bool (p j)) ∧ Below W.heap.size W W') :
 Calls Tryz.prog 138 #[.slice A xs.length c, .func (.func F) #[] #[]] w fun e w' => e = .returned (.int .i64 (NM.fst p xs.length)) ∧ Below w.heap.size w w' := by
 have HH := zh H; clear H
 have HA := zh hA; clear hA
 generalize hn : xs.length = n at *
 have HN := zh hn; clear hn
 have HB0 : Hid (Below w.heap.size w w) := zB _ _
 go_enter Tryz.func138, Tryz.ntmps138
 go_wp2
 go_loopw [8] (fun iv wr => ∃ i : Nat, i ≤ n ∧ iv = .int .i64 i ∧ Hid (∀ j, j < i → p j = false) ∧ Hid (Below w.heap.size w wr)) (fun iv _ => n - (intOf iv).toNat)
 case atStart => exact ⟨0, by omega, rfl, fun j hj => by omega, HB0⟩
 case round =>
  clear HB0
  obtain ⟨i, hi, rfl, HF, HB⟩ := hrel
  by_cases hlt : i < n
  ·obtain ⟨b, o, rfl, hc⟩ := (HA.out.below HB.out).at (k := i) (by rw [HN.out]; exact hlt)
   have p0 := hc i (by rw [HN.out]; exact hlt)
   clear hc
   have HC := zh (HH.out i wr hlt HB.out)
   generalize xs.getD i ⟨#[]⟩ = x at *
   cases hp : p i
   all_goals
        rw [hp] at HC
        have HP := zh hp; clear hp
        go_wp2_with fail
        refine HC.out.mono ?_
        rintro e W ⟨rfl, hb⟩
        have HBW : Hid (Below w.heap.size w W) := zh (HB.out.trans (hb.mono HB.out.size))
        clear hb
        go_wp2
   ·go_roundw
    case rel =>
     refine ⟨i + 1, by omega, by go_num, ?_, HBW⟩
     show ∀ j, j < i + 1 → p j = false
     intro j hj
     by_cases hjk : j = i
     ·rw [hjk]; exact HP.out
     ·exact HF.out j (by omega)
    case measure => simp [intOf]; omega
   ·go_ret
    exact ⟨ret_eq (int_eq (NM.fst_hit hlt HP.out HF.out).symm), HBW.out⟩
  ·obtain rfl : i = n := by omega
   go_wp2
   go_ret
   exact ⟨ret_eq (int_eq (NM.fst_miss HF.out).symm), HB.out⟩
theorem wrongN_any (t : ByteArray) (w : World) : Calls Tryz.prog 74 #[.string t] w fun e w' => e = .returned (.bool (!NM.right t)) ∧ Below w.heap.size w w' := by
 have HR := zh (right_any t w)
 go_enter Tryz.func74, Tryz.ntmps74
 go_wp2_with (go_at_call 75; refine HR.out.mono ?_; rintro e w1 ⟨rfl, hb⟩; have HB := zh hb; clear hb)
 go_ret
 exact ⟨rfl, HB.out⟩
theorem containsN_any (A : Option Addr) (c : Nat) (xs : List ByteArray) (w : World) (hl : xs.length ≤ 4294967296) (hA : Strs w A xs) :
 Calls Tryz.prog 76 #[.slice A xs.length c, .func (.func 74) #[] #[]] w fun e w' => e = .returned (.bool (!xs.all NM.right)) ∧ Below w.heap.size w w' := by
 have HI := zh (indexStr_any A c xs 74 (fun j => !NM.right (xs.getD j ⟨#[]⟩)) w hl hA (fun _ _ => by kernel_rfl) fun j W _ _ => wrongN_any _ W)
 have hE : (!xs.all NM.right) = decide (0 ≤ NM.fst (fun j => !NM.right (xs.getD j ⟨#[]⟩)) xs.length) := by
  rcases NM.fst_cases (fun j => !NM.right (xs.getD j ⟨#[]⟩)) xs.length with ⟨k, hk, e, hp, _⟩ | ⟨e, h0⟩
  ·rw [e, zE (by omega)]
   have : xs.all NM.right = false := by
        rw [List.all_eq_false]
        exact ⟨xs.getD k ⟨#[]⟩, getD_mem' hk, by simpa using hp⟩
   rw [this]; rfl
  ·rw [e, zF (by omega)]
   have : xs.all NM.right = true := by
        rw [List.all_eq_true]
        intro y hy
        obtain ⟨i, hi, rfl⟩ := List.mem_iff_getElem.1 hy
        have := h0 i hi
        rw [List.getD_eq_getElem?_getD, List.getElem?_eq_getElem hi] at this
        simpa using this
   rw [this]; rfl
 rw [hE]
 clear hE
 generalize NM.fst (fun j => !NM.right (xs.getD j ⟨#[]⟩)) xs.length = r at *
 generalize xs.length = n at *
 go_enter Tryz.func76, Tryz.ntmps76
 go_wp2_with (go_at_call 138; refine HI.out.mono ?_; rintro e w1 ⟨rfl, hb⟩; have HB := zh hb; clear hb)
 go_ret
 exact ⟨rfl, HB.out⟩
end
section
open Go.RowKit
def varB (n : Nat) (v : ByteArray × Int × Int) : Bool := (decide (v.2.1 = 1) || decide (v.2.1 = 2)) && (decide (0 ≤ v.2.2) && decide (v.2.2 < (n : Int)))
def rightSc (s : Sc) : Bool := decide (s.ls.length ≤ 16) && (decide (s.vs.length ≤ 64) && (s.ls.all (fun l => rightS l.2.t l.2.fs) && (s.vs.all (varB s.ls.length) && ((s.lnms ++ s.vnms).all NM.right && decide (twc (s.lnms ++ s.vnms) < 0)))))
theorem all_bad {α : Type} {xs : List α} {p : α → Bool} {k : Nat} {d : α} (hk : k < xs.length) (h : p (xs.getD k d) = false) : xs.all p = false := by
 rw [List.all_eq_false]
 exact ⟨_, getD_mem' hk, by rw [h]; simp⟩
theorem all_good {α : Type} {xs : List α} {p : α → Bool} (d : α) (h : ∀ k, k < xs.length → p (xs.getD k d) = true) : xs.all p = true := by
 rw [List.all_eq_true]
 intro y hy
 obtain ⟨i, hi, rfl⟩ := List.mem_iff_getElem.1 hy
 have := h i hi
 rwa [List.getD_eq_getElem?_getD, List.getElem?_eq_getElem hi] at this
theorem right_small {t : ByteArray} (h : NM.right t = true) : t.size ≤ 4294967296 := by
 unfold NM.right at h
 simp only [Bool.and_eq_true, decide_eq_true_eq] at h
 omega
end
section
open Go.RowKit
def wdsK (xs : List ByteArray) (k : Nat) : List (ByteArray × Int) := (List.range k).map fun i => (xs.getD i ⟨#[]⟩, 10 + (i : Int))
theorem wdsK_succ (xs : List ByteArray) (k : Nat) : wdsK xs (k + 1) = wdsK xs k ++ [(xs.getD k ⟨#[]⟩, 10 + (k : Int))] := by
 unfold wdsK
 rw [List.range_succ, List.map_append]; rfl
theorem infoWdS : (Tryz.prog.info? 27).map (fun i => (i.zero, i.size, i.bytes)) = some (some (.agg #[.string ⟨#[]⟩, .int .i64 0]), 2, 24) := by kernel_rfl
theorem words13_any (A : Option Addr) (c : Nat) (xs : List ByteArray) (w : World) (hl : xs.length ≤ 65536) (hA : Strs w A xs) :
 Calls Tryz.prog 47 #[.slice A xs.length c] w fun e w' => ∃ X d, e = .returned (.slice X xs.length d) ∧ w'.ownsRow w.heap.size 27 2 (.slice X xs.length d) xs.length ((wdsK xs xs.length).flatMap wdC) ∧ Below w.heap.size w w' := by
 have HA := zh hA; clear hA
 refine cHid fun Q' hQ => ?_
 have HQ := zh hQ; clear hQ
 generalize hn : xs.length = n at *
 have HN := zh hn; clear hn
 go_enter Tryz.func47, Tryz.ntmps47
 go_wp2_with fail
 go_loopw [3, 8] (fun sv iv wr => ∃ (i d : Nat) (X : Option Addr), i ≤ n ∧ iv = .int .i64 (i : Int) ∧ sv = .slice X i d ∧ Hid (wr.ownsRow w.heap.size 27 2 (.slice X i d) i ((wdsK xs i).flatMap wdC)) ∧ Hid (Below w.heap.size w wr)) (fun _ iv _ => n - (intOf iv).toNat)
 case atStart => exact ⟨0, 0, none, by omega, rfl, rfl, World.ownsRow_nil _ _ _ _, zB _ _⟩
 case round =>
  obtain ⟨i, d, X, hi, rfl, rfl, HO, HW⟩ := hrel
  by_cases hlt : i < n
  ·obtain ⟨b1, o1, rfl, hc1⟩ := (HA.out.below HW.out).at (k := i) (by rw [HN.out]; exact hlt)
   have p0 := hc1 i (by rw [HN.out]; exact hlt)
   have HLT := zh hlt
   have HTK : Hid ((wdsK xs (i + 1)).flatMap wdC = (wdsK xs i).flatMap wdC ++ [.string (xs.getD i ⟨#[]⟩), .int .i64 (10 + (i : Int))]) := zh (by rw [wdsK_succ]; simp [wdC])
   have hi16 : i < 65536 := by omega
   have hw10 : IntKind.i64.wrap (10 + (i : Int)) = 10 + (i : Int) := IntWalk.i64_in _ ⟨by omega, by omega⟩
   clear hc1
   generalize xs.getD i ⟨#[]⟩ = s1 at *
   generalize (wdsK xs i).flatMap wdC = CS at *
   generalize hz10 : 10 + (i : Int) = z10 at *
   go_wp2_with (at_builtin; refine wpList_moreS _ rfl _ _ 28 rfl 27 (.agg #[.string ⟨#[]⟩, .int .i64 0]) 2 24 Tryz.underlying28 infoWdS rfl (by decide) w.heap.size X i d CS rfl ?c1 wr.heap.size [.string s1, .int .i64 z10] rfl rfl (fun j u hu => ((RowAt.new wr 27 #[.string s1, .int .i64 z10]).cell j).trans (by simpa using hu)) (by intro u hu; simp at hu; rcases hu with rfl | rfl <;> rfl) ?c3 ?c4 ?c5 ?_)
   case c1 => exact own_below HO.out ((zB _ _).alloc (zL _) _) (zL _)
   case c3 => simp only [maxLen]; omega
   case c4 => omega
   case c5 => have := HW.out.size; simp; omega
   intro X6 d6 w6 hown6 hb6 hg6 hat6
   have HO6 : Hid (w6.ownsRow w.heap.size 27 2 (.slice X6 (i + 1) d6) (i + 1) ((wdsK xs (i + 1)).flatMap wdC)) := by
        rw [HTK.out]; exact zh hown6
   have HB6 : Hid (Below w.heap.size w w6) := zh ((HW.out.alloc HW.out.size _).trans hb6)
   clear hown6 hb6 hg6 hat6
   go_wp2_with fail
   go_roundw
   case rel => exact ⟨i + 1, d6, X6, by have := HLT.out; omega, by go_num, rfl, HO6.out, HB6.out⟩
   case measure => have := HLT.out; simp [intOf]; omega
  ·obtain rfl : i = n := by omega
   go_wp2_with fail
   exact HQ.out _ _ ⟨X, d, rfl, HO.out, HW.out⟩
end
end Go.Proofs.YtebnfmfpejnkcaaGreatDoor
