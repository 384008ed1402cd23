/- Texts that all the claims need. Conditions: those that each states. -/

import Derived.Test.YtppcjocmjpbmmaaGreatDoorCk20
import Derived.Test.YtppcjocmjpbmmaaGreatDoorCk30
set_option linter.unusedSimpArgs false
set_option linter.unusedVariables false
set_option maxRecDepth 100000
set_option maxHeartbeats 40000000
namespace Go.Proofs.YtppcjocmjpbmmaaGreatDoor
section
open Go.RowKit RM
theorem split_chain (f : Fac) (hv : facB f = true) (s : ByteArray) (hs : NM.right s = true) (A : Option Addr) (c : Nat) (w : World) (hT : Tab w) (hF : Facs w A [f]) :
 Calls Tryz.prog 93 #[.agg (sv false A 1 c), .agg (ntC (leafN 2 s)).toArray] w fun e w' => ∃ B, e = .returned (.tuple #[.slice (some ⟨B, 0, none⟩) 1 1, .bool true]) ∧ RowAt w' B 56 (ntC (leafN 2 s)).toArray ∧ w.heap.size ≤ B ∧ Below w.heap.size w w' := by
 obtain ⟨rs, rn, hb⟩ := two_rows w (sv false A 1 c) (ntC (leafN 2 s)).toArray 24 56
 have HSR : Hid (∀ W, Below w.heap.size w W → Calls Tryz.prog 108 #[.agg (sv false A 1 c)] W fun e w' => e = .returned (.bool true) ∧ Below W.heap.size W w') := zh fun W hW => by
  have := sright_any false A c [f] W (hT.below hW) (hF.below hW)
  rw [right_one hv] at this
  exact this
 have HIC := zh fun W => const_point s hs W
 have HLT := zh rn.lt
 have HSP : ∀ W, W.heap.size ≥ w.heap.size + 2 → RowAt W w.heap.size 24 (sv false A 1 c) → W.cell? ⟨w.heap.size, 0, none⟩ = some (.bool false) := fun W _ h => (shape_cells h).1
 clear hT hF hv
 refine cHid fun Q' hQ => ?_
 have HQ := zh hQ; clear hQ
 go_enter Tryz.func93, Tryz.ntmps93
 go_upto_region 1 with fail
 change Code.wp _ _ _ _ ((w.alloc (.cells (sv false A 1 c) 24)).alloc (.cells (ntC (leafN 2 s)).toArray 56))
 generalize (w.alloc (.cells (sv false A 1 c) 24)).alloc (.cells (ntC (leafN 2 s)).toArray 56) = w1 at *
 have HB := zh hb
 have HRS := zh rs
 have HRN := zh rn
 have hsv : sv false A 1 c = #[.bool false, .slice A 1 c] := rfl
 obtain ⟨c0, _⟩ := shape_cells rs
 clear hb rs rn hsv
 go_upto_region 4 with (first
  | (go_at_call 108; refine (HSR.out w1 HB.out).mono ?_; rintro e w2 ⟨rfl, hb2⟩; have HB2 := zh hb2; obtain ⟨n0, n1, n2, n3, n4⟩ := nt_row (HRN.out.below hb2 HRN.out.lt); have d0 := (shape_cells (HRS.out.below hb2 HRS.out.lt)).1; clear hb2)
  | (go_at_call 59; refine (HIC.out w2).mono ?_; rintro e w3 ⟨rfl, hb3⟩; have HB3 := zh (HB2.out.trans (hb3.mono HB2.out.size)); clear hb3 n0 n1 n2 n3 n4 d0; have HRN3 := zh (HRN.out.below HB3.out HRN.out.lt); have d0 := (shape_cells (HRS.out.below HB3.out HRS.out.lt)).1))
 obtain ⟨n0, n1, n2, n3, n4⟩ := nt_row HRN3.out
 go_wp2_with (refine wpList_oneN rfl _ rfl (leafN 2 s) rfl ?_; intro w4 hr4 hb4; have HR4 := zh hr4; have HB4 := zh hb4; clear hr4 hb4 n0 n1 n2 n3 n4 d0 c0)
 exact HQ.out _ _ ⟨w3.heap.size, rfl, HR4.out, zM HB.out.size HB3.out.size, (HB.out.trans (HB3.out.mono HB.out.size)).trans (HB4.out.mono (zM HB.out.size HB3.out.size))⟩
end
section
open Go.RowKit RM
section
variable {P : Program} {ops : Array Oper} {Q : Exit → Act → World → Prop} {S : World → Prop}
end
theorem elem_chain (f : Fac) (hk : f.kind = 1) (hv : facB f = true) (s : ByteArray) (hs : NM.right s = true) (j : Nat) (hj : idx f.names s = (j : Int)) (hn : f.names.length ≤ 64) (ha64 : RG.wR f.names.length j < 18446744073709551616) (A : Option Addr) (c : Nat) (w : World) (hT : Tab w) (hF : Facs w A [f]) :
 Calls Tryz.prog 63 #[.agg (sv false A 1 c), .agg (ntC (leafN 2 s)).toArray] w fun e w' => e = .returned (.tuple #[.agg (uv (RG.wR f.names.length j :: List.replicate 7 0)), .agg f00]) ∧ Below w.heap.size w w' := by
 have z8 := EW.zeros
 have HSP := zh (fun W (h : Below w.heap.size w W) => split_chain f hv s hs A c W (hT.below h) (hF.below h))
 have HFB : Hid (∀ W, Below w.heap.size w W → Facs W A [f]) := fun W h => hF.below h
 have HWC : Hid (∀ W, Below w.heap.size w W → Calls Tryz.prog 95 #[.agg (fv f), .agg (ntC (leafN 2 s)).toArray] W fun e w' => e = .returned (.tuple #[.int .u64 (RG.wR f.names.length j : Int), .agg f00]) ∧ Below W.heap.size W w') := fun W h => word_chain f hk s j hj hn W ((hF.below h).ok f (List.mem_singleton.2 rfl))
 have HEW := zh (ew_one ha64)
 have hl : RW f.l := (hF.ok f (List.mem_singleton.2 rfl)).rows
 obtain ⟨b, o, rfl, _, _⟩ := hF.at (k := 0) (by simp)
 have HRG : Hid (∀ W, Below w.heap.size w W → W.rangeAt b o (fcells f)) := fun W h => by
  obtain ⟨b2, o2, e, _, hr⟩ := (hF.below h).at (k := 0) (by simp)
  cases e
  simpa using hr 0 (by simp)
 clear hT hF hj hn ha64 hv hk
 generalize RG.wR (f.names.length : Int) (j : Int) = a9 at *
 obtain ⟨r0, r1, r2, r3, hb⟩ := four_rows w (sv false (some ⟨b, o, none⟩) 1 c) (ntC (leafN 2 s)).toArray (uv (List.replicate 8 0)) #[.int .i64 0, .int .i64 0] 24 56 31 113
 refine cHid fun Q' hQ => ?_
 have HQ := zh hQ; clear hQ
 rw [← zero_elem] at r0 r1 r2 r3 hb
 go_enter Tryz.func63, Tryz.ntmps63
 go_upto_region 1 with fail
 rw [zero_elem] at r0 r1 r2 r3 hb ⊢
 change Code.wp _ _ _ _ ((((w.alloc (.cells (sv false (some ⟨b, o, none⟩) 1 c) 24)).alloc (.cells (ntC (leafN 2 s)).toArray 56)).alloc (.cells (uv (List.replicate 8 0)) 31)).alloc (.cells #[.int .i64 0, .int .i64 0] 113))
 generalize ((((w.alloc (.cells (sv false (some ⟨b, o, none⟩) 1 c) 24)).alloc (.cells (ntC (leafN 2 s)).toArray 56)).alloc (.cells (uv (List.replicate 8 0)) 31)).alloc (.cells #[.int .i64 0, .int .i64 0] 113)) = w1 at *
 obtain ⟨n0, n1, n2, n3, n4⟩ := nt_row r1
 have HB1 := zh hb
 have HS1 := zh r0
 have HE1 := zh r2
 have HF1 := zh r3
 have HLT := zh r3.lt
 clear r0 r1 r2 r3 hb
 go_upto_region 4 with (first | (refine wpList_loadShape (by rfl) _ rfl w.heap.size rfl false (some ⟨b, o, none⟩) 1 c HS1.out ?_) | (go_at_call 93; refine (HSP.out w1 HB1.out).mono ?_; rintro e w2 ⟨B, rfl, hnB, hlB, hb2⟩; have HNB := zh hnB; have HLB := zh hlB; have HB2 := zh hb2; clear hnB hlB hb2))
 clear n0 n1 n2 n3 n4
 have HBB := zh (HB1.out.trans (HB2.out.mono HB1.out.size))
 have HSZ2 : Hid (w.heap.size + 3 < w2.heap.size) := zh (zT HLT.out HB2.out.size)
 have HB0 : Hid (Below w2.heap.size w2 (w2.alloc (.cells (uv (List.replicate 8 0)) 30))) := (zB _ _).alloc (zL _) _
 have HW0 := zh (RowAt.new w2 30 (uv (List.replicate 8 0)))
 have HNB0 := zh (HNB.out.below HB0.out HNB.out.lt)
 go_upto_region 5 with fail
 rw [zero_elem]
 have HBo := zh (HBB.out.trans (HB0.out.mono HBB.out.size))
 have HBW1 : Hid (Below w1.heap.size w1 (w2.alloc (.cells (uv (List.replicate 8 0)) 30))) := zh (HB2.out.trans (HB0.out.mono HB2.out.size))
 generalize w2.alloc (.cells (uv (List.replicate 8 0)) 30) = wo at *
 generalize hgW : w2.heap.size = gW at *
 clear hgW HB2 HB0
 obtain ⟨c0, c1⟩ := shape_cells (HS1.out.below HBW1.out HS1.out.lt)
 go_wp2_with fail
 clear c0 c1
 have HRGo := zh (HRG.out wo HBo.out)
 have hrg := HRGo.out
 refine wp_loop_rounds 2 ?_
 rw [rounds_succ]
 have hszo := HW0.out.lt
 go_upto_region 8 with (first
  | (refine wpList_loadFacIn (by rfl) _ rfl b _ rfl f hl hrg ?_)
  | (refine wpList_storeFac (by rfl) _ _ rfl wo.heap.size rfl f hl rfl _ zero_fac_size (RowAt.new _ _ _) ?_; intro w6 r6 he6; have HW6 := zh ((HW0.out.alloc (.cells Tryz.zeroCells44 44)).other he6 (Nat.ne_of_lt HW0.out.lt)); have HB6 : Hid (Below wo.heap.size wo w6) := ((zB _ _).alloc (zL _) _).trans (he6.below (zL _)); clear he6))
 have HR6 := zh r6
 have hlt6 : wo.heap.size < w6.heap.size := r6.lt
 clear r6 hrg
 generalize hg6 : wo.heap.size = g6 at *
 have HG6 := zh hg6; clear hg6
 have HNB6 : Hid (RowAt w6 B 56 (ntC (leafN 2 s)).toArray) := zh (HNB0.out.below (by rw [← HG6.out] at HB6; exact HB6.out) HNB0.out.lt)
 have K0 : ∀ W, Below w6.heap.size w6 W → W.cell? ⟨B, 0, none⟩ = some (.int .i64 2) := fun W hW => (nt_row (HNB6.out.below hW HNB6.out.lt)).1
 have K1 : ∀ W, Below w6.heap.size w6 W → W.cell? ⟨B, 1, none⟩ = some (.int .i64 0) := fun W hW => (nt_row (HNB6.out.below hW HNB6.out.lt)).2.1
 have K2 : ∀ W, Below w6.heap.size w6 W → W.cell? ⟨B, 2, none⟩ = some (.string s) := fun W hW => (nt_row (HNB6.out.below hW HNB6.out.lt)).2.2.1
 have K3 : ∀ W, Below w6.heap.size w6 W → W.cell? ⟨B, 3, none⟩ = some (.slice none 0 0) := fun W hW => (nt_row (HNB6.out.below hW HNB6.out.lt)).2.2.2.1
 have K4 : ∀ W, Below w6.heap.size w6 W → W.cell? ⟨B, 4, none⟩ = some (.slice none 0 0) := fun W hW => (nt_row (HNB6.out.below hW HNB6.out.lt)).2.2.2.2
 have pF : ∀ W, Below w6.heap.size w6 W → RowAt W g6 44 (fv f) := fun W h => HR6.out.below h hlt6
 have HSV : Hid (Below w6.heap.size w6 w6.drew) := (zB _ _).drew
 have HB6w : Hid (Below w.heap.size w w6) := zh (HBo.out.trans (HB6.out.mono (by rw [← HG6.out]; exact HBo.out.size)))
 refine wp_region_ou (fun V => Below w6.heap.size w6 V) ((.take 0 (.take 1 (.take 2 (.take 3 (.take 4 (.two 5 (.take 6 (.take 7 (.take 8 (.solo 9 (.take 10 (.solo 11 .nil)))))) 9 (.solo 5 (.take 6 (.take 7 (.take 8 (.take 10 (.solo 11 .nil))))))))))))) (by kernel_rfl) (by kernel_rfl) rfl (by kernel_rfl) HSV.out ?_
 generalize w6.drew = v0 at HSV ⊢
 iterate 5
  (refine wpOU_step (zO rfl) ?_)
  (first
        | (refine wpOU_skip (by rfl) ?_)
        | (refine wpOU_take (by rfl) (take_loadFac _ rfl _ rfl f hl pF) ?_)
        | (refine wpOU_take (v := ?_) (by rfl) ?_ ?_; rotate_left 1; (intro wx hSx; have hc_0 := K0 wx hSx; have hc_1 := K1 wx hSx; have hc_2 := K2 wx hSx; have hc_3 := K3 wx hSx; have hc_4 := K4 wx hSx; go_simp; try with_reducible rfl)))
  (try simp only [Act.put, zA4, zA5, zA6])
 clear K0 K1 K2 K3 K4 pF
 refine wpOU_two ?b1 ?b2
 case' b1 =>
  have HSV_v0 := HSV
  clear HSV
  (refine wpOU_solo (zO rfl) ?_)
  intro K hK
  go_simp
  go_at_call 95
  refine (HWC.out v0 (HB6w.out.trans (HSV_v0.out.mono HB6w.out.size))).mono ?_
  rintro e v1 ⟨rfl, hb⟩
  have HSV_v1 : Hid (Below w6.heap.size w6 v1) := zh (HSV_v0.out.trans (hb.mono HSV_v0.out.size))
  refine hK.out _ _ HSV_v1.out ?_
  clear hK K hb
  (try simp only [Act.put, zA4, zA5, zA6])
  iterate 3
   (refine wpOU_step (zO rfl) ?_)
   (first
    | (refine wpOU_skip (by rfl) ?_)
    | (refine wpOU_take (v := ?_) (by rfl) ?_ ?_; rotate_left 1; (intro wx hSx; go_simp; try with_reducible rfl)))
   (try simp only [Act.put, zA4, zA5, zA6])
  (refine wpOU_solo (zO rfl) ?_)
  intro K hK
  go_simp
  have HSV_v2 := zh (HSV_v1.out.alloc HSV_v1.out.size (.cells #[.int .i64 0, .int .i64 0] 113))
  have HGw := zh (RowAt.new v1 113 #[.int .i64 0, .int .i64 0])
  have hg9 : w6.heap.size ≤ v1.heap.size := HSV_v1.out.size
  refine hK.out _ _ HSV_v2.out ?_
  clear hK K
  (try simp only [Act.put, zA4, zA5, zA6])
  generalize v1.alloc (.cells #[.int .i64 0, .int .i64 0] 113) = v2 at *
  generalize v1.heap.size = g9 at *
  iterate 1
   (refine wpOU_step (zO rfl) ?_)
   (first
    | (refine wpOU_skip (by rfl) ?_)
    | (refine wpOU_take (v := ?_) (by rfl) ?_ ?_; rotate_left 1; (intro wx hSx; go_simp; try with_reducible rfl)))
   (try simp only [Act.put, zA4, zA5, zA6])
  have hsR : Below w6.heap.size w6 (v2.setRow g9 f00) := HSV_v2.out.trans ((Else.setRow _ _ _).below (by omega))
  refine wpOU_st (o := ?_) ?ho1 ?hw1 113 ?ox1 ?oy1 ?hop1 g9 f00 ?hx1 ?hy1 113 #[.int .i64 0, .int .i64 0] HGw.out (by with_unfolding_all rfl) ?hold1 (by simp [f00, Value.oneCell']) hsR ?hh1
  case ho1 => (simp only [zA1, zA2, zA3]; with_reducible rfl)
  case hw1 => rfl
  case hop1 => rfl
  case hx1 => rfl
  case hy1 => rfl
  case hold1 => rfl
  (try simp only [Act.put, zA4, zA5, zA6])
  refine wpOU_done ?_
 case' b2 =>
  have HSV_v0 := HSV
  clear HSV
  (refine wpOU_solo (zO rfl) ?_)
  intro K hK
  go_simp
  have HSV_v1 := zh (HSV_v0.out.alloc HSV_v0.out.size (.cells #[.int .i64 0, .int .i64 0] 113))
  have HGw := zh (RowAt.new v0 113 #[.int .i64 0, .int .i64 0])
  have hg9 : w6.heap.size ≤ v0.heap.size := HSV_v0.out.size
  refine hK.out _ _ HSV_v1.out ?_
  clear hK K
  (try simp only [Act.put, zA4, zA5, zA6])
  generalize v0.alloc (.cells #[.int .i64 0, .int .i64 0] 113) = v1 at *
  generalize v0.heap.size = g9 at *
  (refine wpOU_solo (zO rfl) ?_)
  intro K hK
  go_simp
  go_at_call 95
  refine (HWC.out v1 (HB6w.out.trans (HSV_v1.out.mono HB6w.out.size))).mono ?_
  rintro e v2 ⟨rfl, hb⟩
  have HSV_v2 : Hid (Below w6.heap.size w6 v2) := zh (HSV_v1.out.trans (hb.mono HSV_v1.out.size))
  have hGw := HGw.out.below hb HGw.out.lt
  clear HGw
  have HGw := zh hGw
  clear hGw
  refine hK.out _ _ HSV_v2.out ?_
  clear hK K hb
  (try simp only [Act.put, zA4, zA5, zA6])
  iterate 4
   (refine wpOU_step (zO rfl) ?_)
   (first
    | (refine wpOU_skip (by rfl) ?_)
    | (refine wpOU_take (v := ?_) (by rfl) ?_ ?_; rotate_left 1; (intro wx hSx; go_simp; try with_reducible rfl)))
   (try simp only [Act.put, zA4, zA5, zA6])
  have hsR : Below w6.heap.size w6 (v2.setRow g9 f00) := HSV_v2.out.trans ((Else.setRow _ _ _).below (by omega))
  refine wpOU_st (o := ?_) ?ho2 ?hw2 113 ?ox2 ?oy2 ?hop2 g9 f00 ?hx2 ?hy2 113 #[.int .i64 0, .int .i64 0] HGw.out (by with_unfolding_all rfl) ?hold2 (by simp [f00, Value.oneCell']) hsR ?hh2
  case ho2 => (simp only [zA1, zA2, zA3]; with_reducible rfl)
  case hw2 => rfl
  case hop2 => rfl
  case hx2 => rfl
  case hy2 => rfl
  case hold2 => rfl
  (try simp only [Act.put, zA4, zA5, zA6])
  refine wpOU_done ?_
 all_goals
  have HG9 : Hid (RowAt (v2.setRow g9 f00) g9 113 f00) := zh (HGw.out.setRow f00)
  have HS9 := zh hsR
  generalize v2.setRow g9 f00 = w9 at *
  clear hsR HGw hg9 HSV_v0 HSV_v1 HSV_v2
  have HW9 := zh (HW6.out.below HS9.out HW6.out.lt)
  have HB9 : Hid (Below gW w6 w9) := zh (HS9.out.mono (Nat.le_of_lt HW6.out.lt))
  obtain ⟨m0, m1, _, _⟩ := row2z (show RowAt w9 g9 113 #[.int .i64 0, .int .i64 0] from HG9.out)
  have hce : w9.cell? ⟨gW, 0, none⟩ = some (.int .u64 0) := (HW9.out.cell 0).trans rfl
  have hfe := HW9.out.free 0
  have p9 : RowAt (w9.setCell ⟨gW, 0, none⟩ (.int .u64 (a9 : Int))) gW 30 (uv (a9 :: List.replicate 7 0)) := HW9.out.put 0 (.int .u64 (a9 : Int))
  have HP9 := zh p9
  clear p9
  go_wp2_with fail
  rw [rounds_succ]
  have HBz : Hid (Below gW w6 (w9.setCell ⟨gW, 0, none⟩ (.int .u64 (a9 : Int)))) := zh (HB9.out.setCell (p := ⟨gW, 0, none⟩) (zL _) _)
  clear m0 m1 hce hfe
  generalize w9.setCell ⟨gW, 0, none⟩ (.int .u64 (a9 : Int)) = w10 at *
  have HBy : Hid (Below w.heap.size w w10) := zh (HB6w.out.trans (HBz.out.mono (zM (by omega) (Nat.le_of_lt HSZ2.out))))
  have he1 := HE1.out.below HBW1.out HE1.out.lt
  have hf1 := HF1.out.below HBW1.out HF1.out.lt
  have q2 := (he1.below HB6.out (by rw [← HG6.out]; exact he1.lt)).below HBz.out (by have := HSZ2.out; omega)
  have q3 := (hf1.below HB6.out (by rw [← HG6.out]; exact hf1.lt)).below HBz.out (by have := HSZ2.out; omega)
  clear he1 hf1
  obtain ⟨m0, m1, v0, v1⟩ := row2z q3
  have hew := HEW.out
  go_wp2_with (first | (refine wpList_ldWords (by rfl) _ rfl gW rfl _ hew HP9.out ?_) | (refine wpList_storeElem (by rfl) _ _ rfl (w.heap.size + 2) rfl _ hew rfl _ z8 q2 ?_; intro w4 q4 he; have q5 := q3.other he (by omega); have HB4 := zh (HBy.out.trans (he.below (by omega))); clear he m0 m1 v0 v1; obtain ⟨m0, m1, v0, v1⟩ := row2z q5))
  have hrf := (q5.put 0 (.int .i64 0)).put 1 (.int .i64 0)
  have hre := (q4.far (p := ⟨w.heap.size + 3, 0, none⟩) (by show w.heap.size + 3 ≠ w.heap.size + 2; omega) (.int .i64 0)).far (p := ⟨w.heap.size + 3, 1, none⟩) (by show w.heap.size + 3 ≠ w.heap.size + 2; omega) (.int .i64 0)
  exact bodyPost_ret (ret2c rfl _ _ (w.heap.size + 2) (w.heap.size + 3) _ _ _ _ (0, 0) (0, 0) _ _ rfl rfl hre hrf Tryz.underlying31 rfl (einfo hew) Tryz.underlying113 rfl (by with_unfolding_all rfl)) rfl (HQ.out _ _ ⟨rfl, (HB4.out.setCell (p := ⟨w.heap.size + 3, 0, none⟩) (by show w.heap.size ≤ w.heap.size + 3; omega) _).setCell (p := ⟨w.heap.size + 3, 1, none⟩) (by show w.heap.size ≤ w.heap.size + 3; omega) _⟩)
end
section
open Go.RowKit RM
theorem pushing_const (LA : Option Addr) (lc : Nat) (nm : ByteArray) (SA : Option Addr) (sc : Nat) (f : Fac) (VA : Option Addr) (vc : Nat) (x : ByteArray) (hk : f.kind = 1) (hv : facB f = true) (s : ByteArray) (hs : NM.right s = true) (j : Nat) (hj : idx f.names s = (j : Int)) (hn : f.names.length ≤ 64) (ha64 : RG.wR f.names.length j < 18446744073709551616)
 (g : Nat) (w : World) (hT : Tab w) (hS : ScOk w (scOne LA lc nm ⟨false, SA, sc, [f]⟩ VA vc x)) (hF : Facs w SA [f]) (hg : g < w.heap.size) (hy : w.rangeAt g 0 (ntC (leafN 2 s))) :
 Calls Tryz.prog 37 #[.agg (scv (scOne LA lc nm ⟨false, SA, sc, [f]⟩ VA vc x)), .int .i64 0, .agg (ntC (kidsN 7 (some ⟨g, 0, none⟩) 1)).toArray] w fun e w' => e = .returned (.tuple #[.agg (insC ⟨2, 0, ⟨RG.wR f.names.length j :: List.replicate 7 0, ew_one ha64⟩⟩).toArray, .bool true]) ∧ Below w.heap.size w w' := by
 obtain ⟨r0, r1, r2, hb⟩ := three_rows w (scv (scOne LA lc nm ⟨false, SA, sc, [f]⟩ VA vc x)) (ntC (kidsN 7 (some ⟨g, 0, none⟩) 1)).toArray (insC in0).toArray 52 56 60
 have HEL := zh fun W (hW : Below w.heap.size w W) => elem_chain f hk hv s hs j hj hn ha64 SA sc W (hT.below hW) (hF.below hW)
 have HEW := zh (ew_one ha64)
 obtain ⟨b, o, hLA, _, _⟩ := hS.lats.at 3 (fun _ => rfl) (by decide) lat0 (i := 0) (by simp [scOne])
 have hLA2 : LA = some ⟨b, o, none⟩ := hLA
 subst hLA2
 have HLC : Hid (∀ W, Below w.heap.size w W → W.rangeAt b o (latC (nm, ⟨false, SA, sc, [f]⟩))) := fun W h => by
  obtain ⟨b2, o2, e, _, hr⟩ := ((hS.below h).lats).at 3 (fun _ => rfl) (by decide) lat0 (i := 0) (by simp [scOne])
  have e2 : (some ⟨b, o, none⟩ : Option Addr) = some ⟨b2, o2, none⟩ := e
  cases e2
  simpa [scOne] using hr 0 (by simp [scOne])
 have HNY : Hid (∀ W, Below w.heap.size w W → W.rangeAt g 0 (ntC (leafN 2 s))) := fun W h => fun j u hu => (h.cell (p := ⟨g, 0 + j, none⟩) hg).trans (hy j u hu)
 clear hS hLA hT hF hg hy hv hj hk
 obtain ⟨X, hX⟩ : ∃ X, X = insC ⟨2, 0, ⟨RG.wR f.names.length j :: List.replicate 7 0, ew_one ha64⟩⟩ := ⟨_, rfl⟩
 rw [← hX]
 have HX : Hid (X = .int .i64 2 :: .int .i64 0 :: ucells (RG.wR f.names.length j :: List.replicate 7 0)) := hX
 clear hX
 generalize RG.wR (f.names.length : Int) (j : Int) = a9 at *
 refine cHid fun Q' hQ => ?_
 have HQ := zh hQ; clear hQ
 go_enter Tryz.func37, Tryz.ntmps37
 go_upto_region 1 with fail
 change Code.wp _ _ _ _ (((w.alloc (.cells (scv (scOne (some ⟨b, o, none⟩) lc nm ⟨false, SA, sc, [f]⟩ VA vc x)) 52)).alloc (.cells (ntC (kidsN 7 (some ⟨g, 0, none⟩) 1)).toArray 56)).alloc (.cells (insC in0).toArray 60))
 generalize ((w.alloc (.cells (scv (scOne (some ⟨b, o, none⟩) lc nm ⟨false, SA, sc, [f]⟩ VA vc x)) 52)).alloc (.cells (ntC (kidsN 7 (some ⟨g, 0, none⟩) 1)).toArray 56)).alloc (.cells (insC in0).toArray 60) = w1 at *
 have HB1 := zh hb
 have HR0 := zh r0
 have HR1 := zh r1
 have HR2 := zh r2
 have HLT := zh r2.lt
 obtain ⟨n0, n1, n2, n3, n4⟩ := nt_row r1
 unfold kidsN at n0 n4
 dsimp only at n0 n4
 obtain ⟨s0, s1, _, _⟩ := rw2 (show RowAt w1 w.heap.size 52 #[.slice (some ⟨b, o, none⟩) 1 lc, .slice VA 1 vc] from r0)
 clear hb r0 r1 r2
 go_upto_region 5 with fail
 clear s1 n0 n1 n2 n3
 have K0 : ∀ W, Below w1.heap.size w1 W → W.cell? ⟨w.heap.size, 0, none⟩ = some (.slice (some ⟨b, o, none⟩) 1 lc) := fun W hW => (rw2 (show RowAt W w.heap.size 52 #[.slice (some ⟨b, o, none⟩) 1 lc, .slice VA 1 vc] from HR0.out.below hW HR0.out.lt)).1
 have K1 : ∀ W, Below w1.heap.size w1 W → W.cell? ⟨w.heap.size + 1, 4, none⟩ = some (.slice (some ⟨g, 0, none⟩) 1 1) := fun W hW => (nt_row (HR1.out.below hW HR1.out.lt)).2.2.2.2
 have K2 : ∀ W, Below w1.heap.size w1 W → W.cell? ⟨b, o + 1, none⟩ = some (.bool false) := fun W hW => HLC.out W (HB1.out.trans (hW.mono HB1.out.size)) 1 _ rfl
 have K3 : ∀ W, Below w1.heap.size w1 W → W.cell? ⟨b, o + 2, none⟩ = some (.slice SA 1 sc) := fun W hW => HLC.out W (HB1.out.trans (hW.mono HB1.out.size)) 2 _ rfl
 have K4 : ∀ W, Below w1.heap.size w1 W → W.cell? ⟨g, 0, none⟩ = some (.int .i64 2) := fun W hW => HNY.out W (HB1.out.trans (hW.mono HB1.out.size)) 0 _ rfl
 have K5 : ∀ W, Below w1.heap.size w1 W → W.cell? ⟨g, 1, none⟩ = some (.int .i64 0) := fun W hW => HNY.out W (HB1.out.trans (hW.mono HB1.out.size)) 1 _ rfl
 have K6 : ∀ W, Below w1.heap.size w1 W → W.cell? ⟨g, 2, none⟩ = some (.string s) := fun W hW => HNY.out W (HB1.out.trans (hW.mono HB1.out.size)) 2 _ rfl
 have K7 : ∀ W, Below w1.heap.size w1 W → W.cell? ⟨g, 3, none⟩ = some (.slice none 0 0) := fun W hW => HNY.out W (HB1.out.trans (hW.mono HB1.out.size)) 3 _ rfl
 have K8 : ∀ W, Below w1.heap.size w1 W → W.cell? ⟨g, 4, none⟩ = some (.slice none 0 0) := fun W hW => HNY.out W (HB1.out.trans (hW.mono HB1.out.size)) 4 _ rfl
 clear n4 s0
 have HSV_v0 : Hid (Below w1.heap.size w1 w1.drew) := zh (zB _ _).drew
 refine wp_region_ou (fun V => Below w1.heap.size w1 V) ((.take 0 (.take 1 (.take 2 (.take 3 (.take 4 (.take 5 (.take 6 (.take 7 (.take 8 (.take 9 (.three 10 (.take 11 (.take 12 (.take 13 (.two 14 (.solo 15 (.solo 16 (.solo 17 .nil))) 15 (.solo 14 (.solo 16 (.solo 17 .nil))))))) 14 (.two 10 (.take 11 (.take 12 (.take 13 (.solo 15 (.solo 16 (.solo 17 .nil)))))) 15 (.solo 10 (.take 11 (.take 12 (.take 13 (.solo 16 (.solo 17 .nil))))))) 15 (.two 10 (.take 11 (.take 12 (.take 13 (.solo 14 (.solo 16 (.solo 17 .nil)))))) 14 (.solo 10 (.take 11 (.take 12 (.take 13 (.solo 16 (.solo 17 .nil))))))))))))))))))) (by kernel_rfl) (by kernel_rfl) rfl (by kernel_rfl) HSV_v0.out ?_
 generalize w1.drew = v0 at HSV_v0 ⊢
 iterate 10
  (refine wpOU_step (zO rfl) ?_)
  (first
        | (refine wpOU_skip (by rfl) ?_)
        | (refine wpOU_take (v := ?_) (by rfl) ?_ ?_; rotate_left 1; (intro wx hSx; have hc_0 := K0 wx hSx; have hc_1 := K1 wx hSx; have hc_2 := K2 wx hSx; have hc_3 := K3 wx hSx; have hc_4 := K4 wx hSx; have hc_5 := K5 wx hSx; have hc_6 := K6 wx hSx; have hc_7 := K7 wx hSx; have hc_8 := K8 wx hSx; go_simp; try with_reducible rfl)))
  (try simp only [Act.put, zA4, zA5, zA6])
 clear K0 K1 K2 K3 K4 K5 K6 K7 K8
 refine wpOU_three ?c0_0_0 ?c0_0_1 ?c0_0_2
 case' c0_0_0 =>
  (refine wpOU_solo (zO rfl) ?_)
  intro K hK
  go_simp
  go_at_call 63
  refine (HEL.out v0 (HB1.out.trans (HSV_v0.out.mono HB1.out.size))).mono ?_
  rintro e v1 ⟨rfl, hb⟩
  have HSV_v1 : Hid (Below w1.heap.size w1 v1) := zh (HSV_v0.out.trans (hb.mono HSV_v0.out.size))
  refine hK.out _ _ HSV_v1.out ?_
  clear hK K hb
  (try simp only [Act.put, zA4, zA5, zA6])
  iterate 3
   (refine wpOU_step (zO rfl) ?_)
   (first
    | (refine wpOU_skip (by rfl) ?_)
    | (refine wpOU_take (v := ?_) (by rfl) ?_ ?_; rotate_left 1; (intro wx hSx; go_simp; try with_reducible rfl)))
   (try simp only [Act.put, zA4, zA5, zA6])
  refine wpOU_two ?c1_1_0 ?c1_1_1
  case' c1_1_0 =>
   (refine wpOU_solo (zO rfl) ?_)
   intro K hK
   go_simp
   have HSV_v2 := zh (HSV_v1.out.alloc HSV_v1.out.size (.cells #[.int .u64 0, .int .u64 0, .int .u64 0, .int .u64 0, .int .u64 0, .int .u64 0, .int .u64 0, .int .u64 0] 31))
   have HGE := zh (RowAt.new v1 31 #[.int .u64 0, .int .u64 0, .int .u64 0, .int .u64 0, .int .u64 0, .int .u64 0, .int .u64 0, .int .u64 0])
   have HgE : Hid (w1.heap.size ≤ v1.heap.size) := zh HSV_v1.out.size
   refine hK.out _ _ HSV_v2.out ?_
   clear hK K
   (try simp only [Act.put, zA4, zA5, zA6])
   generalize v1.alloc (.cells #[.int .u64 0, .int .u64 0, .int .u64 0, .int .u64 0, .int .u64 0, .int .u64 0, .int .u64 0, .int .u64 0] 31) = v2 at *
   generalize v1.heap.size = gE at *
   (refine wpOU_solo (zO rfl) ?_)
   intro K hK
   go_simp
   have HSV_v3 := zh (HSV_v2.out.alloc HSV_v2.out.size (.cells #[.int .i64 0, .int .i64 0] 113))
   have hGE := HGE.out.alloc (.cells #[.int .i64 0, .int .i64 0] 113)
   clear HGE
   have HGE := zh hGE
   clear hGE
   have HGF := zh (RowAt.new v2 113 #[.int .i64 0, .int .i64 0])
   have HgF : Hid (w1.heap.size ≤ v2.heap.size) := zh HSV_v2.out.size
   refine hK.out _ _ HSV_v3.out ?_
   clear hK K
   (try simp only [Act.put, zA4, zA5, zA6])
   generalize v2.alloc (.cells #[.int .i64 0, .int .i64 0] 113) = v3 at *
   generalize v2.heap.size = gF at *
   have hne : gE ≠ gF := rows_ne HGE.out HGF.out (by decide)
   have hs1 : Below w1.heap.size w1 (v3.setRow gE (uv (a9 :: List.replicate 7 0))) := HSV_v3.out.trans (((Else.setRow _ _ _).below HgE.out).mono (zL _))
   have hs2 : Below w1.heap.size w1 ((v3.setRow gE (uv (a9 :: List.replicate 7 0))).setRow gF f00) := hs1.trans (((Else.setRow _ _ _).below HgF.out).mono (zL _))
   have hge := HGE.out.setRow (uv (a9 :: List.replicate 7 0))
   have hgf := HGF.out.other (Else.setRow v3 gE (uv (a9 :: List.replicate 7 0))) (Ne.symm hne)
   refine wpOU_st (o := ?_) ?hoA3 ?hwA3 31 ?oxA3 ?oyA3 ?hopA3 gE (uv (a9 :: List.replicate 7 0)) ?hxA3 ?hyA3 31 #[.int .u64 0, .int .u64 0, .int .u64 0, .int .u64 0, .int .u64 0, .int .u64 0, .int .u64 0, .int .u64 0] HGE.out (einfo HEW.out) ?holdA3 (uv_one _) hs1 ?hhA3
   case hoA3 => (simp only [zA1, zA2, zA3]; with_reducible rfl)
   case hwA3 => rfl
   case hopA3 => rfl
   case hxA3 => rfl
   case hyA3 => rfl
   case holdA3 => rfl
   (try simp only [Act.put, zA4, zA5, zA6])
   refine wpOU_st (o := ?_) ?hoB3 ?hwB3 113 ?oxB3 ?oyB3 ?hopB3 gF f00 ?hxB3 ?hyB3 113 #[.int .i64 0, .int .i64 0] hgf (by with_unfolding_all rfl) ?holdB3 (by simp [f00, Value.oneCell']) hs2 ?hhB3
   case hoB3 => (simp only [zA1, zA2, zA3]; with_reducible rfl)
   case hwB3 => rfl
   case hopB3 => rfl
   case hxB3 => rfl
   case hyB3 => rfl
   case holdB3 => rfl
   (try simp only [Act.put, zA4, zA5, zA6])
   refine wpOU_done ?_
   have HRE := zh (hge.other (Else.setRow (v3.setRow gE (uv (a9 :: List.replicate 7 0))) gF f00) hne)
   have HRF := zh (hgf.setRow f00)
   have HS9 := zh hs2
   generalize ((v3.setRow gE (uv (a9 :: List.replicate 7 0))).setRow gF f00) = v9 at *
   clear hge hgf hs1 hs2 HGE HGF hne HSV_v0 HSV_v1 HSV_v2 HSV_v3
  case' c1_1_1 =>
   (refine wpOU_solo (zO rfl) ?_)
   intro K hK
   go_simp
   have HSV_v2 := zh (HSV_v1.out.alloc HSV_v1.out.size (.cells #[.int .i64 0, .int .i64 0] 113))
   have HGF := zh (RowAt.new v1 113 #[.int .i64 0, .int .i64 0])
   have HgF : Hid (w1.heap.size ≤ v1.heap.size) := zh HSV_v1.out.size
   refine hK.out _ _ HSV_v2.out ?_
   clear hK K
   (try simp only [Act.put, zA4, zA5, zA6])
   generalize v1.alloc (.cells #[.int .i64 0, .int .i64 0] 113) = v2 at *
   generalize v1.heap.size = gF at *
   (refine wpOU_solo (zO rfl) ?_)
   intro K hK
   go_simp
   have HSV_v3 := zh (HSV_v2.out.alloc HSV_v2.out.size (.cells #[.int .u64 0, .int .u64 0, .int .u64 0, .int .u64 0, .int .u64 0, .int .u64 0, .int .u64 0, .int .u64 0] 31))
   have hGF := HGF.out.alloc (.cells #[.int .u64 0, .int .u64 0, .int .u64 0, .int .u64 0, .int .u64 0, .int .u64 0, .int .u64 0, .int .u64 0] 31)
   clear HGF
   have HGF := zh hGF
   clear hGF
   have HGE := zh (RowAt.new v2 31 #[.int .u64 0, .int .u64 0, .int .u64 0, .int .u64 0, .int .u64 0, .int .u64 0, .int .u64 0, .int .u64 0])
   have HgE : Hid (w1.heap.size ≤ v2.heap.size) := zh HSV_v2.out.size
   refine hK.out _ _ HSV_v3.out ?_
   clear hK K
   (try simp only [Act.put, zA4, zA5, zA6])
   generalize v2.alloc (.cells #[.int .u64 0, .int .u64 0, .int .u64 0, .int .u64 0, .int .u64 0, .int .u64 0, .int .u64 0, .int .u64 0] 31) = v3 at *
   generalize v2.heap.size = gE at *
   have hne : gE ≠ gF := rows_ne HGE.out HGF.out (by decide)
   have hs1 : Below w1.heap.size w1 (v3.setRow gE (uv (a9 :: List.replicate 7 0))) := HSV_v3.out.trans (((Else.setRow _ _ _).below HgE.out).mono (zL _))
   have hs2 : Below w1.heap.size w1 ((v3.setRow gE (uv (a9 :: List.replicate 7 0))).setRow gF f00) := hs1.trans (((Else.setRow _ _ _).below HgF.out).mono (zL _))
   have hge := HGE.out.setRow (uv (a9 :: List.replicate 7 0))
   have hgf := HGF.out.other (Else.setRow v3 gE (uv (a9 :: List.replicate 7 0))) (Ne.symm hne)
   refine wpOU_st (o := ?_) ?hoA4 ?hwA4 31 ?oxA4 ?oyA4 ?hopA4 gE (uv (a9 :: List.replicate 7 0)) ?hxA4 ?hyA4 31 #[.int .u64 0, .int .u64 0, .int .u64 0, .int .u64 0, .int .u64 0, .int .u64 0, .int .u64 0, .int .u64 0] HGE.out (einfo HEW.out) ?holdA4 (uv_one _) hs1 ?hhA4
   case hoA4 => (simp only [zA1, zA2, zA3]; with_reducible rfl)
   case hwA4 => rfl
   case hopA4 => rfl
   case hxA4 => rfl
   case hyA4 => rfl
   case holdA4 => rfl
   (try simp only [Act.put, zA4, zA5, zA6])
   refine wpOU_st (o := ?_) ?hoB4 ?hwB4 113 ?oxB4 ?oyB4 ?hopB4 gF f00 ?hxB4 ?hyB4 113 #[.int .i64 0, .int .i64 0] hgf (by with_unfolding_all rfl) ?holdB4 (by simp [f00, Value.oneCell']) hs2 ?hhB4
   case hoB4 => (simp only [zA1, zA2, zA3]; with_reducible rfl)
   case hwB4 => rfl
   case hopB4 => rfl
   case hxB4 => rfl
   case hyB4 => rfl
   case holdB4 => rfl
   (try simp only [Act.put, zA4, zA5, zA6])
   refine wpOU_done ?_
   have HRE := zh (hge.other (Else.setRow (v3.setRow gE (uv (a9 :: List.replicate 7 0))) gF f00) hne)
   have HRF := zh (hgf.setRow f00)
   have HS9 := zh hs2
   generalize ((v3.setRow gE (uv (a9 :: List.replicate 7 0))).setRow gF f00) = v9 at *
   clear hge hgf hs1 hs2 HGE HGF hne HSV_v0 HSV_v1 HSV_v2 HSV_v3
 case' c0_0_1 =>
  (refine wpOU_solo (zO rfl) ?_)
  intro K hK
  go_simp
  have HSV_v1 := zh (HSV_v0.out.alloc HSV_v0.out.size (.cells #[.int .u64 0, .int .u64 0, .int .u64 0, .int .u64 0, .int .u64 0, .int .u64 0, .int .u64 0, .int .u64 0] 31))
  have HGE := zh (RowAt.new v0 31 #[.int .u64 0, .int .u64 0, .int .u64 0, .int .u64 0, .int .u64 0, .int .u64 0, .int .u64 0, .int .u64 0])
  have HgE : Hid (w1.heap.size ≤ v0.heap.size) := zh HSV_v0.out.size
  refine hK.out _ _ HSV_v1.out ?_
  clear hK K
  (try simp only [Act.put, zA4, zA5, zA6])
  generalize v0.alloc (.cells #[.int .u64 0, .int .u64 0, .int .u64 0, .int .u64 0, .int .u64 0, .int .u64 0, .int .u64 0, .int .u64 0] 31) = v1 at *
  generalize v0.heap.size = gE at *
  refine wpOU_two ?c4_1_0 ?c4_1_1
  case' c4_1_0 =>
   (refine wpOU_solo (zO rfl) ?_)
   intro K hK
   go_simp
   go_at_call 63
   refine (HEL.out v1 (HB1.out.trans (HSV_v1.out.mono HB1.out.size))).mono ?_
   rintro e v2 ⟨rfl, hb⟩
   have HSV_v2 : Hid (Below w1.heap.size w1 v2) := zh (HSV_v1.out.trans (hb.mono HSV_v1.out.size))
   have hGE := HGE.out.below hb HGE.out.lt
   clear HGE
   have HGE := zh hGE
   clear hGE
   refine hK.out _ _ HSV_v2.out ?_
   clear hK K hb
   (try simp only [Act.put, zA4, zA5, zA6])
   iterate 3
       (refine wpOU_step (zO rfl) ?_)
       (first
        | (refine wpOU_skip (by rfl) ?_)
        | (refine wpOU_take (v := ?_) (by rfl) ?_ ?_; rotate_left 1; (intro wx hSx; go_simp; try with_reducible rfl)))
       (try simp only [Act.put, zA4, zA5, zA6])
   (refine wpOU_solo (zO rfl) ?_)
   intro K hK
   go_simp
   have HSV_v3 := zh (HSV_v2.out.alloc HSV_v2.out.size (.cells #[.int .i64 0, .int .i64 0] 113))
   have hGE := HGE.out.alloc (.cells #[.int .i64 0, .int .i64 0] 113)
   clear HGE
   have HGE := zh hGE
   clear hGE
   have HGF := zh (RowAt.new v2 113 #[.int .i64 0, .int .i64 0])
   have HgF : Hid (w1.heap.size ≤ v2.heap.size) := zh HSV_v2.out.size
   refine hK.out _ _ HSV_v3.out ?_
   clear hK K
   (try simp only [Act.put, zA4, zA5, zA6])
   generalize v2.alloc (.cells #[.int .i64 0, .int .i64 0] 113) = v3 at *
   generalize v2.heap.size = gF at *
   have hne : gE ≠ gF := rows_ne HGE.out HGF.out (by decide)
   have hs1 : Below w1.heap.size w1 (v3.setRow gE (uv (a9 :: List.replicate 7 0))) := HSV_v3.out.trans (((Else.setRow _ _ _).below HgE.out).mono (zL _))
   have hs2 : Below w1.heap.size w1 ((v3.setRow gE (uv (a9 :: List.replicate 7 0))).setRow gF f00) := hs1.trans (((Else.setRow _ _ _).below HgF.out).mono (zL _))
   have hge := HGE.out.setRow (uv (a9 :: List.replicate 7 0))
   have hgf := HGF.out.other (Else.setRow v3 gE (uv (a9 :: List.replicate 7 0))) (Ne.symm hne)
   refine wpOU_st (o := ?_) ?hoA6 ?hwA6 31 ?oxA6 ?oyA6 ?hopA6 gE (uv (a9 :: List.replicate 7 0)) ?hxA6 ?hyA6 31 #[.int .u64 0, .int .u64 0, .int .u64 0, .int .u64 0, .int .u64 0, .int .u64 0, .int .u64 0, .int .u64 0] HGE.out (einfo HEW.out) ?holdA6 (uv_one _) hs1 ?hhA6
   case hoA6 => (simp only [zA1, zA2, zA3]; with_reducible rfl)
   case hwA6 => rfl
   case hopA6 => rfl
   case hxA6 => rfl
   case hyA6 => rfl
   case holdA6 => rfl
   (try simp only [Act.put, zA4, zA5, zA6])
   refine wpOU_st (o := ?_) ?hoB6 ?hwB6 113 ?oxB6 ?oyB6 ?hopB6 gF f00 ?hxB6 ?hyB6 113 #[.int .i64 0, .int .i64 0] hgf (by with_unfolding_all rfl) ?holdB6 (by simp [f00, Value.oneCell']) hs2 ?hhB6
   case hoB6 => (simp only [zA1, zA2, zA3]; with_reducible rfl)
   case hwB6 => rfl
   case hopB6 => rfl
   case hxB6 => rfl
   case hyB6 => rfl
   case holdB6 => rfl
   (try simp only [Act.put, zA4, zA5, zA6])
   refine wpOU_done ?_
   have HRE := zh (hge.other (Else.setRow (v3.setRow gE (uv (a9 :: List.replicate 7 0))) gF f00) hne)
   have HRF := zh (hgf.setRow f00)
   have HS9 := zh hs2
   generalize ((v3.setRow gE (uv (a9 :: List.replicate 7 0))).setRow gF f00) = v9 at *
   clear hge hgf hs1 hs2 HGE HGF hne HSV_v0 HSV_v1 HSV_v2 HSV_v3
  case' c4_1_1 =>
   (refine wpOU_solo (zO rfl) ?_)
   intro K hK
   go_simp
   have HSV_v2 := zh (HSV_v1.out.alloc HSV_v1.out.size (.cells #[.int .i64 0, .int .i64 0] 113))
   have hGE := HGE.out.alloc (.cells #[.int .i64 0, .int .i64 0] 113)
   clear HGE
   have HGE := zh hGE
   clear hGE
   have HGF := zh (RowAt.new v1 113 #[.int .i64 0, .int .i64 0])
   have HgF : Hid (w1.heap.size ≤ v1.heap.size) := zh HSV_v1.out.size
   refine hK.out _ _ HSV_v2.out ?_
   clear hK K
   (try simp only [Act.put, zA4, zA5, zA6])
   generalize v1.alloc (.cells #[.int .i64 0, .int .i64 0] 113) = v2 at *
   generalize v1.heap.size = gF at *
   (refine wpOU_solo (zO rfl) ?_)
   intro K hK
   go_simp
   go_at_call 63
   refine (HEL.out v2 (HB1.out.trans (HSV_v2.out.mono HB1.out.size))).mono ?_
   rintro e v3 ⟨rfl, hb⟩
   have HSV_v3 : Hid (Below w1.heap.size w1 v3) := zh (HSV_v2.out.trans (hb.mono HSV_v2.out.size))
   have hGE := HGE.out.below hb HGE.out.lt
   clear HGE
   have HGE := zh hGE
   clear hGE
   have hGF := HGF.out.below hb HGF.out.lt
   clear HGF
   have HGF := zh hGF
   clear hGF
   refine hK.out _ _ HSV_v3.out ?_
   clear hK K hb
   (try simp only [Act.put, zA4, zA5, zA6])
   iterate 3
       (refine wpOU_step (zO rfl) ?_)
       (first
        | (refine wpOU_skip (by rfl) ?_)
        | (refine wpOU_take (v := ?_) (by rfl) ?_ ?_; rotate_left 1; (intro wx hSx; go_simp; try with_reducible rfl)))
       (try simp only [Act.put, zA4, zA5, zA6])
   have hne : gE ≠ gF := rows_ne HGE.out HGF.out (by decide)
   have hs1 : Below w1.heap.size w1 (v3.setRow gE (uv (a9 :: List.replicate 7 0))) := HSV_v3.out.trans (((Else.setRow _ _ _).below HgE.out).mono (zL _))
   have hs2 : Below w1.heap.size w1 ((v3.setRow gE (uv (a9 :: List.replicate 7 0))).setRow gF f00) := hs1.trans (((Else.setRow _ _ _).below HgF.out).mono (zL _))
   have hge := HGE.out.setRow (uv (a9 :: List.replicate 7 0))
   have hgf := HGF.out.other (Else.setRow v3 gE (uv (a9 :: List.replicate 7 0))) (Ne.symm hne)
   refine wpOU_st (o := ?_) ?hoA7 ?hwA7 31 ?oxA7 ?oyA7 ?hopA7 gE (uv (a9 :: List.replicate 7 0)) ?hxA7 ?hyA7 31 #[.int .u64 0, .int .u64 0, .int .u64 0, .int .u64 0, .int .u64 0, .int .u64 0, .int .u64 0, .int .u64 0] HGE.out (einfo HEW.out) ?holdA7 (uv_one _) hs1 ?hhA7
   case hoA7 => (simp only [zA1, zA2, zA3]; with_reducible rfl)
   case hwA7 => rfl
   case hopA7 => rfl
   case hxA7 => rfl
   case hyA7 => rfl
   case holdA7 => rfl
   (try simp only [Act.put, zA4, zA5, zA6])
   refine wpOU_st (o := ?_) ?hoB7 ?hwB7 113 ?oxB7 ?oyB7 ?hopB7 gF f00 ?hxB7 ?hyB7 113 #[.int .i64 0, .int .i64 0] hgf (by with_unfolding_all rfl) ?holdB7 (by simp [f00, Value.oneCell']) hs2 ?hhB7
   case hoB7 => (simp only [zA1, zA2, zA3]; with_reducible rfl)
   case hwB7 => rfl
   case hopB7 => rfl
   case hxB7 => rfl
   case hyB7 => rfl
   case holdB7 => rfl
   (try simp only [Act.put, zA4, zA5, zA6])
   refine wpOU_done ?_
   have HRE := zh (hge.other (Else.setRow (v3.setRow gE (uv (a9 :: List.replicate 7 0))) gF f00) hne)
   have HRF := zh (hgf.setRow f00)
   have HS9 := zh hs2
   generalize ((v3.setRow gE (uv (a9 :: List.replicate 7 0))).setRow gF f00) = v9 at *
   clear hge hgf hs1 hs2 HGE HGF hne HSV_v0 HSV_v1 HSV_v2 HSV_v3
 case' c0_0_2 =>
  (refine wpOU_solo (zO rfl) ?_)
  intro K hK
  go_simp
  have HSV_v1 := zh (HSV_v0.out.alloc HSV_v0.out.size (.cells #[.int .i64 0, .int .i64 0] 113))
  have HGF := zh (RowAt.new v0 113 #[.int .i64 0, .int .i64 0])
  have HgF : Hid (w1.heap.size ≤ v0.heap.size) := zh HSV_v0.out.size
  refine hK.out _ _ HSV_v1.out ?_
  clear hK K
  (try simp only [Act.put, zA4, zA5, zA6])
  generalize v0.alloc (.cells #[.int .i64 0, .int .i64 0] 113) = v1 at *
  generalize v0.heap.size = gF at *
  refine wpOU_two ?c7_1_0 ?c7_1_1
  case' c7_1_0 =>
   (refine wpOU_solo (zO rfl) ?_)
   intro K hK
   go_simp
   go_at_call 63
   refine (HEL.out v1 (HB1.out.trans (HSV_v1.out.mono HB1.out.size))).mono ?_
   rintro e v2 ⟨rfl, hb⟩
   have HSV_v2 : Hid (Below w1.heap.size w1 v2) := zh (HSV_v1.out.trans (hb.mono HSV_v1.out.size))
   have hGF := HGF.out.below hb HGF.out.lt
   clear HGF
   have HGF := zh hGF
   clear hGF
   refine hK.out _ _ HSV_v2.out ?_
   clear hK K hb
   (try simp only [Act.put, zA4, zA5, zA6])
   iterate 3
       (refine wpOU_step (zO rfl) ?_)
       (first
        | (refine wpOU_skip (by rfl) ?_)
        | (refine wpOU_take (v := ?_) (by rfl) ?_ ?_; rotate_left 1; (intro wx hSx; go_simp; try with_reducible rfl)))
       (try simp only [Act.put, zA4, zA5, zA6])
   (refine wpOU_solo (zO rfl) ?_)
   intro K hK
   go_simp
   have HSV_v3 := zh (HSV_v2.out.alloc HSV_v2.out.size (.cells #[.int .u64 0, .int .u64 0, .int .u64 0, .int .u64 0, .int .u64 0, .int .u64 0, .int .u64 0, .int .u64 0] 31))
   have hGF := HGF.out.alloc (.cells #[.int .u64 0, .int .u64 0, .int .u64 0, .int .u64 0, .int .u64 0, .int .u64 0, .int .u64 0, .int .u64 0] 31)
   clear HGF
   have HGF := zh hGF
   clear hGF
   have HGE := zh (RowAt.new v2 31 #[.int .u64 0, .int .u64 0, .int .u64 0, .int .u64 0, .int .u64 0, .int .u64 0, .int .u64 0, .int .u64 0])
   have HgE : Hid (w1.heap.size ≤ v2.heap.size) := zh HSV_v2.out.size
   refine hK.out _ _ HSV_v3.out ?_
   clear hK K
   (try simp only [Act.put, zA4, zA5, zA6])
   generalize v2.alloc (.cells #[.int .u64 0, .int .u64 0, .int .u64 0, .int .u64 0, .int .u64 0, .int .u64 0, .int .u64 0, .int .u64 0] 31) = v3 at *
   generalize v2.heap.size = gE at *
   have hne : gE ≠ gF := rows_ne HGE.out HGF.out (by decide)
   have hs1 : Below w1.heap.size w1 (v3.setRow gE (uv (a9 :: List.replicate 7 0))) := HSV_v3.out.trans (((Else.setRow _ _ _).below HgE.out).mono (zL _))
   have hs2 : Below w1.heap.size w1 ((v3.setRow gE (uv (a9 :: List.replicate 7 0))).setRow gF f00) := hs1.trans (((Else.setRow _ _ _).below HgF.out).mono (zL _))
   have hge := HGE.out.setRow (uv (a9 :: List.replicate 7 0))
   have hgf := HGF.out.other (Else.setRow v3 gE (uv (a9 :: List.replicate 7 0))) (Ne.symm hne)
   refine wpOU_st (o := ?_) ?hoA9 ?hwA9 31 ?oxA9 ?oyA9 ?hopA9 gE (uv (a9 :: List.replicate 7 0)) ?hxA9 ?hyA9 31 #[.int .u64 0, .int .u64 0, .int .u64 0, .int .u64 0, .int .u64 0, .int .u64 0, .int .u64 0, .int .u64 0] HGE.out (einfo HEW.out) ?holdA9 (uv_one _) hs1 ?hhA9
   case hoA9 => (simp only [zA1, zA2, zA3]; with_reducible rfl)
   case hwA9 => rfl
   case hopA9 => rfl
   case hxA9 => rfl
   case hyA9 => rfl
   case holdA9 => rfl
   (try simp only [Act.put, zA4, zA5, zA6])
   refine wpOU_st (o := ?_) ?hoB9 ?hwB9 113 ?oxB9 ?oyB9 ?hopB9 gF f00 ?hxB9 ?hyB9 113 #[.int .i64 0, .int .i64 0] hgf (by with_unfolding_all rfl) ?holdB9 (by simp [f00, Value.oneCell']) hs2 ?hhB9
   case hoB9 => (simp only [zA1, zA2, zA3]; with_reducible rfl)
   case hwB9 => rfl
   case hopB9 => rfl
   case hxB9 => rfl
   case hyB9 => rfl
   case holdB9 => rfl
   (try simp only [Act.put, zA4, zA5, zA6])
   refine wpOU_done ?_
   have HRE := zh (hge.other (Else.setRow (v3.setRow gE (uv (a9 :: List.replicate 7 0))) gF f00) hne)
   have HRF := zh (hgf.setRow f00)
   have HS9 := zh hs2
   generalize ((v3.setRow gE (uv (a9 :: List.replicate 7 0))).setRow gF f00) = v9 at *
   clear hge hgf hs1 hs2 HGE HGF hne HSV_v0 HSV_v1 HSV_v2 HSV_v3
  case' c7_1_1 =>
   (refine wpOU_solo (zO rfl) ?_)
   intro K hK
   go_simp
   have HSV_v2 := zh (HSV_v1.out.alloc HSV_v1.out.size (.cells #[.int .u64 0, .int .u64 0, .int .u64 0, .int .u64 0, .int .u64 0, .int .u64 0, .int .u64 0, .int .u64 0] 31))
   have hGF := HGF.out.alloc (.cells #[.int .u64 0, .int .u64 0, .int .u64 0, .int .u64 0, .int .u64 0, .int .u64 0, .int .u64 0, .int .u64 0] 31)
   clear HGF
   have HGF := zh hGF
   clear hGF
   have HGE := zh (RowAt.new v1 31 #[.int .u64 0, .int .u64 0, .int .u64 0, .int .u64 0, .int .u64 0, .int .u64 0, .int .u64 0, .int .u64 0])
   have HgE : Hid (w1.heap.size ≤ v1.heap.size) := zh HSV_v1.out.size
   refine hK.out _ _ HSV_v2.out ?_
   clear hK K
   (try simp only [Act.put, zA4, zA5, zA6])
   generalize v1.alloc (.cells #[.int .u64 0, .int .u64 0, .int .u64 0, .int .u64 0, .int .u64 0, .int .u64 0, .int .u64 0, .int .u64 0] 31) = v2 at *
   generalize v1.heap.size = gE at *
   (refine wpOU_solo (zO rfl) ?_)
   intro K hK
   go_simp
   go_at_call 63
   refine (HEL.out v2 (HB1.out.trans (HSV_v2.out.mono HB1.out.size))).mono ?_
   rintro e v3 ⟨rfl, hb⟩
   have HSV_v3 : Hid (Below w1.heap.size w1 v3) := zh (HSV_v2.out.trans (hb.mono HSV_v2.out.size))
   have hGE := HGE.out.below hb HGE.out.lt
   clear HGE
   have HGE := zh hGE
   clear hGE
   have hGF := HGF.out.below hb HGF.out.lt
   clear HGF
   have HGF := zh hGF
   clear hGF
   refine hK.out _ _ HSV_v3.out ?_
   clear hK K hb
   (try simp only [Act.put, zA4, zA5, zA6])
   iterate 3
       (refine wpOU_step (zO rfl) ?_)
       (first
        | (refine wpOU_skip (by rfl) ?_)
        | (refine wpOU_take (v := ?_) (by rfl) ?_ ?_; rotate_left 1; (intro wx hSx; go_simp; try with_reducible rfl)))
       (try simp only [Act.put, zA4, zA5, zA6])
   have hne : gE ≠ gF := rows_ne HGE.out HGF.out (by decide)
   have hs1 : Below w1.heap.size w1 (v3.setRow gE (uv (a9 :: List.replicate 7 0))) := HSV_v3.out.trans (((Else.setRow _ _ _).below HgE.out).mono (zL _))
   have hs2 : Below w1.heap.size w1 ((v3.setRow gE (uv (a9 :: List.replicate 7 0))).setRow gF f00) := hs1.trans (((Else.setRow _ _ _).below HgF.out).mono (zL _))
   have hge := HGE.out.setRow (uv (a9 :: List.replicate 7 0))
   have hgf := HGF.out.other (Else.setRow v3 gE (uv (a9 :: List.replicate 7 0))) (Ne.symm hne)
   refine wpOU_st (o := ?_) ?hoA10 ?hwA10 31 ?oxA10 ?oyA10 ?hopA10 gE (uv (a9 :: List.replicate 7 0)) ?hxA10 ?hyA10 31 #[.int .u64 0, .int .u64 0, .int .u64 0, .int .u64 0, .int .u64 0, .int .u64 0, .int .u64 0, .int .u64 0] HGE.out (einfo HEW.out) ?holdA10 (uv_one _) hs1 ?hhA10
   case hoA10 => (simp only [zA1, zA2, zA3]; with_reducible rfl)
   case hwA10 => rfl
   case hopA10 => rfl
   case hxA10 => rfl
   case hyA10 => rfl
   case holdA10 => rfl
   (try simp only [Act.put, zA4, zA5, zA6])
   refine wpOU_st (o := ?_) ?hoB10 ?hwB10 113 ?oxB10 ?oyB10 ?hopB10 gF f00 ?hxB10 ?hyB10 113 #[.int .i64 0, .int .i64 0] hgf (by with_unfolding_all rfl) ?holdB10 (by simp [f00, Value.oneCell']) hs2 ?hhB10
   case hoB10 => (simp only [zA1, zA2, zA3]; with_reducible rfl)
   case hwB10 => rfl
   case hopB10 => rfl
   case hxB10 => rfl
   case hyB10 => rfl
   case holdB10 => rfl
   (try simp only [Act.put, zA4, zA5, zA6])
   refine wpOU_done ?_
   have HRE := zh (hge.other (Else.setRow (v3.setRow gE (uv (a9 :: List.replicate 7 0))) gF f00) hne)
   have HRF := zh (hgf.setRow f00)
   have HS9 := zh hs2
   generalize ((v3.setRow gE (uv (a9 :: List.replicate 7 0))).setRow gF f00) = v9 at *
   clear hge hgf hs1 hs2 HGE HGF hne HSV_v0 HSV_v1 HSV_v2 HSV_v3
 all_goals
  have HB9 := zh (HB1.out.trans (HS9.out.mono HB1.out.size))
  have HR29 := zh (HR2.out.below HS9.out HR2.out.lt)
  obtain ⟨m0, m1, _, _⟩ := rw2 (show RowAt v9 gF 113 #[.int .i64 0, .int .i64 0] from HRF.out)
  clear HEL
  have hx := HX.out
  subst hx
  have HGN : Hid (gE ≠ w.heap.size + 2 ∧ gF ≠ w.heap.size + 2) := zh (by have h1 := HgE.out; have h2 := HgF.out; have h3 := HLT.out; omega)
  have hS0 : RowAt v9.drew gE 31 #[.int .u64 (a9 : Int), .int .u64 0, .int .u64 0, .int .u64 0, .int .u64 0, .int .u64 0, .int .u64 0, .int .u64 0] ∧ RowAt v9.drew gF 113 f00 := ⟨HRE.out.drew, HRF.out.drew⟩
  have hr0 := HR29.out.drew
  have hb0 : Below w.heap.size w v9.drew := HB9.out.drew
  have D0 : ∀ W, (RowAt W gE 31 #[.int .u64 (a9 : Int), .int .u64 0, .int .u64 0, .int .u64 0, .int .u64 0, .int .u64 0, .int .u64 0, .int .u64 0] ∧ RowAt W gF 113 f00) → W.cell? ⟨gF, 0, none⟩ = some (.int .i64 0) := fun W h => (RowAt.cell h.2 0).trans rfl
  have hew := HEW.out
  have hinf : (Tryz.prog.info? 31).map (·.size) = some (#[.int .u64 (a9 : Int), .int .u64 0, .int .u64 0, .int .u64 0, .int .u64 0, .int .u64 0, .int .u64 0, .int .u64 0] : Array Value).size := einfo hew
  have hinfI : (Tryz.prog.info? 60).map (·.size) = some (#[.int .i64 2, .int .i64 0, .int .u64 (a9 : Int), .int .u64 0, .int .u64 0, .int .u64 0, .int .u64 0, .int .u64 0, .int .u64 0, .int .u64 0] : Array Value).size := infoIns ⟨2, 0, ⟨a9 :: List.replicate 7 0, hew⟩⟩
  clear m0 m1
  go_upto_region 6 with fail
  refine wp_region_ou (fun V => RowAt V gE 31 #[.int .u64 (a9 : Int), .int .u64 0, .int .u64 0, .int .u64 0, .int .u64 0, .int .u64 0, .int .u64 0, .int .u64 0] ∧ RowAt V gF 113 f00) (.take 0 (.take 1 (.take 2 (.take 3 (.take 4 (.solo 5 (.take 6 .nil))))))) (by kernel_rfl) (by kernel_rfl) rfl (by kernel_rfl) hS0 ?_
  generalize v9.drew = va at hS0 hr0 hb0 ⊢
  iterate 1
   (refine wpOU_step (zO rfl) ?_)
   (first
    | (refine wpOU_skip (by rfl) ?_)
    | (refine wpOU_take (by rfl) (take_row _ _ rfl gE rfl _ _ _ (fun W h => h.1) Tryz.underlying31 rfl hinf) ?_)
    | (refine wpOU_take (v := ?_) (by rfl) ?_ ?_; rotate_left 1; (intro wx hSx; have hc_0 := D0 wx hSx; go_simp; try with_reducible rfl)))
   (try simp only [Act.put, zA4, zA5, zA6])
  iterate 4
   (refine wpOU_step (zO rfl) ?_)
   (first
    | (refine wpOU_skip (by rfl) ?_)
    | (refine wpOU_take (v := ?_) (by rfl) ?_ ?_; rotate_left 1; (intro wx hSx; have hc_0 := D0 wx hSx; go_simp; try with_reducible rfl)))
   (try simp only [Act.put, zA4, zA5, zA6])
  have hsR : RowAt (va.setRow (w.heap.size + 2) #[.int .i64 2, .int .i64 0, .int .u64 (a9 : Int), .int .u64 0, .int .u64 0, .int .u64 0, .int .u64 0, .int .u64 0, .int .u64 0, .int .u64 0]) gE 31 #[.int .u64 (a9 : Int), .int .u64 0, .int .u64 0, .int .u64 0, .int .u64 0, .int .u64 0, .int .u64 0, .int .u64 0] ∧ RowAt (va.setRow (w.heap.size + 2) #[.int .i64 2, .int .i64 0, .int .u64 (a9 : Int), .int .u64 0, .int .u64 0, .int .u64 0, .int .u64 0, .int .u64 0, .int .u64 0, .int .u64 0]) gF 113 f00 := ⟨hS0.1.other (Else.setRow _ _ _) HGN.out.1, hS0.2.other (Else.setRow _ _ _) HGN.out.2⟩
  have hb9 : Below w.heap.size w (va.setRow (w.heap.size + 2) #[.int .i64 2, .int .i64 0, .int .u64 (a9 : Int), .int .u64 0, .int .u64 0, .int .u64 0, .int .u64 0, .int .u64 0, .int .u64 0, .int .u64 0]) := hb0.trans ((Else.setRow _ _ _).below (by omega))
  refine wpOU_solo (by first | rfl | (simp only [zA1, zA2, zA3]; with_reducible rfl)) fun K hK => ?_
  rw [if_pos (by rfl)]
  refine wp_store_row 60 _ _ rfl (w.heap.size + 2) #[.int .i64 2, .int .i64 0, .int .u64 (a9 : Int), .int .u64 0, .int .u64 0, .int .u64 0, .int .u64 0, .int .u64 0, .int .u64 0, .int .u64 0] rfl rfl 60 (insC in0).toArray hr0 hinfI rfl (by simp [Value.oneCell']) (hK.out _ _ hsR ?_)
  clear hK K
  (try simp only [Act.put, zA4, zA5, zA6])
  iterate 1
   (refine wpOU_step (zO rfl) ?_)
   (first
    | (refine wpOU_skip (by rfl) ?_)
    | (refine wpOU_take (v := ?_) (by rfl) ?_ ?_; rotate_left 1; (intro wx hSx; go_simp; try with_reducible rfl)))
   (try simp only [Act.put, zA4, zA5, zA6])
  refine wpOU_done ?_
  go_wp2_with fail
  exact bodyPost_ret (ret2 rfl _ _ (w.heap.size + 2) _ #[.int .i64 2, .int .i64 0, .int .u64 (a9 : Int), .int .u64 0, .int .u64 0, .int .u64 0, .int .u64 0, .int .u64 0, .int .u64 0, .int .u64 0] (0, 0) _ (.bool true) rfl rfl (hr0.setRow _) Tryz.underlying60 rfl hinfI) rfl (HQ.out _ _ ⟨rfl, hb9⟩)
end
section
open Go.RowKit Go.Maps RM
section
variable {b nb M : Nat} {w W W2 : World}
end
theorem compile_ex (LA : Option Addr) (lc : Nat) (nm : ByteArray) (SA : Option Addr) (sc : Nat) (f : Fac) (VA : Option Addr) (vc : Nat) (x : ByteArray) (hk : f.kind = 1) (hv : facB f = true) (s : ByteArray) (hs : NM.right s = true) (j : Nat) (hj : idx f.names s = (j : Int)) (hn : f.names.length ≤ 64) (ha64 : RG.wR f.names.length j < 18446744073709551616)
 (hxr : NM.right x = true) (hxs : x.size ≤ 1000) (hss : s.size ≤ 1000) (hne : (⟨(35 :: s.data.toList).toArray⟩ : ByteArray) ≠ x)
 (B g : Nat) (w : World) (hT : Tab w) (hS : ScOk w (scOne LA lc nm ⟨false, SA, sc, [f]⟩ VA vc x)) (hF : Facs w SA [f]) (hg : g < w.heap.size) (hy : w.rangeAt g 0 (ntC (leafN 2 s))) (hB : B < w.heap.size) (hA : w.rangeAt B 0 (ntC (leafN 1 x) ++ ntC (kidsN 7 (some ⟨g, 0, none⟩) 1))) :
 Calls Tryz.prog 13 #[.agg (scv (scOne LA lc nm ⟨false, SA, sc, [f]⟩ VA vc x)), .int .i64 0, .agg (ntC (kidsN 8 (some ⟨B, 0, none⟩) 2)).toArray] w fun e w' => ∃ A' c', e = .returned (.tuple #[.slice A' 3 c', .bool true]) ∧
  w'.ownsRow w.heap.size 60 10 (.slice A' 3 c') 3 (insC ⟨1, 0, ⟨List.replicate 8 0, EW.zeros⟩⟩ ++ insC ⟨2, 0, ⟨RG.wR f.names.length j :: List.replicate 7 0, ew_one ha64⟩⟩ ++ insC ⟨3, 2, ⟨List.replicate 8 0, EW.zeros⟩⟩) ∧ Below w.heap.size w w' := by
 obtain ⟨r0, r1, hb⟩ := two_rows w (scv (scOne LA lc nm ⟨false, SA, sc, [f]⟩ VA vc x)) (ntC (kidsN 8 (some ⟨B, 0, none⟩) 2)).toArray 52 56
 have HTX1 := zh fun W => text_leaf 1 (.inl rfl) x hxs W
 have HNY : Hid (∀ W, Below w.heap.size w W → W.rangeAt g 0 (ntC (leafN 2 s))) := fun W h => fun j u hu => (h.cell (p := ⟨g, 0 + j, none⟩) hg).trans (hy j u hu)
 have HNA : Hid (∀ W, Below w.heap.size w W → W.rangeAt B 0 (ntC (leafN 1 x) ++ ntC (kidsN 7 (some ⟨g, 0, none⟩) 1))) := fun W h => fun j u hu => (h.cell (p := ⟨B, 0 + j, none⟩) hB).trans (hA j u hu)
 have HTX2 : Hid (∀ W, Below w.heap.size w W → Calls Tryz.prog 36 #[.agg (ntC (kidsN 7 (some ⟨g, 0, none⟩) 1)).toArray] W fun e w' => e = .returned (.string ⟨(35 :: s.data.toList).toArray⟩) ∧ Below W.heap.size W w') := fun W h => text_const g s hss W (zT hg h.size) (HNY.out W h)
 have HP1 : Hid (∀ W, Below w.heap.size w W → _) := fun W h => pushing_var LA lc nm ⟨false, SA, sc, [f]⟩ VA vc x W (hS.below h)
 have HP2 : Hid (∀ W, Below w.heap.size w W → _) := fun W h => pushing_const LA lc nm SA sc f VA vc x hk hv s hs j hj hn ha64 g W (hT.below h) (hS.below h) (hF.below h) (zT hg h.size) (HNY.out W h)
 have HLB : Hid (∀ W, Below w.heap.size w W → Calls Tryz.prog 24 #[.agg (ntC (kidsN 8 (some ⟨B, 0, none⟩) 2)).toArray] W fun e w' => e = .returned (.bool true) ∧ Below W.heap.size W w') := fun W h =>
  label_join (some ⟨B, 0, none⟩) (leafN 1 x) (kidsN 7 (some ⟨g, 0, none⟩) 1) W (fun _ => ⟨B, 0, rfl, zT hB h.size, fun jj u hu => HNA.out W h jj u (by simpa using hu)⟩) (fun W2 _ => label_var x hxr W2) (fun W2 h2 => label_const g (leafN 2 s) W2 (zT hg (zM h.size h2.size)) (HNY.out W2 (h.trans (h2.mono h.size))) (fun W3 _ => const_point s hs W3))
 have HI2 : Hid ((⟨2, 0, ⟨RG.wR f.names.length j :: List.replicate 7 0, ew_one ha64⟩⟩ : In) = ⟨2, 0, ⟨RG.wR f.names.length j :: List.replicate 7 0, ew_one ha64⟩⟩) := rfl
 have HNE := zh hne
 have HBlt := zh hB
 clear hT hS hF hg hy hB hA hk hv hj hn hs hne HI2
 generalize (⟨2, 0, ⟨RG.wR f.names.length j :: List.replicate 7 0, ew_one ha64⟩⟩ : In) = i2 at *
 refine cHid fun Q' hQ => ?_
 have HQ := zh hQ; clear hQ
 go_enter Tryz.func13, Tryz.ntmps13
 go_upto_region 1 with fail
 change Code.wp _ _ _ _ ((w.alloc (.cells (scv (scOne LA lc nm ⟨false, SA, sc, [f]⟩ VA vc x)) 52)).alloc (.cells (ntC (kidsN 8 (some ⟨B, 0, none⟩) 2)).toArray 56))
 generalize (w.alloc (.cells (scv (scOne LA lc nm ⟨false, SA, sc, [f]⟩ VA vc x)) 52)).alloc (.cells (ntC (kidsN 8 (some ⟨B, 0, none⟩) 2)).toArray 56) = w1 at *
 have HB1 := zh hb
 have HR0 := zh r0
 have HR1 := zh r1
 clear hb r0 r1
 obtain ⟨n0, n1, n2, n3, n4⟩ := nt_row HR1.out
 unfold kidsN at n0 n1 n2 n3 n4
 dsimp only at n0 n1 n2 n3 n4
 obtain ⟨s0, s1, _, _⟩ := rw2 (show RowAt w1 w.heap.size 52 #[.slice LA 1 lc, .slice VA 1 vc] from HR0.out)
 go_step3
 go_upto_region 3 with (go_at_call 24; refine (HLB.out w1 HB1.out).mono ?_; rintro e w2 ⟨rfl, hb2⟩; have HB2 := zh hb2; clear hb2)
 have HB02 := zh (HB1.out.trans (HB2.out.mono HB1.out.size))
 have HPU := zh (pusher_any (scOne LA lc nm ⟨false, SA, sc, [f]⟩ VA vc x) 0 w2)
 have hs2 := HR0.out.below HB2.out HR0.out.lt
 clear n0 n1 n2 n3 n4 s0 s1
 obtain ⟨s0, s1, _, _⟩ := rw2 (show RowAt w2 w.heap.size 52 #[.slice LA 1 lc, .slice VA 1 vc] from hs2)
 go_upto_region 4 with (go_at_call 25; refine HPU.out.mono ?_; rintro e w3 ⟨K, S, L, M, rfl, hK, hS, hL, hM, hMg, hb3⟩; have HKK := zh hK; have HSS := zh hS; have HLL := zh hL; have HMM := zh hM; have HMG := zh hMg; have HB3 := zh hb3; clear hK hS hL hM hMg hb3)
 clear s0 s1 hs2 HPU
 have HB03 := zh (HB02.out.trans (HB3.out.mono HB02.out.size))
 have HB13 := zh (HB2.out.trans (HB3.out.mono HB2.out.size))
 have HR3 := zh (HR1.out.below HB13.out HR1.out.lt)
 obtain ⟨n0, n1, n2, n3, n4⟩ := nt_row HR3.out
 unfold kidsN at n0 n1 n2 n3 n4
 dsimp only at n0 n1 n2 n3 n4
 go_wp2_with fail
 go_step3
 go_wp2_with fail
 refine wp_loop_rounds 3 ?_
 rw [rounds_succ]
 have HO8 := zh (opOf_any 8 3 (.inl ⟨rfl, rfl⟩) w3)
 go_upto_region 8 with (go_at_call 26; refine HO8.out.mono ?_; rintro e w' ⟨rfl, rfl⟩)
 have K0 : ∀ W, Below w3.heap.size w3 W → W.cell? ⟨w.heap.size + 1, 4, none⟩ = some (.slice (some ⟨B, 0, none⟩) 2 2) := fun W hW => (nt_row (HR3.out.below hW HR3.out.lt)).2.2.2.2
 have HS0 : Hid (Below w3.heap.size w3 w3.drew) := zh (zB _ _).drew
 clear n0 n1 n2 n3 n4
 refine wp_region_ou (fun V => Below w3.heap.size w3 V) ((.take 0 (.take 1 (.take 2 (.take 3 (.take 4 (.take 5 (.take 6 (.take 7 (.take 8 (.take 9 (.solo 10 (.solo 11 (.take 12 .nil)))))))))))))) (by kernel_rfl) (by kernel_rfl) rfl (by kernel_rfl) HS0.out ?_
 generalize w3.drew = v3 at HS0 ⊢
 iterate 10
  (refine wpOU_step (zO rfl) ?_)
  (first
        | (refine wpOU_skip (by rfl) ?_)
        | (refine wpOU_take (v := ?_) (by rfl) ?_ ?_; rotate_left 1; (intro wx hSx; have hc_0 := K0 wx hSx; go_simp; try with_reducible rfl)))
  (try simp only [Act.put, zA4, zA5, zA6])
 clear K0
 refine wpOU_solo (by first | rfl | (simp only [zA1, zA2, zA3]; with_reducible rfl)) fun K hK => ?_
 rw [if_pos (by rfl)]
 have HS1 : Hid (Below w3.heap.size w3 (v3.alloc (.cells (pendC 3 2 (some ⟨B, 5, none⟩) 1 1).toArray 75))) := zh (HS0.out.alloc HS0.out.size _)
 refine wp_oneR (by decide) infoPend2 Tryz.underlying72 _ rfl (pendC 3 2 (some ⟨B, 5, none⟩) 1 1).toArray rfl rfl (hK.out _ _ HS1.out ?_)
 clear hK K
 have HN4 := zh (RowAt.new v3 75 (pendC 3 2 (some ⟨B, 5, none⟩) 1 1).toArray)
 generalize v3.alloc (.cells (pendC 3 2 (some ⟨B, 5, none⟩) 1 1).toArray 75) = w4 at *
 generalize v3.heap.size = g3 at *
 (try simp only [Act.put, zA4, zA5, zA6])
 refine wpOU_solo (by first | rfl | (simp only [zA1, zA2, zA3]; with_reducible rfl)) fun K hK => ?_
 rw [if_pos (by rfl)]
 refine wp_moreT _ _ _ 72 rfl 75 pendZ 11 104 Tryz.underlying72 infoPendZ rfl (by decide) w3.heap.size none 0 0 [] rfl (World.ownsRow_nil _ _ _ _) g3 (pendC 3 2 (some ⟨B, 5, none⟩) 1 1) rfl rfl (fun jj u hu => (HN4.out.cell jj).trans (by simpa using hu)) (by simp [pendC, insC, ucells, Value.oneCell']) (by decide) (by decide) HS1.out.size ?_
 intro OA oc w5 hown hb5 _ _
 have HOP := zh hown
 have HS5 := zh (HS1.out.trans hb5)
 refine hK.out _ _ HS5.out ?_
 clear hK K hown hb5
 (try simp only [Act.put, zA4, zA5, zA6])
 iterate 1
  (refine wpOU_step (zO rfl) ?_)
  (first
        | (refine wpOU_skip (by rfl) ?_)
        | (refine wpOU_take (v := ?_) (by rfl) ?_ ?_; rotate_left 1; (intro wx hSx; go_simp; try with_reducible rfl)))
  (try simp only [Act.put, zA4, zA5, zA6])
 refine wpOU_done ?_
 have HBN : Hid (RowAt w5 (w.heap.size + 1) 56 (ntC (kidsN 8 (some ⟨B, 0, none⟩) 2)).toArray) := zh (HR3.out.below HS5.out HR3.out.lt)
 obtain ⟨n0, n1, n2, n3, n4⟩ := nt_row HBN.out
 unfold kidsN at n0 n1 n2 n3 n4
 dsimp only at n0 n1 n2 n3 n4
 have hal := HNA.out w5 (HB03.out.trans (HS5.out.mono HB03.out.size))
 have y0 : w5.cell? ⟨B, 0, none⟩ = some (.int .i64 1) := hal 0 _ rfl
 have y1 : w5.cell? ⟨B, 1, none⟩ = some (.int .i64 0) := hal 1 _ rfl
 have y2 : w5.cell? ⟨B, 2, none⟩ = some (.string x) := hal 2 _ rfl
 have y3 : w5.cell? ⟨B, 3, none⟩ = some (.slice none 0 0) := hal 3 _ rfl
 have y4 : w5.cell? ⟨B, 4, none⟩ = some (.slice none 0 0) := hal 4 _ rfl
 clear hal
 have HKN : Hid (K ≠ w.heap.size + 1) := zh (rows_ne HKK.out HR3.out (by simp [ntC]))
 have HSN : Hid (S ≠ w.heap.size + 1) := zh (rows_ne HSS.out HR3.out (by simp [ntC, scv]))
 have HLN : Hid (L ≠ w.heap.size + 1) := zh (rows_ne HLL.out HR3.out (by simp [ntC]))
 have HKM := zh (row_ne_map HKK.out HMM.out)
 have HSM := zh (row_ne_map HSS.out HMM.out)
 have HLM := zh (row_ne_map HLL.out HMM.out)
 have HNM := zh (row_ne_map HR3.out HMM.out)
 have HLT3 := zh HR3.out.lt
 go_upto_region 10 with (refine wpList_stRow (by rfl) _ _ _ rfl (w.heap.size + 1) (ntC (leafN 1 x)).toArray rfl rfl _ _ HBN.out (by kernel_rfl) rfl (by simp [ntC, Value.oneCell']) ?_; intro w6 r6 he; have HN6 := zh r6; have HE6 := zh he; clear r6 he)
 have HFR6 : Hid (Fr w.heap.size (w.heap.size + 1) M w3 w6) := zh ((Fr.new HB03.out.size HS5.out).node (by omega) HE6.out)
 have HOP6 := zh (own_else HOP.out HE6.out HLT3.out)
 have HM6 : Hid (IMap w6 M 0 []) := zh ((HMM.out.below HS5.out HMM.out.lt).same (HE6.out.block M (Ne.symm HNM.out)))
 have HMlt := zh HMM.out.lt
 clear HN4 HOP HBN HE6 HS1 HS0 HS5 HO8
 rw [rounds_succ]
 obtain ⟨n0, n1, n2, n3, n4⟩ := nt_row HN6.out
 have HO1 := zh (opOf_any 1 0 (.inr (.inr ⟨by decide, by decide, rfl⟩)) w6)
 have HPC1 : Hid (∀ W, Below w6.heap.size w6 W → Calls Tryz.prog 35 #[.agg (ntC (leafN 1 x)).toArray, .pointer (some ⟨K, 0, none⟩), .pointer (some ⟨S, 0, none⟩), .pointer (some ⟨L, 0, none⟩)] W fun e w' => e = .returned (.tuple #[.agg (insC ⟨1, 0, ⟨List.replicate 8 0, EW.zeros⟩⟩).toArray, .bool true]) ∧ IMap w' M 1 [x] ∧ Mq M W w') := zh fun W hW => by
  have hf := HFR6.out.below HB03.out.size HFR6.out.low.size hW
  have h03 := HB03.out.trans hf.low
  exact pusher1_any _ 0 (leafN 1 x) x (by have : (1000 : Nat) ≤ maxLen := by decide
                                          omega) _ K S L M 0 [] (by simp) (by decide) W (hf.row HKK.out HKM.out HKN.out) (hf.row HSS.out HSM.out HSN.out) (hf.row HLL.out HLM.out HLN.out) (HM6.out.below hW HM6.out.lt) (fun W2 _ => HTX1.out W2) (fun W2 h2 => HP1.out W2 (h03.trans (h2.mono h03.size)))
 go_upto_region 10 with (go_at_call 26; refine HO1.out.mono ?_; rintro e w' ⟨rfl, rfl⟩)
 have hcf1 : ∀ args w, (callFunc 35 args).run Tryz.prog w = .ok (.enter 35 args) w := fun _ _ => by kernel_rfl
 go_upto_region 13 with (first
  | (go_at_call 35; refine (HPC1.out w6 (zB _ _)).mono ?_; rintro e w7 ⟨rfl, him, hmq⟩; have HIM7 := zh him; have HMQ7 := zh hmq; clear him hmq n0 n1 n2 n3 n4)
  | (refine wpList_stRow (by rfl) _ _ _ rfl w7.heap.size (insC ⟨1, 0, ⟨List.replicate 8 0, EW.zeros⟩⟩).toArray rfl rfl _ _ (RowAt.new _ _ _) (infoIns _) (by rw [insC_size]; with_unfolding_all rfl) (insC_one _) ?_; intro w8 r8 he; have HI8 := zh r8; have HB8 : Hid (Below w7.heap.size w7 w8) := zh (((zB _ _).alloc (zL _) _).trans (he.below (zL _))); clear r8 he))
 have HB0M : Hid (w.heap.size ≤ M) := zh (zM HB02.out.size HMG.out)
 have HFR7 := zh (HFR6.out.map HB0M.out HMQ7.out)
 have HFR8 := zh (HFR7.out.below HB03.out.size HFR7.out.low.size HB8.out)
 have HOP8 := zh (own_below (own_mq HOP6.out HMQ7.out HMlt.out) HB8.out (zL _))
 have HN7 := zh (HMQ7.out.row HN6.out HNM.out)
 have HN8 := zh (HN7.out.below HB8.out HN7.out.lt)
 have HIM8 := zh (HIM7.out.below HB8.out HIM7.out.lt)
 generalize w7.heap.size = g7 at *
 clear HB8 HIM7 HMQ7 HN7 HFR7 HOP6 HN6 HFR6 HM6 HPC1 HO1 hcf1
 obtain ⟨gO, hOA, hOlo, hOlt, _⟩ := own_at8 HOP8.out (by decide)
 subst hOA
 have HOLO := zh hOlo
 clear hOlo
 go_upto_region 14 with (first
  | (refine wpList_loadS (by rfl) _ _ rfl g7 rfl _ _ _ HI8.out Tryz.underlying60 rfl (infoIns _) ?_)
  | (refine wpList_oneR (by decide) infoIns2 Tryz.underlying25 rfl _ rfl (insC ⟨1, 0, ⟨List.replicate 8 0, EW.zeros⟩⟩).toArray (insC_size _) rfl ?_; intro w9 r9 hb9; have HI9 := zh r9; have HB9 := zh hb9; clear r9 hb9)
  | (at_builtin; refine wpList_moreS _ rfl _ _ 25 rfl 60 insZ 10 80 Tryz.underlying25 infoInsZ rfl (by decide) w8.heap.size none 0 0 [] rfl (World.ownsRow_nil _ _ _ _) w8.heap.size (insC ⟨1, 0, ⟨List.replicate 8 0, EW.zeros⟩⟩) rfl (insC_len _) (fun jj u hu => (HI9.out.cell jj).trans (by simpa using hu)) (by simp [insC, ucells, Value.oneCell']) (by decide) (by decide) HB9.out.size ?_; intro LA' lc' w10 hown hb10 _ _; have HL10 := zh hown; have HB10 := zh (HB9.out.trans hb10); clear hown hb10))
 have HFR10 := zh (HFR8.out.below HB03.out.size HFR8.out.low.size HB10.out)
 have HOP10 := zh (own_below HOP8.out HB10.out (zL _))
 have HN10 := zh (HN8.out.below HB10.out HN8.out.lt)
 have HIM10 := zh (HIM8.out.below HB10.out HIM8.out.lt)
 have HM8 : Hid (M < w8.heap.size) := zh HIM8.out.lt
 have HN8lt : Hid (w.heap.size + 1 < w8.heap.size) := zh HN8.out.lt
 have HO8lt := zh hOlt
 clear hOlt HI9 HB9 HB10 HI8 HFR8 HOP8 HN8 HIM8
 generalize w8.heap.size = b8 at *
 have o10 : w10.cell? ⟨gO, 10, none⟩ = some (.slice (some ⟨B, 5, none⟩) 1 1) := ownS_at HOP10.out (j := 10) rfl
 refine wp_loop_rounds 1 ?_
 rw [rounds_succ]
 go_upto_region 17 with fail
 go_cut [92] from 79 to 92 (fun _ wx => Hid (Fr w.heap.size (w.heap.size + 1) M w3 wx) ∧ Hid (wx.ownsRow w3.heap.size 75 11 (.slice (some ⟨gO, 0, none⟩) 1 oc) 1 (pendC 3 2 (some ⟨B, 5, none⟩) 0 0)) ∧ Hid (RowAt wx (w.heap.size + 1) 56 (ntC (kidsN 7 (some ⟨g, 0, none⟩) 1)).toArray) ∧ Hid (wx.ownsRow b8 60 10 (.slice LA' 1 lc') 1 (insC ⟨1, 0, ⟨List.replicate 8 0, EW.zeros⟩⟩)) ∧ Hid (IMap wx M 1 [x]))
 case first =>
  have hdr : Below w10.heap.size w10 w10.drew := (zB _ _).drew
  have HFRu0 := zh (HFR10.out.below HB03.out.size HFR10.out.low.size hdr)
  have HOPu0 := zh (own_below HOP10.out hdr (zL _))
  have HNu0 := zh (HN10.out.below hdr HN10.out.lt)
  have HLu0 := zh (own_below HL10.out hdr (zL _))
  have HIMu0 := zh (HIM10.out.below hdr HIM10.out.lt)
  have HSu0 : Hid (w10.drew.rangeAt B 5 (ntC (kidsN 7 (some ⟨g, 0, none⟩) 1))) := zh fun j u hu => by
   have := HNA.out w10.drew (HB03.out.trans HFRu0.out.low) (5 + j) u (by rw [List.getElem?_append_right (by simp [ntC])]; simpa [ntC] using hu)
   rwa [Nat.zero_add] at this
  have K5 : ∀ W, World.rangeAt W B 5 (ntC (kidsN 7 (some ⟨g, 0, none⟩) 1)) → W.cell? ⟨B, 5, none⟩ = some (.int .i64 7) := fun W h => h 0 _ rfl
  have K6 : ∀ W, World.rangeAt W B 5 (ntC (kidsN 7 (some ⟨g, 0, none⟩) 1)) → W.cell? ⟨B, 6, none⟩ = some (.int .i64 0) := fun W h => h 1 _ rfl
  have K7 : ∀ W, World.rangeAt W B 5 (ntC (kidsN 7 (some ⟨g, 0, none⟩) 1)) → W.cell? ⟨B, 7, none⟩ = some (.string ⟨#[]⟩) := fun W h => h 2 _ rfl
  have K8 : ∀ W, World.rangeAt W B 5 (ntC (kidsN 7 (some ⟨g, 0, none⟩) 1)) → W.cell? ⟨B, 8, none⟩ = some (.slice none 0 0) := fun W h => h 3 _ rfl
  have K9 : ∀ W, World.rangeAt W B 5 (ntC (kidsN 7 (some ⟨g, 0, none⟩) 1)) → W.cell? ⟨B, 9, none⟩ = some (.slice (some ⟨g, 0, none⟩) 1 1) := fun W h => h 4 _ rfl
  clear o10 hdr HFR10 HOP10 HN10 HL10 HIM10
  refine wp_region_ou (fun W => World.rangeAt W B 5 (ntC (kidsN 7 (some ⟨g, 0, none⟩) 1))) ((.take 0 (.take 1 (.take 2 (.take 3 (.take 7 (.take 8 (.take 9 (.two 4 (.take 5 (.take 6 (.two 10 (.take 11 (.solo 12 (.take 13 (.take 14 (.solo 15 .nil))))) 12 (.solo 10 (.take 11 (.take 13 (.take 14 (.solo 15 .nil)))))))) 10 (.take 11 (.solo 4 (.take 5 (.take 6 (.solo 12 (.take 13 (.take 14 (.solo 15 .nil))))))))))))))))) (by kernel_rfl) (by kernel_rfl) rfl (by kernel_rfl) HSu0.out ?_
  generalize w10.drew = u0 at *
  iterate 7
   (refine wpOU_step (zO rfl) ?_)
   (first
    | (refine wpOU_skip (by rfl) ?_)
    | (refine wpOU_take (v := ?_) (by rfl) ?_ ?_; rotate_left 1; (intro wx hSx; have hc_0 := K5 wx hSx; have hc_1 := K6 wx hSx; have hc_2 := K7 wx hSx; have hc_3 := K8 wx hSx; have hc_4 := K9 wx hSx; go_simp; try with_reducible rfl)))
   (try simp only [Act.put, zA4, zA5, zA6])
  refine wpOU_two ?_ ?_
  ·(refine wpOU_solo (zO rfl) ?_)
   intro K hK
   have cc : u0.cell? ⟨gO, 10, none⟩ = some (.slice (some ⟨B, 5, none⟩) 1 1) := ownS_at HOPu0.out (j := 10) rfl
   go_simp
   clear cc
   refine hK.out _ _ HSu0.out ?_
   clear hK K
   (try simp only [Act.put, zA4, zA5, zA6])
   iterate 2
        (refine wpOU_step (zO rfl) ?_)
        (first
         | (refine wpOU_skip (by rfl) ?_)
         | (refine wpOU_take (v := ?_) (by rfl) ?_ ?_; rotate_left 1; (intro wx hSx; have hc_0 := K5 wx hSx; have hc_1 := K6 wx hSx; have hc_2 := K7 wx hSx; have hc_3 := K8 wx hSx; have hc_4 := K9 wx hSx; go_simp; try with_reducible rfl)))
        (try simp only [Act.put, zA4, zA5, zA6])
   refine wpOU_two ?_ ?_
   ·(refine wpOU_solo (zO rfl) ?_)
    intro K hK
    have cc : u0.cell? ⟨gO, 10, none⟩ = some (.slice (some ⟨B, 5, none⟩) 1 1) := ownS_at HOPu0.out (j := 10) rfl
    go_simp
    clear cc
    refine hK.out _ _ HSu0.out ?_
    clear hK K
    (try simp only [Act.put, zA4, zA5, zA6])
    iterate 1
     (refine wpOU_step (zO rfl) ?_)
     (first
           | (refine wpOU_skip (by rfl) ?_)
           | (refine wpOU_take (v := ?_) (by rfl) ?_ ?_; rotate_left 1; (intro wx hSx; have hc_0 := K5 wx hSx; have hc_1 := K6 wx hSx; have hc_2 := K7 wx hSx; have hc_3 := K8 wx hSx; have hc_4 := K9 wx hSx; go_simp; try with_reducible rfl)))
     (try simp only [Act.put, zA4, zA5, zA6])
    (refine wpOU_solo (zO rfl) ?_)
    intro K hK
    rw [if_pos (by rfl)]
    have he := Else.setRow u0 (w.heap.size + 1) (ntC (kidsN 7 (some ⟨g, 0, none⟩) 1)).toArray
    have HSu1 : Hid (World.rangeAt (u0.setRow (w.heap.size + 1) (ntC (kidsN 7 (some ⟨g, 0, none⟩) 1)).toArray) B 5 (ntC (kidsN 7 (some ⟨g, 0, none⟩) 1))) := zh fun j u hu => (cell_same (he.block B (by have := HBlt.out; omega))).trans (HSu0.out j u hu)
    have HNu1 : Hid (RowAt (u0.setRow (w.heap.size + 1) (ntC (kidsN 7 (some ⟨g, 0, none⟩) 1)).toArray) (w.heap.size + 1) 56 (ntC (kidsN 7 (some ⟨g, 0, none⟩) 1)).toArray) := zh (HNu0.out.setRow (ntC (kidsN 7 (some ⟨g, 0, none⟩) 1)).toArray)
    have HFRu1 := zh (HFRu0.out.node (by omega) he)
    have HOPu1 := zh (own_else HOPu0.out he HLT3.out)
    have HLu1 := zh (own_else HLu0.out he HN8lt.out)
    have HIMu1 := zh (HIMu0.out.same (he.block M (Ne.symm HNM.out)))
    refine wp_store_row _ _ _ rfl (w.heap.size + 1) (ntC (kidsN 7 (some ⟨g, 0, none⟩) 1)).toArray rfl rfl 56 _ HNu0.out (by kernel_rfl) rfl (by simp [ntC, Value.oneCell']) (hK.out _ _ HSu1.out ?_)
    clear hK K he
    generalize (u0.setRow (w.heap.size + 1) (ntC (kidsN 7 (some ⟨g, 0, none⟩) 1)).toArray) = u1 at *
    (try simp only [Act.put, zA4, zA5, zA6])
    iterate 2
     (refine wpOU_step (zO rfl) ?_)
     (first
           | (refine wpOU_skip (by rfl) ?_)
           | (refine wpOU_take (v := ?_) (by rfl) ?_ ?_; rotate_left 1; (intro wx hSx; have hc_0 := K5 wx hSx; have hc_1 := K6 wx hSx; have hc_2 := K7 wx hSx; have hc_3 := K8 wx hSx; have hc_4 := K9 wx hSx; go_simp; try with_reducible rfl)))
     (try simp only [Act.put, zA4, zA5, zA6])
    (refine wpOU_solo (zO rfl) ?_)
    intro K hK
    have cc : u1.cell? ⟨gO, 10, none⟩ = some (.slice (some ⟨B, 5, none⟩) 1 1) := ownS_at HOPu1.out (j := 10) rfl
    have ff := own_free HOPu1.out 10
    have he := Else.setCell u1 ⟨gO, 10, none⟩ (.slice (some ⟨B, 5, none⟩) 0 0)
    have HSu9 : Hid (World.rangeAt (u1.setCell ⟨gO, 10, none⟩ (.slice (some ⟨B, 5, none⟩) 0 0)) B 5 (ntC (kidsN 7 (some ⟨g, 0, none⟩) 1))) := zh fun j u hu => (cell_same (he.block B (by have := HBlt.out; have := HOLO.out; have := HLT3.out; show B ≠ gO; omega))).trans (HSu1.out j u hu)
    have HNu9 : Hid (RowAt (u1.setCell ⟨gO, 10, none⟩ (.slice (some ⟨B, 5, none⟩) 0 0)) (w.heap.size + 1) 56 (ntC (kidsN 7 (some ⟨g, 0, none⟩) 1)).toArray) := zh ((he.block (w.heap.size + 1) (by have := HOLO.out; have := HLT3.out; show w.heap.size + 1 ≠ gO; omega)).trans HNu1.out)
    have HFRu9 := zh (HFRu1.out.far HB03.out.size HOLO.out he)
    have HOPu9 := zh (ownS_set HOPu1.out 10 (.slice (some ⟨B, 5, none⟩) 0 0))
    have HLu9 := zh (own_else HLu1.out he HO8lt.out)
    have HIMu9 := zh (HIMu1.out.same (he.block M (by have := HOLO.out; have := HMlt.out; show M ≠ gO; omega)))
    go_simp
    refine hK.out _ _ HSu9.out ?_
    clear hK K cc ff he
    (try simp only [Act.put, zA4, zA5, zA6])
    generalize (u1.setCell ⟨gO, 10, none⟩ (.slice (some ⟨B, 5, none⟩) 0 0)) = u9 at *
    refine wpOU_done ?_
    go_wp2_with fail
    go_meet
    case rel => exact ⟨HFRu9, HOPu9, HNu9, HLu9, HIMu9⟩
   ·(refine wpOU_solo (zO rfl) ?_)
    intro K hK
    rw [if_pos (by rfl)]
    have he := Else.setRow u0 (w.heap.size + 1) (ntC (kidsN 7 (some ⟨g, 0, none⟩) 1)).toArray
    have HSu1 : Hid (World.rangeAt (u0.setRow (w.heap.size + 1) (ntC (kidsN 7 (some ⟨g, 0, none⟩) 1)).toArray) B 5 (ntC (kidsN 7 (some ⟨g, 0, none⟩) 1))) := zh fun j u hu => (cell_same (he.block B (by have := HBlt.out; omega))).trans (HSu0.out j u hu)
    have HNu1 : Hid (RowAt (u0.setRow (w.heap.size + 1) (ntC (kidsN 7 (some ⟨g, 0, none⟩) 1)).toArray) (w.heap.size + 1) 56 (ntC (kidsN 7 (some ⟨g, 0, none⟩) 1)).toArray) := zh (HNu0.out.setRow (ntC (kidsN 7 (some ⟨g, 0, none⟩) 1)).toArray)
    have HFRu1 := zh (HFRu0.out.node (by omega) he)
    have HOPu1 := zh (own_else HOPu0.out he HLT3.out)
    have HLu1 := zh (own_else HLu0.out he HN8lt.out)
    have HIMu1 := zh (HIMu0.out.same (he.block M (Ne.symm HNM.out)))
    refine wp_store_row _ _ _ rfl (w.heap.size + 1) (ntC (kidsN 7 (some ⟨g, 0, none⟩) 1)).toArray rfl rfl 56 _ HNu0.out (by kernel_rfl) rfl (by simp [ntC, Value.oneCell']) (hK.out _ _ HSu1.out ?_)
    clear hK K he
    generalize (u0.setRow (w.heap.size + 1) (ntC (kidsN 7 (some ⟨g, 0, none⟩) 1)).toArray) = u1 at *
    (try simp only [Act.put, zA4, zA5, zA6])
    (refine wpOU_solo (zO rfl) ?_)
    intro K hK
    have cc : u1.cell? ⟨gO, 10, none⟩ = some (.slice (some ⟨B, 5, none⟩) 1 1) := ownS_at HOPu1.out (j := 10) rfl
    go_simp
    clear cc
    refine hK.out _ _ HSu1.out ?_
    clear hK K
    (try simp only [Act.put, zA4, zA5, zA6])
    iterate 3
     (refine wpOU_step (zO rfl) ?_)
     (first
           | (refine wpOU_skip (by rfl) ?_)
           | (refine wpOU_take (v := ?_) (by rfl) ?_ ?_; rotate_left 1; (intro wx hSx; have hc_0 := K5 wx hSx; have hc_1 := K6 wx hSx; have hc_2 := K7 wx hSx; have hc_3 := K8 wx hSx; have hc_4 := K9 wx hSx; go_simp; try with_reducible rfl)))
     (try simp only [Act.put, zA4, zA5, zA6])
    (refine wpOU_solo (zO rfl) ?_)
    intro K hK
    have cc : u1.cell? ⟨gO, 10, none⟩ = some (.slice (some ⟨B, 5, none⟩) 1 1) := ownS_at HOPu1.out (j := 10) rfl
    have ff := own_free HOPu1.out 10
    have he := Else.setCell u1 ⟨gO, 10, none⟩ (.slice (some ⟨B, 5, none⟩) 0 0)
    have HSu9 : Hid (World.rangeAt (u1.setCell ⟨gO, 10, none⟩ (.slice (some ⟨B, 5, none⟩) 0 0)) B 5 (ntC (kidsN 7 (some ⟨g, 0, none⟩) 1))) := zh fun j u hu => (cell_same (he.block B (by have := HBlt.out; have := HOLO.out; have := HLT3.out; show B ≠ gO; omega))).trans (HSu1.out j u hu)
    have HNu9 : Hid (RowAt (u1.setCell ⟨gO, 10, none⟩ (.slice (some ⟨B, 5, none⟩) 0 0)) (w.heap.size + 1) 56 (ntC (kidsN 7 (some ⟨g, 0, none⟩) 1)).toArray) := zh ((he.block (w.heap.size + 1) (by have := HOLO.out; have := HLT3.out; show w.heap.size + 1 ≠ gO; omega)).trans HNu1.out)
    have HFRu9 := zh (HFRu1.out.far HB03.out.size HOLO.out he)
    have HOPu9 := zh (ownS_set HOPu1.out 10 (.slice (some ⟨B, 5, none⟩) 0 0))
    have HLu9 := zh (own_else HLu1.out he HO8lt.out)
    have HIMu9 := zh (HIMu1.out.same (he.block M (by have := HOLO.out; have := HMlt.out; show M ≠ gO; omega)))
    go_simp
    refine hK.out _ _ HSu9.out ?_
    clear hK K cc ff he
    (try simp only [Act.put, zA4, zA5, zA6])
    generalize (u1.setCell ⟨gO, 10, none⟩ (.slice (some ⟨B, 5, none⟩) 0 0)) = u9 at *
    refine wpOU_done ?_
    go_wp2_with fail
    go_meet
    case rel => exact ⟨HFRu9, HOPu9, HNu9, HLu9, HIMu9⟩
  ·(refine wpOU_solo (zO rfl) ?_)
   intro K hK
   have cc : u0.cell? ⟨gO, 10, none⟩ = some (.slice (some ⟨B, 5, none⟩) 1 1) := ownS_at HOPu0.out (j := 10) rfl
   go_simp
   clear cc
   refine hK.out _ _ HSu0.out ?_
   clear hK K
   (try simp only [Act.put, zA4, zA5, zA6])
   iterate 1
        (refine wpOU_step (zO rfl) ?_)
        (first
         | (refine wpOU_skip (by rfl) ?_)
         | (refine wpOU_take (v := ?_) (by rfl) ?_ ?_; rotate_left 1; (intro wx hSx; have hc_0 := K5 wx hSx; have hc_1 := K6 wx hSx; have hc_2 := K7 wx hSx; have hc_3 := K8 wx hSx; have hc_4 := K9 wx hSx; go_simp; try with_reducible rfl)))
        (try simp only [Act.put, zA4, zA5, zA6])
   (refine wpOU_solo (zO rfl) ?_)
   intro K hK
   have cc : u0.cell? ⟨gO, 10, none⟩ = some (.slice (some ⟨B, 5, none⟩) 1 1) := ownS_at HOPu0.out (j := 10) rfl
   go_simp
   clear cc
   refine hK.out _ _ HSu0.out ?_
   clear hK K
   (try simp only [Act.put, zA4, zA5, zA6])
   iterate 2
        (refine wpOU_step (zO rfl) ?_)
        (first
         | (refine wpOU_skip (by rfl) ?_)
         | (refine wpOU_take (v := ?_) (by rfl) ?_ ?_; rotate_left 1; (intro wx hSx; have hc_0 := K5 wx hSx; have hc_1 := K6 wx hSx; have hc_2 := K7 wx hSx; have hc_3 := K8 wx hSx; have hc_4 := K9 wx hSx; go_simp; try with_reducible rfl)))
        (try simp only [Act.put, zA4, zA5, zA6])
   (refine wpOU_solo (zO rfl) ?_)
   intro K hK
   rw [if_pos (by rfl)]
   have he := Else.setRow u0 (w.heap.size + 1) (ntC (kidsN 7 (some ⟨g, 0, none⟩) 1)).toArray
   have HSu1 : Hid (World.rangeAt (u0.setRow (w.heap.size + 1) (ntC (kidsN 7 (some ⟨g, 0, none⟩) 1)).toArray) B 5 (ntC (kidsN 7 (some ⟨g, 0, none⟩) 1))) := zh fun j u hu => (cell_same (he.block B (by have := HBlt.out; omega))).trans (HSu0.out j u hu)
   have HNu1 : Hid (RowAt (u0.setRow (w.heap.size + 1) (ntC (kidsN 7 (some ⟨g, 0, none⟩) 1)).toArray) (w.heap.size + 1) 56 (ntC (kidsN 7 (some ⟨g, 0, none⟩) 1)).toArray) := zh (HNu0.out.setRow (ntC (kidsN 7 (some ⟨g, 0, none⟩) 1)).toArray)
   have HFRu1 := zh (HFRu0.out.node (by omega) he)
   have HOPu1 := zh (own_else HOPu0.out he HLT3.out)
   have HLu1 := zh (own_else HLu0.out he HN8lt.out)
   have HIMu1 := zh (HIMu0.out.same (he.block M (Ne.symm HNM.out)))
   refine wp_store_row _ _ _ rfl (w.heap.size + 1) (ntC (kidsN 7 (some ⟨g, 0, none⟩) 1)).toArray rfl rfl 56 _ HNu0.out (by kernel_rfl) rfl (by simp [ntC, Value.oneCell']) (hK.out _ _ HSu1.out ?_)
   clear hK K he
   generalize (u0.setRow (w.heap.size + 1) (ntC (kidsN 7 (some ⟨g, 0, none⟩) 1)).toArray) = u1 at *
   (try simp only [Act.put, zA4, zA5, zA6])
   iterate 2
        (refine wpOU_step (zO rfl) ?_)
        (first
         | (refine wpOU_skip (by rfl) ?_)
         | (refine wpOU_take (v := ?_) (by rfl) ?_ ?_; rotate_left 1; (intro wx hSx; have hc_0 := K5 wx hSx; have hc_1 := K6 wx hSx; have hc_2 := K7 wx hSx; have hc_3 := K8 wx hSx; have hc_4 := K9 wx hSx; go_simp; try with_reducible rfl)))
        (try simp only [Act.put, zA4, zA5, zA6])
   (refine wpOU_solo (zO rfl) ?_)
   intro K hK
   have cc : u1.cell? ⟨gO, 10, none⟩ = some (.slice (some ⟨B, 5, none⟩) 1 1) := ownS_at HOPu1.out (j := 10) rfl
   have ff := own_free HOPu1.out 10
   have he := Else.setCell u1 ⟨gO, 10, none⟩ (.slice (some ⟨B, 5, none⟩) 0 0)
   have HSu9 : Hid (World.rangeAt (u1.setCell ⟨gO, 10, none⟩ (.slice (some ⟨B, 5, none⟩) 0 0)) B 5 (ntC (kidsN 7 (some ⟨g, 0, none⟩) 1))) := zh fun j u hu => (cell_same (he.block B (by have := HBlt.out; have := HOLO.out; have := HLT3.out; show B ≠ gO; omega))).trans (HSu1.out j u hu)
   have HNu9 : Hid (RowAt (u1.setCell ⟨gO, 10, none⟩ (.slice (some ⟨B, 5, none⟩) 0 0)) (w.heap.size + 1) 56 (ntC (kidsN 7 (some ⟨g, 0, none⟩) 1)).toArray) := zh ((he.block (w.heap.size + 1) (by have := HOLO.out; have := HLT3.out; show w.heap.size + 1 ≠ gO; omega)).trans HNu1.out)
   have HFRu9 := zh (HFRu1.out.far HB03.out.size HOLO.out he)
   have HOPu9 := zh (ownS_set HOPu1.out 10 (.slice (some ⟨B, 5, none⟩) 0 0))
   have HLu9 := zh (own_else HLu1.out he HO8lt.out)
   have HIMu9 := zh (HIMu1.out.same (he.block M (by have := HOLO.out; have := HMlt.out; show M ≠ gO; omega)))
   go_simp
   refine hK.out _ _ HSu9.out ?_
   clear hK K cc ff he
   (try simp only [Act.put, zA4, zA5, zA6])
   generalize (u1.setCell ⟨gO, 10, none⟩ (.slice (some ⟨B, 5, none⟩) 0 0)) = u9 at *
   refine wpOU_done ?_
   go_wp2_with fail
   go_meet
   case rel => exact ⟨HFRu9, HOPu9, HNu9, HLu9, HIMu9⟩
 case rest =>
  obtain ⟨HFRc, HOPc, HNc, HLc, HIMc⟩ := hcut
  clear o10 HFR10 HOP10 HN10 HL10 HIM10
  go_wp2_with fail
  rw [rounds_succ]
  obtain ⟨n0, n1, n2, n3, n4⟩ := nt_row HNc.out
  unfold kidsN at n0 n1 n2 n3 n4
  dsimp only at n0 n1 n2 n3 n4
  have HO7 := zh (opOf_any 7 0 (.inr (.inr ⟨by decide, by decide, rfl⟩)) wc)
  have HPC2 : Hid (∀ W, Below wc.heap.size wc W → Calls Tryz.prog 35 #[.agg (ntC (kidsN 7 (some ⟨g, 0, none⟩) 1)).toArray, .pointer (some ⟨K, 0, none⟩), .pointer (some ⟨S, 0, none⟩), .pointer (some ⟨L, 0, none⟩)] W fun e w' => e = .returned (.tuple #[.agg (insC i2).toArray, .bool true]) ∧ IMap w' M 2 [(⟨(35 :: s.data.toList).toArray⟩ : ByteArray), x] ∧ Mq M W w') := zh fun W hW => by
   have hf := HFRc.out.below HB03.out.size HFRc.out.low.size hW
   have h03 := HB03.out.trans hf.low
   exact pusher1_any _ 0 (kidsN 7 (some ⟨g, 0, none⟩) 1) ⟨(35 :: s.data.toList).toArray⟩ (by
        have : (2000 : Nat) ≤ maxLen := by decide
        show (35 :: s.data.toList).toArray.size ≤ maxLen
        have h2 : s.data.size = s.size := rfl
        simp
        omega) i2 K S L M 1 [x] (by simpa using HNE.out) (by decide) W (hf.row HKK.out HKM.out HKN.out) (hf.row HSS.out HSM.out HSN.out) (hf.row HLL.out HLM.out HLN.out) (HIMc.out.below hW HIMc.out.lt) (fun W2 h2 => HTX2.out W2 (h03.trans (h2.mono h03.size))) (fun W2 h2 => HP2.out W2 (h03.trans (h2.mono h03.size)))
  go_upto_region 10 with (go_at_call 26; refine HO7.out.mono ?_; rintro e w' ⟨rfl, rfl⟩)
  have hcf1 : ∀ args w, (callFunc 35 args).run Tryz.prog w = .ok (.enter 35 args) w := fun _ _ => by kernel_rfl
  go_upto_region 13 with (first
   | (go_at_call 35; refine (HPC2.out wc (zB _ _)).mono ?_; rintro e w11 ⟨rfl, him, hmq⟩; have HMQ11 := zh hmq; clear him hmq n0 n1 n2 n3 n4)
   | (refine wpList_stRow (by rfl) _ _ _ rfl w11.heap.size (insC i2).toArray rfl rfl _ _ (RowAt.new _ _ _) (infoIns _) (by rw [insC_size]; with_unfolding_all rfl) (insC_one _) ?_; intro w12 r12 he; have HI12 := zh r12; have HB12 : Hid (Below w11.heap.size w11 w12) := zh (((zB _ _).alloc (zL _) _).trans (he.below (zL _))); clear r12 he))
  have HFR11 := zh (HFRc.out.map HB0M.out HMQ11.out)
  have HFR12 := zh (HFR11.out.below HB03.out.size HFR11.out.low.size HB12.out)
  have HOP12 := zh (own_below (own_mq HOPc.out HMQ11.out HMlt.out) HB12.out (zL _))
  have HL12 := zh (own_below (own_mq HLc.out HMQ11.out HM8.out) HB12.out (zL _))
  have HD12 : Hid (Below w.heap.size w w12) := zh (HB03.out.trans HFR12.out.low)
  have HB8 : Hid (b8 ≤ w12.heap.size) := zh (Nat.le_of_lt (by obtain ⟨q, _, q1, q2, _⟩ := own_at8 HL12.out (by decide); omega))
  have HTY := zh (show (75 : TypeId) ≠ 60 by decide)
  generalize w11.heap.size = g11 at *
  clear HB12 HMQ11 HFR11 HFR12 HFRc HOPc HNc HLc HIMc HPC2 HO7 hcf1 HKK HSS HLL HMM HTX1 HTX2 HP1 HP2 HNA HNY HB0M HKN HSN HLN HKM HSM HLM HNM
  go_upto_region 14 with (first
   | (refine wpList_loadS (by rfl) _ _ rfl g11 rfl _ _ _ HI12.out Tryz.underlying60 rfl (infoIns _) ?_)
   | (refine wpList_oneR (by decide) infoIns2 Tryz.underlying25 rfl _ rfl (insC i2).toArray (insC_size _) rfl ?_; intro w13 r13 hb13; have HI13 := zh r13; have HB13x := zh hb13; have HL13 := zh (own_below HL12.out hb13 (zL _)); have HOP13 := zh (own_below HOP12.out hb13 (zL _)); clear r13 hb13)
   | (at_builtin; refine wpList_moreS _ rfl _ _ 25 rfl 60 insZ 10 80 Tryz.underlying25 infoInsZ rfl (by decide) b8 LA' 1 lc' (insC ⟨1, 0, ⟨List.replicate 8 0, EW.zeros⟩⟩) rfl HL13.out w12.heap.size (insC i2) rfl (insC_len _) (fun jj u hu => (HI13.out.cell jj).trans (by simpa using hu)) (by simp [insC, ucells, Value.oneCell']) (by decide) (by decide) (zM HB8.out HB13x.out.size) ?_; intro LB lb w14 hown hb14 hg14 _; have HL14 := zh hown; have HB14 := zh hb14; have HOP14 := zh (own_grown HOP13.out hg14 fun k hk => own_ne3 HOP13.out HL13.out HTY.out hk); clear hown hb14 hg14))
  have HB08 : Hid (w.heap.size ≤ b8) := zh (by have := HN8lt.out; omega)
  have HD14 : Hid (Below w.heap.size w w14) := zh ((HD12.out.trans (HB13x.out.mono HD12.out.size)).trans (HB14.out.mono HB08.out))
  have HB814 : Hid (b8 ≤ w14.heap.size) := zh (zM (zM HB8.out HB13x.out.size) HB14.out.size)
  clear HI12 HD12 HOP12 HL12 HI13 HB13x HL13 HOP13 HB14 HB8
  generalize w12.heap.size = b12 at *
  have o10 : w14.cell? ⟨gO, 10, none⟩ = some (.slice (some ⟨B, 5, none⟩) 0 0) := ownS_at HOP14.out (j := 10) rfl
  have HEND : Hid (w14.rangeAt gO 0 (insC ⟨3, 2, ⟨List.replicate 8 0, EW.zeros⟩⟩)) := zh fun jj u hu => by
   rw [Nat.zero_add]
   refine ownS_at HOP14.out ?_
   unfold pendC
   rw [List.getElem?_append_left (by have := (List.getElem?_eq_some_iff.1 hu).1; omega)]
   exact hu
  refine wp_loop_rounds 2 ?_
  rw [rounds_succ]
  go_upto_region 18 with fail
  clear o10
  go_upto_region 19 with (first
   | (refine wpList_ldIn (by rfl) 60 _ rfl gO 0 rfl _ _ HEND.out Tryz.underlying60 rfl (infoInsL _) ?_)
   | (refine wpList_oneR (by decide) infoIns2 Tryz.underlying25 rfl _ rfl (insC ⟨3, 2, ⟨List.replicate 8 0, EW.zeros⟩⟩).toArray (insC_size _) rfl ?_; intro w15 r15 hb15; have HI15 := zh r15; have HB15 := zh hb15; have HL15 := zh (own_below HL14.out hb15 (zL _)); clear r15 hb15)
   | (at_builtin; refine wpList_moreS _ rfl _ _ 25 rfl 60 insZ 10 80 Tryz.underlying25 infoInsZ rfl (by decide) b8 LB 2 lb (insC ⟨1, 0, ⟨List.replicate 8 0, EW.zeros⟩⟩ ++ insC i2) rfl HL15.out w14.heap.size (insC ⟨3, 2, ⟨List.replicate 8 0, EW.zeros⟩⟩) rfl (insC_len _) (fun jj u hu => (HI15.out.cell jj).trans (by simpa using hu)) (by simp [insC, ucells, Value.oneCell']) (by decide) (by decide) (zM HB814.out HB15.out.size) ?_; intro LC ld w16 hown hb16 _ _; have HL16 := zh hown; have HB16 := zh hb16; clear hown hb16))
  have HD16 : Hid (Below w.heap.size w w16) := zh ((HD14.out.trans (HB15.out.mono HD14.out.size)).trans (HB16.out.mono HB08.out))
  clear HI15 HL15 HB15 HB16 HEND HOP14 HL14 HD14
  go_wp2_with fail
  rw [rounds_succ]
  go_wp2_with fail
  exact HQ.out _ _ ⟨LC, ld, rfl, own_mono HL16.out HB08.out, HD16.out⟩
end
section
open Go.RowKit Go.Maps RM
namespace CX
end CX
open CX
theorem alive14_any (w : World) (hT : Tab w) : Calls Tryz.prog 5 #[] w fun e w' => e = .returned (.bool true) ∧ Below w.heap.size w w' := by
 refine cHid fun Q' hQ => ?_
 have HQ := zh hQ; clear hQ
 have HT := zh hT; clear hT
 have HB0 : Hid (Below w.heap.size w (w.alloc (.cells (scells lohi).toArray 9))) := (zB _ _).alloc (zL _) _
 have hpq : (#[.string ⟨#[108, 111]⟩, .string ⟨#[104, 105]⟩] : Array Value) = (scells lohi).toArray := rfl
 have HPQ := zh hpq; clear hpq
 have HOK := zh (fC_ok w)
 go_enter Tryz.func5, Tryz.ntmps5
 go_upto_region 2 with (first
  | (refine wpList_oneF (by rfl) _ rfl (fC w.heap.size) RW.zs (by kernel_rfl) ?_; intro w2 r2 hb2; have HR2 := zh r2; have HB2 := zh hb2; clear r2 hb2)
  | (refine wpList_oneR (by decide) infoLat2 Tryz.underlying47 rfl _ rfl _ (by rfl) rfl ?_; intro w3 r3 hb3; have HR3 := zh r3; have HB3 := zh hb3; clear r3 hb3)
  | (refine wpList_oneR (by decide) infoVar2 Tryz.underlying50 rfl _ rfl _ (by rfl) rfl ?_; intro w4 r4 hb4; have HR4 := zh r4; have HB4 := zh hb4; clear r4 hb4))
 have hsz0 : (w.alloc (.cells #[.string ⟨#[108, 111]⟩, .string ⟨#[104, 105]⟩] 9)).heap.size = w.heap.size + 1 := by simp
 have r2 := HR2.out
 have hb2 := HB2.out
 rw [HPQ.out] at r2 hb2 hsz0
 have hf2 := fac_of_row r2 (HOK.out.below hb2)
 rw [hsz0] at r2 hb2 hf2
 have hB02 : Below w.heap.size w w2 := HB0.out.trans (hb2.mono (by omega))
 have r5 := RowAt.new w4 52 #[.slice (some ⟨w2.heap.size, 0, none⟩) 1 1, .slice (some ⟨w3.heap.size, 0, none⟩) 1 1]
 have hb45 : Below w4.heap.size w4 (w4.alloc (.cells #[.slice (some ⟨w2.heap.size, 0, none⟩) 1 1, .slice (some ⟨w3.heap.size, 0, none⟩) 1 1] 52)) := (zB _ _).alloc (zL _) _
 generalize w4.alloc (.cells #[.slice (some ⟨w2.heap.size, 0, none⟩) 1 1, .slice (some ⟨w3.heap.size, 0, none⟩) 1 1] 52) = w5 at *
 have h24 := HB3.out.trans (HB4.out.mono HB3.out.size)
 have h25 := h24.trans (hb45.mono h24.size)
 have h35 := HB4.out.trans (hb45.mono HB4.out.size)
 have HF5 := zh (hf2.below h25)
 have rl5 := HR3.out.below h35 HR3.out.lt
 have rv5 := HR4.out.below hb45 HR4.out.lt
 have HSC5 := zh (sc_ok rl5 rv5 HF5.out)
 have HB5 := zh (hB02.trans (h25.mono hB02.size))
 have HRS5 := zh r5
 have HRL5 := zh rl5
 clear hsz0 r2 hb2 hf2 hB02 r5 hb45 h24 h25 h35 rl5 rv5 HR2 HB2 HR3 HB3 HR4 HB4 HOK HB0 HPQ
 generalize w2.heap.size = g2 at *
 generalize w3.heap.size = g3 at *
 generalize w4.heap.size = g4 at *
 go_upto_region 3 with (first
  | (refine wpList_oneR (by decide) infoNode2 Tryz.underlying54 rfl _ rfl _ (by rfl) rfl ?_; intro w6 r6 hb6; have HR6 := zh r6; have HB6 := zh hb6; clear r6 hb6)
  | (refine wpList_twoR (by decide) infoNode2 Tryz.underlying54 rfl _ _ rfl _ _ (by rfl) (by rfl) rfl rfl ?_; intro w7 r7 hb7; have HR7 := zh r7; have HB7 := zh hb7; clear r7 hb7))
 have hb78 : Below w7.heap.size w7 (w7.alloc (.cells #[.int .i64 8, .int .i64 0, .string ⟨#[]⟩, .slice none 0 0, .slice (some ⟨w6.heap.size, 0, none⟩) 2 2] 56)) := (zB _ _).alloc (zL _) _
 have r8 := RowAt.new w7 56 #[.int .i64 8, .int .i64 0, .string ⟨#[]⟩, .slice none 0 0, .slice (some ⟨w6.heap.size, 0, none⟩) 2 2]
 generalize w7.alloc (.cells #[.int .i64 8, .int .i64 0, .string ⟨#[]⟩, .slice none 0 0, .slice (some ⟨w6.heap.size, 0, none⟩) 2 2] 56) = w8 at *
 have h68 := HB7.out.trans (hb78.mono HB7.out.size)
 have h58 := HB6.out.trans (h68.mono HB6.out.size)
 have hgl := (HR6.out.below h68 HR6.out.lt)
 have hgk := (HR7.out.below hb78 HR7.out.lt)
 have HCO : Hid (Calls Tryz.prog 13 #[.agg #[.slice (some ⟨g2, 0, none⟩) 1 1, .slice (some ⟨g3, 0, none⟩) 1 1], .int .i64 0, .agg #[.int .i64 8, .int .i64 0, .string ⟨#[]⟩, .slice none 0 0, .slice (some ⟨w6.heap.size, 0, none⟩) 2 2]] w8 fun e w' => ∃ A' c', e = .returned (.tuple #[.slice A' 3 c', .bool true]) ∧ w'.ownsRow w8.heap.size 60 10 (.slice A' 3 c') 3 (insC i0 ++ insC i1 ++ insC i2) ∧ Below w8.heap.size w8 w') := zh
  (compile_ex (some ⟨g2, 0, none⟩) 1 bK (some ⟨w.heap.size + 1, 0, none⟩) 1 (fC w.heap.size) (some ⟨g3, 0, none⟩) 1 bX rfl (by kernel_rfl) bHi (by kernel_rfl) 1 (by kernel_rfl) (show 2 ≤ 64 by decide) w64 (by kernel_rfl) (by decide) (by decide) ne_ex w6.heap.size w5.heap.size w8 (HT.out.below (HB5.out.trans (h58.mono HB5.out.size))) (HSC5.out.below h58) (HF5.out.below h58) hgl.lt (fun j u hu => by rw [Nat.zero_add]; exact (hgl.cell j).trans (by simpa [ntC, leafN, bHi] using hu)) hgk.lt (fun j u hu => by rw [Nat.zero_add]; exact (hgk.cell j).trans (by simpa [ntC, leafN, kidsN, bX] using hu)))
 have HB8 := zh (HB5.out.trans (h58.mono HB5.out.size))
 have HRS8 := zh (HRS5.out.below h58 HRS5.out.lt)
 have HRL8 := zh (HRL5.out.below h58 HRL5.out.lt)
 have HF8 := zh (HF5.out.below h58)
 have HR8 := zh r8
 clear hb78 r8 h68 h58 hgl hgk HF5 HB5 HRL5 HSC5 HRS5 HR6 HB6 HR7 HB7
 generalize w6.heap.size = g6 at *
 generalize w7.heap.size = g7 at *
 generalize w5.heap.size = g5 at *
 obtain ⟨s0, s1, _, _⟩ := rw2 HRS8.out
 obtain ⟨n0, n1, n2, n3, n4⟩ := nt_row (x := kidsN 8 (some ⟨g6, 0, none⟩) 2) HR8.out
 unfold kidsN at n0 n1 n2 n3 n4
 dsimp only at n0 n1 n2 n3 n4
 go_upto_region 4 with (go_at_call 13; refine HCO.out.mono ?_; rintro e w9 ⟨A', c', rfl, hown, hb9⟩; have HOW9 := zh hown; have HB9 := zh hb9; clear hown hb9)
 clear s0 s1 n0 n1 n2 n3 n4 HCO HR8
 obtain ⟨gI, hAI, hIlo, hIlt, _⟩ := own_at8 HOW9.out (by decide)
 subst hAI
 have HB09 := zh (HB8.out.trans (HB9.out.mono HB8.out.size))
 have HRS9 := zh (HRS8.out.below HB9.out HRS8.out.lt)
 have HRL9 := zh (HRL8.out.below HB9.out HRL8.out.lt)
 have HF9 := zh (HF8.out.below HB9.out)
 have HT9 := zh (HT.out.below HB09.out)
 have HLS9 : Hid (Ls insC w9 (some ⟨gI, 0, none⟩) lEx) := zh (by
  have := Sl.of_own HOW9.out
  rw [← flat_ex] at this
  exact this)
 have HEV : Hid (∀ W, Below w9.heap.size w9 W → RowAt W w9.heap.size 31 (uv z8) → Calls Tryz.prog 6 #[.agg #[.bool false, .slice (some ⟨w.heap.size + 1, 0, none⟩) 1 1], .slice (some ⟨gI, 0, none⟩) 3 c', .slice (some ⟨w9.heap.size, 0, none⟩) 1 1] W fun e w' => e = .returned (.tuple #[.agg (uv eOne), .bool true]) ∧ Below W.heap.size W w') := zh fun W hW hr => by
  have h := codeEval_any false (some ⟨w.heap.size + 1, 0, none⟩) 1 [fC w.heap.size] (some ⟨gI, 0, none⟩) c' lEx (some ⟨w9.heap.size, 0, none⟩) 1 [z8] W (HT9.out.below hW) (HF9.out.below hW) (by decide) (HLS9.out.below hW) (by decide) (sl_row hr) (by
   intro e he
   obtain rfl : e = z8 := by simpa using he
   exact EW.zeros)
  rw [ev_ex] at h
  exact h
 have HRT : Hid (∀ W, Below w9.heap.size w9 W → Calls Tryz.prog 8 #[.slice (some ⟨gI, 0, none⟩) 3 c'] W fun e w' => e = .returned (.bool true) ∧ Below W.heap.size W w') := zh fun W hW => by
  have h := codeRight_any (some ⟨gI, 0, none⟩) c' lEx W (by decide) (HLS9.out.below hW)
  rw [room_ex] at h
  exact h
 have HIN : Hid (∀ W, Below w9.heap.size w9 W → W.rangeAt gI 20 (insC i2)) := zh fun W hW j u hu => by
  have hj := (List.getElem?_eq_some_iff.1 hu).1
  rw [insC_len] at hj
  refine (hW.cell (p := ⟨gI, 20 + j, none⟩) hIlt).trans (ownS_at HOW9.out ?_)
  rw [List.getElem?_append_right (by rw [zA7, insC_len, insC_len]; omega), zA7, insC_len, insC_len]
  simpa using hu
 have HES : Hid ((uv eOne).size = 8) := zh (uv8_size ewOne)
 have HIE : Hid ((Tryz.prog.info? 31).map (·.size) = some (uv eOne).size) := zh (by rw [HES.out]; kernel_rfl)
 clear HLS9 HF9 HT9 HT HOW9 hIlo hIlt HRS8 HRL8 HF8 HB8 HB9
 obtain ⟨s0, s1, _, _⟩ := rw2 HRS9.out
 obtain ⟨l0, l1, l2, _, _, _⟩ := rw3 HRL9.out
 go_upto_region 5 with (first
  | (refine wpList_one8 rfl _ rfl z8 EW.zeros (by first | rfl | kernel_rfl) ?_; intro w10 r10 hb10; have HEV10 := zh (HEV.out w10 hb10 r10); have HB10 := zh hb10; clear r10 hb10)
  | (go_at_call 6; refine HEV10.out.mono ?_; rintro e w11 ⟨rfl, hb11⟩; have HB11 := zh (HB10.out.trans (hb11.mono HB10.out.size)); clear hb11)
  | (refine wpList_stRow (by rfl) _ _ _ rfl w11.heap.size (uv eOne) rfl rfl _ _ (RowAt.new _ _ _) HIE.out (by rw [HES.out]; rfl) (uv8_one eOne) ?_; intro w12 r12 he; have HR12 := zh r12; have HB12 : Hid (Below w11.heap.size w11 w12) := zh (((zB _ _).alloc (zL _) _).trans (he.below (zL _))); clear r12 he))
 have HB912 := zh (HB11.out.trans (HB12.out.mono HB11.out.size))
 have HIN12 := zh (HIN.out w12 HB912.out)
 have HRT12 := zh (HRT.out w12 HB912.out)
 generalize w11.heap.size = gE at *
 clear s0 s1 l0 l1 l2 HEV HEV10 HB10 HB11 HB12 HRS9 HRL9 HIN HRT
 have heqE : ∀ W, (binOp .eql 31 (.agg (uv eOne)) (.agg #[.int .u64 1, .int .u64 0, .int .u64 0, .int .u64 0, .int .u64 0, .int .u64 0, .int .u64 0, .int .u64 0])).run Tryz.prog W = .ok (.bool true) W := fun W => run_eql_elem ewOne ewOne W
 have heqI : ∀ W, (binOp .eql 60 (.agg (insC i2).toArray) (.agg #[.int .i64 3, .int .i64 2, .int .u64 0, .int .u64 0, .int .u64 0, .int .u64 0, .int .u64 0, .int .u64 0, .int .u64 0, .int .u64 0])).run Tryz.prog W = .ok (.bool true) W := fun W => by kernel_rfl
 go_wp2_with (first
  | (refine wpList_ldIn (by first | rfl | kernel_rfl) 60 _ rfl gI 20 rfl _ _ HIN12.out Tryz.underlying60 rfl (infoInsL _) ?_)
  | (refine wpList_loadS (by first | rfl | kernel_rfl) 31 _ rfl gE rfl _ _ _ HR12.out Tryz.underlying31 rfl HIE.out ?_)
  | (go_at_call 8; refine HRT12.out.mono ?_; rintro e w13 ⟨rfl, hb13⟩; have HB13 := zh (HB912.out.trans (hb13.mono HB912.out.size)); clear hb13))
 exact HQ.out _ _ ⟨rfl, HB09.out.trans (HB13.out.mono HB09.out.size)⟩
end
end Go.Proofs.YtppcjocmjpbmmaaGreatDoor
