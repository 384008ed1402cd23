/- Texts that all the claims need. Conditions: those that each states. -/

import Derived.Test.YtnfndapgcpdcpaaGreatDoorFa25
import Derived.Test.YtnfndapgcpdcpaaGreatDoorFa29
import Derived.Test.YtnfndapgcpdcpaaGreatDoorFa34
set_option linter.unusedSimpArgs false
set_option linter.unusedVariables false
set_option maxRecDepth 100000
set_option maxHeartbeats 40000000
namespace Go.Proofs.YtnfndapgcpdcpaaGreatDoor
section
open Go.RowKit LX TR TM SP RM
theorem snode_any (t : Bool) (A : Option Addr) (c : Nat) (fs : List Fac) (e : List Nat) (he : EW e) (w : World) (hT : Tab w) (hF : Facs w A fs) :
 Calls Tryz.prog 83 #[.agg (sv t A fs.length c), .agg (uv e)] w fun x w' => ∃ y, x = .returned y ∧ NodeV w' w.heap.size (nodeE t fs e) y ∧ Below w.heap.size w w' := by
 have HFI := zh (fun W (h : Below w.heap.size w W) => sfitsE_any t A c fs e he W (hT.below h) (hF.below h))
 have HFT := zh (fun (h : fitsE t fs e = true) => fits_slot h)
 have HON := zh (fun (h : fitsE t fs e = true) ht => one_nf h ht)
 have HCO : Hid (∀ j, j < fs.length → facB (fs.getD j f0) = true → wordB (fs.getD j f0) (e.getD j 0) = true → ∀ W, Below w.heap.size w W → Calls Tryz.prog 113 #[.agg (fv (fs.getD j f0)), .int .u64 ((e.getD j 0 : Nat) : Int)] W fun x w' => ∃ y, x = .returned y ∧ NodeV w' W.heap.size (conN (fs.getD j f0) (e.getD j 0)) y ∧ Below W.heap.size W w') := fun j hj h1 h2 W h =>
  scon_any _ _ (he.lt j) W (hT.below h) ((hF.below h).okAt hj) h1 h2
 have HND : Hid (nodeE t fs e = if fitsE t fs e = true then (if t = true then nd 4 0 ⟨#[]⟩ [] ((List.range fs.length).map fun i => conN (fs.getD i f0) (e.getD i 0)) else conN (fs.getD 0 f0) (e.getD 0 0)) else n0) := rfl
 refine calls_hid fun Q' hQ => ?_
 have HQ := zh hQ; clear hQ
 generalize nodeE t fs e = ND at *
 generalize hnf : fs.length = nf at *
 have HNF := zh hnf; clear hnf
 have hs0 := ((RowAt.new w 53 (sv t A nf c)).alloc (.cells (uv e) 41)).alloc (.cells #[.int .i64 0, .int .i64 0, .string ⟨#[]⟩, .slice none 0 0, .slice none 0 0] 120)
 have hp0 := (RowAt.new (w.alloc (.cells (sv t A nf c) 53)) 41 (uv e)).alloc (.cells #[.int .i64 0, .int .i64 0, .string ⟨#[]⟩, .slice none 0 0, .slice none 0 0] 120)
 have hg0 := RowAt.new ((w.alloc (.cells (sv t A nf c) 53)).alloc (.cells (uv e) 41)) 120 #[.int .i64 0, .int .i64 0, .string ⟨#[]⟩, .slice none 0 0, .slice none 0 0]
 rw [show (w.alloc (.cells (sv t A nf c) 53)).heap.size = w.heap.size + 1 by simp] at hp0
 rw [show ((w.alloc (.cells (sv t A nf c) 53)).alloc (.cells (uv e) 41)).heap.size = w.heap.size + 1 + 1 by simp] at hg0
 have HS1 := zh hs0
 have HP1 := zh hp0
 have HG1 := zh hg0
 have HB1 : Hid (Below w.heap.size w (((w.alloc (.cells (sv t A nf c) 53)).alloc (.cells (uv e) 41)).alloc (.cells #[.int .i64 0, .int .i64 0, .string ⟨#[]⟩, .slice none 0 0, .slice none 0 0] 120))) := (((zB _ _).alloc (zL _) _).alloc (by simp) _).alloc (by simp; omega) _
 have HSH : Hid (∀ W, RowAt W w.heap.size 53 (sv t A nf c) → W.cell? ⟨w.heap.size, 0, none⟩ = some (.bool t) ∧ W.cell? ⟨w.heap.size, 1, none⟩ = some (.slice A nf c)) := fun W h => shape_cells h
 clear hs0 hp0 hg0 hT
 go_enter Tryz.func83, Tryz.ntmps83
 go_upto_region 1 with fail
 generalize (((w.alloc (.cells (sv t A nf c) 53)).alloc (.cells (uv e) 41)).alloc (.cells #[.int .i64 0, .int .i64 0, .string ⟨#[]⟩, .slice none 0 0, .slice none 0 0] 120)) = w1 at *
 go_wp2_with (first | (refine wpList_loadShape (by rfl) _ rfl w.heap.size rfl t A nf c HS1.out ?_) | (refine wpList_loadElem (by rfl) _ rfl (w.heap.size + 1) rfl _ he HP1.out ?_))
 refine (HFI.out w1 HB1.out).mono ?_
 rintro x w2 ⟨rfl, hb⟩
 have HS2 := zh (HS1.out.below hb HS1.out.lt)
 have HP2 := zh (HP1.out.below hb HP1.out.lt)
 have HG2 := zh (HG1.out.below hb HG1.out.lt)
 have HB2 := zh (HB1.out.trans (hb.mono HB1.out.size))
 clear hb HS1 HP1 HG1 HB1
 generalize hft : fitsE t fs e = ft at *
 clear hft
 cases ft
 case' false =>
  have HE : Hid (ND = n0) := HND.out
  obtain ⟨g0, g1, g2, g3, g4, u0, u1, u2, u3, u4⟩ := row5 HG2.out
  go_wp2_with fail
  change bodyPost _ _ _ _ _ (set5 w2 (w.heap.size + 1 + 1) (.int .i64 0) (.int .i64 0) (.string ⟨#[]⟩) (.slice none 0 0) (.slice none 0 0))
  have hrow := set5_row (a0 := .int .i64 0) (b0 := .int .i64 0) (c0 := .string ⟨#[]⟩) (d0 := .slice none 0 0) (e0 := .slice none 0 0) HG2.out
  have hbf := HB2.out.trans (set5_below (a0 := .int .i64 0) (b0 := .int .i64 0) (c0 := .string ⟨#[]⟩) (d0 := .slice none 0 0) (e0 := .slice none 0 0) (w := w2) (b := w.heap.size) (g := w.heap.size + 1 + 1) (by omega))
  exact bodyPost_ret (ret_cell rfl _ _ (w.heap.size + 1 + 1) _ _ (0, 0) _ rfl hrow Tryz.underlying120 rfl (node_info _ _ _ _ _)) rfl (HQ.out _ _ ⟨_, rfl, (by rw [HE.out]; exact nodeV_leaf _ _ _ _ _), hbf⟩)
 case' true =>
  have HND2 := HND.out
  rw [if_pos rfl] at HND2
  obtain ⟨⟨hn1, hn8⟩, hsl⟩ := HFT.out rfl
  have HSL := zh hsl
  have HONE := zh (HON.out rfl)
  clear hsl HND HFT HON
  obtain ⟨ab, ao, hA, hab, _⟩ := hF.at (k := 0) (by rw [HNF.out]; omega)
  subst hA
  have HRG : Hid (∀ j, j < nf → ∀ W, Below w.heap.size w W → W.rangeAt ab (ao + j * 67) (fcells (fs.getD j f0))) := fun j hj W h => (hF.below h).rng (by rw [HNF.out]; exact hj)
  have HRW : Hid (∀ j, j < nf → RW (fs.getD j f0).l) := fun j hj => (hF.okAt (by rw [HNF.out]; exact hj)).rows
  obtain ⟨CF, hCF⟩ : ∃ CF : Nat → Nd, CF = fun i => conN (fs.getD i f0) (e.getD i 0) := ⟨_, rfl⟩
  have HE : Hid (ND = if t = true then nd 4 0 ⟨#[]⟩ [] ((List.range nf).map CF) else CF 0) := by
   rw [hCF]
   exact HND2
  have HCFa : Hid (∀ i, CF i = conN (fs.getD i f0) (e.getD i 0)) := fun i => by rw [hCF]
  clear HND2 hCF hF
  go_upto_region 4 with fail
  have HNo := zh (RowAt.new w2 120 #[.int .i64 4, .int .i64 0, .string ⟨#[]⟩, .slice none 0 0, .slice none 0 0])
  have HSo := zh (HS2.out.alloc (.cells #[.int .i64 4, .int .i64 0, .string ⟨#[]⟩, .slice none 0 0, .slice none 0 0] 120))
  have HPo := zh (HP2.out.alloc (.cells #[.int .i64 4, .int .i64 0, .string ⟨#[]⟩, .slice none 0 0, .slice none 0 0] 120))
  have HGo := zh (HG2.out.alloc (.cells #[.int .i64 4, .int .i64 0, .string ⟨#[]⟩, .slice none 0 0, .slice none 0 0] 120))
  have HBo := zh (HB2.out.alloc HB2.out.size (.cells #[.int .i64 4, .int .i64 0, .string ⟨#[]⟩, .slice none 0 0, .slice none 0 0] 120))
  have hgn : w.heap.size + 1 + 1 < w2.heap.size := HG2.out.lt
  clear HS2 HP2 HG2 HB2
  generalize w2.alloc (.cells #[.int .i64 4, .int .i64 0, .string ⟨#[]⟩, .slice none 0 0, .slice none 0 0] 120) = wo at *
  generalize w2.heap.size = gN at *
  have HGW : Hid (gN < wo.heap.size) := HNo.out.lt
  have hgw := HGW.out
  obtain ⟨c0, c1⟩ := HSH.out _ HSo.out
  go_wp2_with fail
  clear c0 c1
  go_loopw [6, 17] (fun _ iv wr => ∃ i : Nat, i ≤ nf ∧ iv = .int .i64 i ∧ Hid (GotK gN 4 wo ((List.range i).map CF) wr)) (fun _ iv _ => nf - (intOf iv).toNat)
  case atStart => exact ⟨0, by omega, rfl, [], none, 0, HNo.out, by rw [TM.er]; rfl, World.ownsRow_nil _ _ _ _, DeepN.nil _ _, Mv.refl _ _⟩
  case round =>
   obtain ⟨i, hi, rfl, hgot⟩ := hrel
   obtain ⟨zs, X, d, hrow, her, hown, hdeep, hm⟩ := hgot.out
   have hzl : zs.length = i := by rw [← TM.er_length, her, List.length_map, List.length_range]
   have HZL := zh hzl
   have hzi : zs.length ≤ i := by omega
   clear hzl
   have HEr := zh her
   have HOr := zh hown
   have HDr := zh hdeep
   have HMr := zh hm
   have HNr := zh hrow
   clear hgot hrow her hown hdeep hm
   by_cases hlt : i < nf
   ·have hin : (i : Int) < (nf : Int) := by omega
    have hi8 : (i : Int) < 8 := by omega
    have hfb := HSL.out i hlt
    have HCN := zh (HCO.out i hlt hfb.1 hfb.2)
    have HCF := zh (HCFa.out i)
    have hl := HRW.out i hlt
    have HBr := zh (HBo.out.trans (HMr.out.low.mono (by omega)))
    have hr0 := HRG.out i hlt wr HBr.out
    have hce := (HPo.out.mv HMr.out (by omega)).cell i
    rw [ev_at he i (by omega)] at hce
    have HPr := zh (HPo.out.mv HMr.out (by omega))
    have HCE : Hid (∀ W, RowAt W (w.heap.size + 1) 41 (uv e) → W.cell? ⟨w.heap.size + 1, i, none⟩ = some (.int .u64 ((e.getD i 0 : Nat) : Int))) := fun W h => (h.cell i).trans (ev_at he i (by omega))
    have hszr := HMr.out.size
    clear hfb hce
    generalize fs.getD i f0 = f at *
    generalize e.getD i 0 = v at *
    go_upto_region 7 with (first | (refine wpList_loadFacIn (by rfl) _ rfl ab (ao + i * 67) rfl f hl hr0 ?_) | (refine wpList_storeFac (by rfl) _ _ rfl wr.heap.size rfl f hl rfl _ zero_fac_size (RowAt.new _ _ _) ?_; intro w6 r6 he6; have HN6 := zh ((HNr.out.alloc (.cells Tryz.zeroCells64 64)).other he6 (Nat.ne_of_lt HNr.out.lt)); have HM6 := zh ((HMr.out.alloc hgw (.cells Tryz.zeroCells64 64)).on (he6.below (B := gN) (by omega)) (fun k hk _ => he6.block k (by omega))); have HBf : Hid (Below wr.heap.size wr w6) := ((zB _ _).alloc (zL _) _).trans (he6.below (zL _)); clear he6))
    have HO6 := zh (own_below HOr.out HBf.out (zL _))
    have HD6 := zh (HDr.out.keep HBf.out.size (fun k hk _ => HBf.out.block k hk) (fun _ _ h => h))
    have HB6 := zh (HBr.out.trans (HBf.out.mono HBr.out.size))
    have HP6 := zh (HPr.out.below HBf.out HPr.out.lt)
    have HWS : Hid (wo.heap.size ≤ w6.heap.size) := HM6.out.size
    have hg6 : gN < w6.heap.size := by have := HWS.out; omega
    have HNO : Hid ((Value.slice X zs.length d).ownBlock ≠ some wr.heap.size) := fun e => by have := (HOr.out.lt _ e).2; omega
    have HRf := zh r6
    have hg6n : gN < wr.heap.size := HNr.out.lt
    clear r6 HOr HDr HMr HNr HBr HPr HBf hr0
    generalize wr.heap.size = g6 at *
    obtain ⟨S, hSe⟩ : ∃ S : World → Prop, S = fun W => RowAt W g6 64 (fv f) ∧ RowAt W (w.heap.size + 1) 41 (uv e) := ⟨_, rfl⟩
    have SI : Hid (∀ W, RowAt W g6 64 (fv f) → RowAt W (w.heap.size + 1) 41 (uv e) → S W) := fun W h h2 => by rw [hSe]; exact ⟨h, h2⟩
    have pF : ∀ W, S W → RowAt W g6 64 (fv f) := fun W h => by rw [hSe] at h; exact h.1
    have K1 : ∀ W, S W → W.cell? ⟨w.heap.size + 1, i, none⟩ = some (.int .u64 (v : Int)) := fun W h => by rw [hSe] at h; exact HCE.out W h.2
    clear hSe
    have HMV : Hid (Mv gN w6 w6.drew) := (Mv.refl _ _).drew
    have HNV := zh HN6.out.drew
    have HRV := zh HRf.out.drew
    have HPV := zh HP6.out.drew
    clear HRf HP6 HN6
    refine wp_region_ot S (.take 0 (.take 2 (.take 3 (.take 4 (.take 5 (.two 1 (.solo 6 (.solo 7 (.solo 8 (.take 9 (.solo 10 .nil))))) 6 (.two 1 (.solo 7 (.solo 8 (.take 9 (.solo 10 .nil)))) 7 (.solo 1 (.solo 8 (.take 9 (.solo 10 .nil))))))))))) (by kernel_rfl) (by kernel_rfl) rfl (by kernel_rfl) (SI.out _ HRV.out HPV.out) ?_
    generalize w6.drew = V at HMV HNV HRV HPV ⊢
    iterate 5
     (refine wpOT_step (zO rfl) ?_)
     (first
      | (refine wpOT_skip (by rfl) ?_)
      | (refine wpOT_take (by rfl) (take_loadFac _ rfl _ rfl _ hl pF) ?_)
      | (refine wpOT_take (v := ?_) (by rfl) ?_ ?_; rotate_left 1; (intro wx hSx; have hc_0 := K1 wx hSx; go_simp; try with_reducible rfl)))
     (try simp only [Act.put, zA4, zA5, zA6])
    clear K1 pF
    refine wpOT_two ?_ ?_
    ·have k4 : V.cell? ⟨gN, 4, none⟩ = some (.slice X zs.length d) := (RowAt.cell HNV.out 4).trans rfl
     (refine wpOT_solo (zO rfl) ?_)
     intro K hK
     go_simp
     refine hK.out _ _ (SI.out _ HRV.out HPV.out) ?_
     clear hK K
     (try simp only [Act.put, zA4, zA5, zA6])
     clear k4
     (refine wpOT_solo (zO rfl) ?_)
     intro K hK
     go_simp
     go_at_call 113
     refine (HCN.out V (HB6.out.trans (HMV.out.low.mono (by omega)))).mono ?_
     rintro x wn ⟨y, rfl, ⟨⟨zk, zp, zt, zA, zc, zw, zBq, zd, zx⟩, rfl, hez, hdz⟩, hb⟩
     have HEZ := zh hez
     have HDZ := zh hdz
     have HVS : Hid (w6.heap.size ≤ V.heap.size) := HMV.out.size
     have HMwn := zh (HMV.out.onBelow hg6 hb HMV.out.size)
     have HNwn := zh (HNV.out.below hb HNV.out.lt)
     have HRwn := zh (HRV.out.below hb HRV.out.lt)
     have HPwn := zh (HPV.out.below hb HPV.out.lt)
     clear hez hdz hb
     unfold nv
     simp only [Nd.k, Nd.p, Nd.s, Nd.A, Nd.c, Nd.ws, Nd.B, Nd.d, Nd.ks]
     refine hK.out _ _ (SI.out _ HRwn.out HPwn.out) ?_
     clear hK K
     (try simp only [Act.put, zA4, zA5, zA6])
     have HDG := zh (deep_more (w := wo) HD6.out HMwn.out HDZ.out HO6.out HVS.out HGW.out HWS.out (.cells #[.int .i64 zk, .int .i64 zp, .string zt, .slice zA zw.length zc, .slice zBq zx.length zd] 120))
     have HOG : Hid ((wn.alloc (.cells #[.int .i64 zk, .int .i64 zp, .string zt, .slice zA zw.length zc, .slice zBq zx.length zd] 120)).ownsRow wo.heap.size 120 5 (.slice X zs.length d) zs.length (ncs zs)) := (own_like9 HO6.out (fun k hk e => HMwn.out.block k hk (by have h1 := HO6.out.lt k e; have h2 := HGW.out; omega))).alloc _
     have HRG := zh (RowAt.new wn 120 #[.int .i64 zk, .int .i64 zp, .string zt, .slice zA zw.length zc, .slice zBq zx.length zd])
     have HMwb := zh (HMwn.out.alloc hg6 (.cells #[.int .i64 zk, .int .i64 zp, .string zt, .slice zA zw.length zc, .slice zBq zx.length zd] 120))
     have HNwb := zh (HNwn.out.alloc (.cells #[.int .i64 zk, .int .i64 zp, .string zt, .slice zA zw.length zc, .slice zBq zx.length zd] 120))
     have HRwb := zh (HRwn.out.alloc (.cells #[.int .i64 zk, .int .i64 zp, .string zt, .slice zA zw.length zc, .slice zBq zx.length zd] 120))
     have HPwb := zh (HPwn.out.alloc (.cells #[.int .i64 zk, .int .i64 zp, .string zt, .slice zA zw.length zc, .slice zBq zx.length zd] 120))
     clear HDZ
     (refine wpOT_solo (zO rfl) ?_)
     intro K hK
     go_simp
     refine hK.out _ _ (SI.out _ HRwb.out HPwb.out) ?_
     clear hK K
     (try simp only [Act.put, zA4, zA5, zA6])
     generalize wn.alloc (.cells #[.int .i64 zk, .int .i64 zp, .string zt, .slice zA zw.length zc, .slice zBq zx.length zd] 120) = wb at *
     generalize wn.heap.size = g9 at *
     (refine wpOT_solo (zO rfl) ?_)
     intro K hK
     rw [if_pos (by rfl)]
     refine wp_moreB _ _ 118 rfl 120 (.agg #[.int .i64 0, .int .i64 0, .string ⟨#[]⟩, .slice none 0 0, .slice none 0 0]) 5 80 Tryz.underlying118 infoNode rfl (by decide) wo.heap.size X zs.length d (ncs zs) rfl HOG.out g9 (ncells (Nd.mk zk zp zt zA zc zw zBq zd zx)) rfl rfl ?c2_1 (nc_one _) ?c3_1 ?c4_1 ?c5_1 ?_
     case c2_1 => intro j u hu; exact (HRG.out.cell j).trans (by show ((ncells (Nd.mk zk zp zt zA zc zw zBq zd zx)).toArray)[j]? = some u; rw [zA1]; exact hu)
     case c3_1 => simp only [maxLen]; omega
     case c4_1 => omega
     case c5_1 => have h1 := HMwb.out.size; have h2 := HWS.out; omega
     intro X5 d5 w5 hown5 hb5 hg5 hat5
     have HN5 := zh (HNwb.out.below hb5 HGW.out)
     have HM5 := zh ((HM6.out.trans HMwb.out).onBelow HGW.out hb5 (zL _))
     have HD5 := zh (deep_grown (n := zs.length) (m := zs.length + 1) HDG.out hg5 hat5)
     have HO5 := zh hown5
     have HR5 := zh (HRwb.out.grown hg5 HNO.out)
     have HP5 := zh (HPwb.out.below hb5 (by omega))
     refine hK.out _ _ (SI.out _ HR5.out HP5.out) ?_
     clear hK K
     (try simp only [Act.put, zA4, zA5, zA6])
     clear hown5 hb5 hg5 hat5 HOG HDG HRG HMwb HNwb
     iterate 1
      (refine wpOT_step (zO rfl) ?_)
      (first
       | (refine wpOT_skip (by rfl) ?_)
       | (refine wpOT_take (v := ?_) (by rfl) ?_ ?_; rotate_left 1; (intro wx hSx; go_simp; try with_reducible rfl)))
      (try simp only [Act.put, zA4, zA5, zA6])
     have k4 : w5.cell? ⟨gN, 4, none⟩ = some (.slice X zs.length d) := (RowAt.cell HN5.out 4).trans rfl
     have f4 := HN5.out.free 4
     have HF := zh (SP.finK HGW.out HN5.out HO5.out HD5.out HM5.out)
     (refine wpOT_solo (zO rfl) ?_)
     intro K hK
     go_simp
     refine hK.out _ _ (SI.out _ (HR5.out.far (p := ⟨gN, 4, none⟩) (by show gN ≠ g6; omega) _) (HP5.out.far (p := ⟨gN, 4, none⟩) (by show gN ≠ w.heap.size + 1; omega) _)) ?_
     clear hK K k4 f4
     (try simp only [Act.put, zA4, zA5, zA6])
     refine wpOT_done ?_
     have HE6 : Hid (TM.er (zs ++ [(Nd.mk zk zp zt zA zc zw zBq zd zx)]) = (List.range (i + 1)).map CF) := by
      show TM.er (zs ++ [(Nd.mk zk zp zt zA zc zw zBq zd zx)]) = (List.range (i + 1)).map CF
      rw [List.range_succ, List.map_append, TM.er_append, HEr.out, er_one, HEZ.out, ← HCF.out]; rfl
     go_wp2_with fail
     go_roundw
     case rel => exact ⟨i + 1, by omega, by go_num, by show GotK gN 4 wo _ _; rw [← HE6.out]; exact HF.out.2⟩
     case measure => simp [intOf]; omega
    ·(refine wpOT_solo (zO rfl) ?_)
     intro K hK
     go_simp
     go_at_call 113
     refine (HCN.out V (HB6.out.trans (HMV.out.low.mono (by omega)))).mono ?_
     rintro x wn ⟨y, rfl, ⟨⟨zk, zp, zt, zA, zc, zw, zBq, zd, zx⟩, rfl, hez, hdz⟩, hb⟩
     have HEZ := zh hez
     have HDZ := zh hdz
     have HVS : Hid (w6.heap.size ≤ V.heap.size) := HMV.out.size
     have HMwn := zh (HMV.out.onBelow hg6 hb HMV.out.size)
     have HNwn := zh (HNV.out.below hb HNV.out.lt)
     have HRwn := zh (HRV.out.below hb HRV.out.lt)
     have HPwn := zh (HPV.out.below hb HPV.out.lt)
     clear hez hdz hb
     unfold nv
     simp only [Nd.k, Nd.p, Nd.s, Nd.A, Nd.c, Nd.ws, Nd.B, Nd.d, Nd.ks]
     refine hK.out _ _ (SI.out _ HRwn.out HPwn.out) ?_
     clear hK K
     (try simp only [Act.put, zA4, zA5, zA6])
     refine wpOT_two ?_ ?_
     ·have k4 : wn.cell? ⟨gN, 4, none⟩ = some (.slice X zs.length d) := (RowAt.cell HNwn.out 4).trans rfl
      (refine wpOT_solo (zO rfl) ?_)
      intro K hK
      go_simp
      refine hK.out _ _ (SI.out _ HRwn.out HPwn.out) ?_
      clear hK K
      (try simp only [Act.put, zA4, zA5, zA6])
      clear k4
      have HDG := zh (deep_more (w := wo) HD6.out HMwn.out HDZ.out HO6.out HVS.out HGW.out HWS.out (.cells #[.int .i64 zk, .int .i64 zp, .string zt, .slice zA zw.length zc, .slice zBq zx.length zd] 120))
      have HOG : Hid ((wn.alloc (.cells #[.int .i64 zk, .int .i64 zp, .string zt, .slice zA zw.length zc, .slice zBq zx.length zd] 120)).ownsRow wo.heap.size 120 5 (.slice X zs.length d) zs.length (ncs zs)) := (own_like9 HO6.out (fun k hk e => HMwn.out.block k hk (by have h1 := HO6.out.lt k e; have h2 := HGW.out; omega))).alloc _
      have HRG := zh (RowAt.new wn 120 #[.int .i64 zk, .int .i64 zp, .string zt, .slice zA zw.length zc, .slice zBq zx.length zd])
      have HMwb := zh (HMwn.out.alloc hg6 (.cells #[.int .i64 zk, .int .i64 zp, .string zt, .slice zA zw.length zc, .slice zBq zx.length zd] 120))
      have HNwb := zh (HNwn.out.alloc (.cells #[.int .i64 zk, .int .i64 zp, .string zt, .slice zA zw.length zc, .slice zBq zx.length zd] 120))
      have HRwb := zh (HRwn.out.alloc (.cells #[.int .i64 zk, .int .i64 zp, .string zt, .slice zA zw.length zc, .slice zBq zx.length zd] 120))
      have HPwb := zh (HPwn.out.alloc (.cells #[.int .i64 zk, .int .i64 zp, .string zt, .slice zA zw.length zc, .slice zBq zx.length zd] 120))
      clear HDZ
      (refine wpOT_solo (zO rfl) ?_)
      intro K hK
      go_simp
      refine hK.out _ _ (SI.out _ HRwb.out HPwb.out) ?_
      clear hK K
      (try simp only [Act.put, zA4, zA5, zA6])
      generalize wn.alloc (.cells #[.int .i64 zk, .int .i64 zp, .string zt, .slice zA zw.length zc, .slice zBq zx.length zd] 120) = wb at *
      generalize wn.heap.size = g9 at *
      (refine wpOT_solo (zO rfl) ?_)
      intro K hK
      rw [if_pos (by rfl)]
      refine wp_moreB _ _ 118 rfl 120 (.agg #[.int .i64 0, .int .i64 0, .string ⟨#[]⟩, .slice none 0 0, .slice none 0 0]) 5 80 Tryz.underlying118 infoNode rfl (by decide) wo.heap.size X zs.length d (ncs zs) rfl HOG.out g9 (ncells (Nd.mk zk zp zt zA zc zw zBq zd zx)) rfl rfl ?c2_2 (nc_one _) ?c3_2 ?c4_2 ?c5_2 ?_
      case c2_2 => intro j u hu; exact (HRG.out.cell j).trans (by show ((ncells (Nd.mk zk zp zt zA zc zw zBq zd zx)).toArray)[j]? = some u; rw [zA1]; exact hu)
      case c3_2 => simp only [maxLen]; omega
      case c4_2 => omega
      case c5_2 => have h1 := HMwb.out.size; have h2 := HWS.out; omega
      intro X5 d5 w5 hown5 hb5 hg5 hat5
      have HN5 := zh (HNwb.out.below hb5 HGW.out)
      have HM5 := zh ((HM6.out.trans HMwb.out).onBelow HGW.out hb5 (zL _))
      have HD5 := zh (deep_grown (n := zs.length) (m := zs.length + 1) HDG.out hg5 hat5)
      have HO5 := zh hown5
      have HR5 := zh (HRwb.out.grown hg5 HNO.out)
      have HP5 := zh (HPwb.out.below hb5 (by omega))
      refine hK.out _ _ (SI.out _ HR5.out HP5.out) ?_
      clear hK K
      (try simp only [Act.put, zA4, zA5, zA6])
      clear hown5 hb5 hg5 hat5 HOG HDG HRG HMwb HNwb
      iterate 1
       (refine wpOT_step (zO rfl) ?_)
       (first
             | (refine wpOT_skip (by rfl) ?_)
             | (refine wpOT_take (v := ?_) (by rfl) ?_ ?_; rotate_left 1; (intro wx hSx; go_simp; try with_reducible rfl)))
       (try simp only [Act.put, zA4, zA5, zA6])
      have k4 : w5.cell? ⟨gN, 4, none⟩ = some (.slice X zs.length d) := (RowAt.cell HN5.out 4).trans rfl
      have f4 := HN5.out.free 4
      have HF := zh (SP.finK HGW.out HN5.out HO5.out HD5.out HM5.out)
      (refine wpOT_solo (zO rfl) ?_)
      intro K hK
      go_simp
      refine hK.out _ _ (SI.out _ (HR5.out.far (p := ⟨gN, 4, none⟩) (by show gN ≠ g6; omega) _) (HP5.out.far (p := ⟨gN, 4, none⟩) (by show gN ≠ w.heap.size + 1; omega) _)) ?_
      clear hK K k4 f4
      (try simp only [Act.put, zA4, zA5, zA6])
      refine wpOT_done ?_
      have HE6 : Hid (TM.er (zs ++ [(Nd.mk zk zp zt zA zc zw zBq zd zx)]) = (List.range (i + 1)).map CF) := by
       show TM.er (zs ++ [(Nd.mk zk zp zt zA zc zw zBq zd zx)]) = (List.range (i + 1)).map CF
       rw [List.range_succ, List.map_append, TM.er_append, HEr.out, er_one, HEZ.out, ← HCF.out]; rfl
      go_wp2_with fail
      go_roundw
      case rel => exact ⟨i + 1, by omega, by go_num, by show GotK gN 4 wo _ _; rw [← HE6.out]; exact HF.out.2⟩
      case measure => simp [intOf]; omega
     ·have HDG := zh (deep_more (w := wo) HD6.out HMwn.out HDZ.out HO6.out HVS.out HGW.out HWS.out (.cells #[.int .i64 zk, .int .i64 zp, .string zt, .slice zA zw.length zc, .slice zBq zx.length zd] 120))
      have HOG : Hid ((wn.alloc (.cells #[.int .i64 zk, .int .i64 zp, .string zt, .slice zA zw.length zc, .slice zBq zx.length zd] 120)).ownsRow wo.heap.size 120 5 (.slice X zs.length d) zs.length (ncs zs)) := (own_like9 HO6.out (fun k hk e => HMwn.out.block k hk (by have h1 := HO6.out.lt k e; have h2 := HGW.out; omega))).alloc _
      have HRG := zh (RowAt.new wn 120 #[.int .i64 zk, .int .i64 zp, .string zt, .slice zA zw.length zc, .slice zBq zx.length zd])
      have HMwb := zh (HMwn.out.alloc hg6 (.cells #[.int .i64 zk, .int .i64 zp, .string zt, .slice zA zw.length zc, .slice zBq zx.length zd] 120))
      have HNwb := zh (HNwn.out.alloc (.cells #[.int .i64 zk, .int .i64 zp, .string zt, .slice zA zw.length zc, .slice zBq zx.length zd] 120))
      have HRwb := zh (HRwn.out.alloc (.cells #[.int .i64 zk, .int .i64 zp, .string zt, .slice zA zw.length zc, .slice zBq zx.length zd] 120))
      have HPwb := zh (HPwn.out.alloc (.cells #[.int .i64 zk, .int .i64 zp, .string zt, .slice zA zw.length zc, .slice zBq zx.length zd] 120))
      clear HDZ
      (refine wpOT_solo (zO rfl) ?_)
      intro K hK
      go_simp
      refine hK.out _ _ (SI.out _ HRwb.out HPwb.out) ?_
      clear hK K
      (try simp only [Act.put, zA4, zA5, zA6])
      generalize wn.alloc (.cells #[.int .i64 zk, .int .i64 zp, .string zt, .slice zA zw.length zc, .slice zBq zx.length zd] 120) = wb at *
      generalize wn.heap.size = g9 at *
      have k4 : wb.cell? ⟨gN, 4, none⟩ = some (.slice X zs.length d) := (RowAt.cell HNwb.out 4).trans rfl
      (refine wpOT_solo (zO rfl) ?_)
      intro K hK
      go_simp
      refine hK.out _ _ (SI.out _ HRwb.out HPwb.out) ?_
      clear hK K
      (try simp only [Act.put, zA4, zA5, zA6])
      clear k4
      (refine wpOT_solo (zO rfl) ?_)
      intro K hK
      rw [if_pos (by rfl)]
      refine wp_moreB _ _ 118 rfl 120 (.agg #[.int .i64 0, .int .i64 0, .string ⟨#[]⟩, .slice none 0 0, .slice none 0 0]) 5 80 Tryz.underlying118 infoNode rfl (by decide) wo.heap.size X zs.length d (ncs zs) rfl HOG.out g9 (ncells (Nd.mk zk zp zt zA zc zw zBq zd zx)) rfl rfl ?c2_3 (nc_one _) ?c3_3 ?c4_3 ?c5_3 ?_
      case c2_3 => intro j u hu; exact (HRG.out.cell j).trans (by show ((ncells (Nd.mk zk zp zt zA zc zw zBq zd zx)).toArray)[j]? = some u; rw [zA1]; exact hu)
      case c3_3 => simp only [maxLen]; omega
      case c4_3 => omega
      case c5_3 => have h1 := HMwb.out.size; have h2 := HWS.out; omega
      intro X5 d5 w5 hown5 hb5 hg5 hat5
      have HN5 := zh (HNwb.out.below hb5 HGW.out)
      have HM5 := zh ((HM6.out.trans HMwb.out).onBelow HGW.out hb5 (zL _))
      have HD5 := zh (deep_grown (n := zs.length) (m := zs.length + 1) HDG.out hg5 hat5)
      have HO5 := zh hown5
      have HR5 := zh (HRwb.out.grown hg5 HNO.out)
      have HP5 := zh (HPwb.out.below hb5 (by omega))
      refine hK.out _ _ (SI.out _ HR5.out HP5.out) ?_
      clear hK K
      (try simp only [Act.put, zA4, zA5, zA6])
      clear hown5 hb5 hg5 hat5 HOG HDG HRG HMwb HNwb
      iterate 1
       (refine wpOT_step (zO rfl) ?_)
       (first
             | (refine wpOT_skip (by rfl) ?_)
             | (refine wpOT_take (v := ?_) (by rfl) ?_ ?_; rotate_left 1; (intro wx hSx; go_simp; try with_reducible rfl)))
       (try simp only [Act.put, zA4, zA5, zA6])
      have k4 : w5.cell? ⟨gN, 4, none⟩ = some (.slice X zs.length d) := (RowAt.cell HN5.out 4).trans rfl
      have f4 := HN5.out.free 4
      have HF := zh (SP.finK HGW.out HN5.out HO5.out HD5.out HM5.out)
      (refine wpOT_solo (zO rfl) ?_)
      intro K hK
      go_simp
      refine hK.out _ _ (SI.out _ (HR5.out.far (p := ⟨gN, 4, none⟩) (by show gN ≠ g6; omega) _) (HP5.out.far (p := ⟨gN, 4, none⟩) (by show gN ≠ w.heap.size + 1; omega) _)) ?_
      clear hK K k4 f4
      (try simp only [Act.put, zA4, zA5, zA6])
      refine wpOT_done ?_
      have HE6 : Hid (TM.er (zs ++ [(Nd.mk zk zp zt zA zc zw zBq zd zx)]) = (List.range (i + 1)).map CF) := by
       show TM.er (zs ++ [(Nd.mk zk zp zt zA zc zw zBq zd zx)]) = (List.range (i + 1)).map CF
       rw [List.range_succ, List.map_append, TM.er_append, HEr.out, er_one, HEZ.out, ← HCF.out]; rfl
      go_wp2_with fail
      go_roundw
      case rel => exact ⟨i + 1, by omega, by go_num, by show GotK gN 4 wo _ _; rw [← HE6.out]; exact HF.out.2⟩
      case measure => simp [intOf]; omega
   ·obtain rfl : i = nf := by omega
    have HCP := zh (own_cap_le HOr.out)
    have HSr := zh (HSo.out.mv HMr.out (by omega))
    have HGr := zh (HGo.out.mv HMr.out (by omega))
    have HBr := zh (HBo.out.trans (HMr.out.low.mono (by omega)))
    obtain ⟨c0, c1⟩ := HSH.out _ HSr.out
    obtain ⟨m0, m1, m2, m3, m4, _, _, _, _, _⟩ := row5 HNr.out
    obtain ⟨r0, r1, r2, r3, r4, u0, u1, u2, u3, u4⟩ := row5 HGr.out
    cases t
    case' true =>
     have HE2 : Hid (ND = nd 4 0 ⟨#[]⟩ [] ((List.range i).map CF)) := HE.out
     go_wp2_with fail
     change bodyPost _ _ _ _ _ (set5 wr (w.heap.size + 1 + 1) (.int .i64 4) (.int .i64 0) (.string ⟨#[]⟩) (.slice none 0 0) (.slice X zs.length d))
     have hrow := set5_row (a0 := .int .i64 4) (b0 := .int .i64 0) (c0 := .string ⟨#[]⟩) (d0 := .slice none 0 0) (e0 := .slice X zs.length d) HGr.out
     have hbf := HBr.out.trans (set5_below (a0 := .int .i64 4) (b0 := .int .i64 0) (c0 := .string ⟨#[]⟩) (d0 := .slice none 0 0) (e0 := .slice X zs.length d) (w := wr) (b := w.heap.size) (g := w.heap.size + 1 + 1) (by omega))
     exact bodyPost_ret (ret_cell rfl _ _ (w.heap.size + 1 + 1) _ _ (0, 0) _ rfl hrow Tryz.underlying120 rfl (node_info _ _ _ _ _)) rfl (HQ.out _ _ ⟨_, rfl, (by rw [HE2.out, ← HEr.out]; exact nodeV_kids HCP.out (set5_slc (SlC.of_own HOr.out (ok := fun k => wo.heap.size ≤ k) fun k h _ => h) fun k _ h8 => ⟨by omega, by omega⟩) (set5_deep HDr.out fun k _ h8 => ⟨by have := h8.1; omega, by have := h8.1; omega⟩)), hbf⟩)
    case' false =>
     have h9 : i = 1 := HONE.out rfl
     have HE2 : Hid (ND = CF 0) := HE.out
     obtain ⟨z, rfl⟩ : ∃ z, zs = [z] := by
      match zs, HZL.out with
      | [z], _ => exact ⟨z, rfl⟩
      | [], h => simp at h; omega
      | _ :: _ :: _, h => simp at h; omega
     have hez : er1 z = CF 0 := by
      have h := HEr.out
      rw [h9, er_one] at h
      injection h
     have HEZ := zh hez
     obtain ⟨g4, rfl, hg4B, hg4lt, hg4f, hg4c⟩ := own_at HOr.out (by rw [ncs_one]; exact fun h => by have := congrArg List.length h; simp [ncells_length] at this)
     obtain ⟨zk, zp, zt, zA, zc, zw, zBq, zd, zx⟩ := z
     rw [ncs_one] at hg4c
     have z0 := hg4c 0 _ rfl
     have z1 := hg4c 1 _ rfl
     have z2 := hg4c 2 _ rfl
     have z3 := hg4c 3 _ rfl
     have z4 := hg4c 4 _ rfl
     clear hg4c hez h9
     simp only [Nd.k, Nd.p, Nd.s, Nd.A, Nd.c, Nd.ws, Nd.B, Nd.d, Nd.ks, zA8, zA9, Nat.zero_add] at z0 z1 z2 z3 z4 m4
     go_wp2_with fail
     change bodyPost _ _ _ _ _ (set5 wr (w.heap.size + 1 + 1) (.int .i64 zk) (.int .i64 zp) (.string zt) (.slice zA zw.length zc) (.slice zBq zx.length zd))
     have hrow := set5_row (a0 := .int .i64 zk) (b0 := .int .i64 zp) (c0 := .string zt) (d0 := .slice zA zw.length zc) (e0 := .slice zBq zx.length zd) HGr.out
     have hbf := HBr.out.trans (set5_below (a0 := .int .i64 zk) (b0 := .int .i64 zp) (c0 := .string zt) (d0 := .slice zA zw.length zc) (e0 := .slice zBq zx.length zd) (w := wr) (b := w.heap.size) (g := w.heap.size + 1 + 1) (by omega))
     exact bodyPost_ret (ret_cell rfl _ _ (w.heap.size + 1 + 1) _ _ (0, 0) _ rfl hrow Tryz.underlying120 rfl (node_info _ _ _ _ _)) rfl (HQ.out _ _ ⟨_, rfl, ⟨(Nd.mk zk zp zt zA zc zw zBq zd zx), rfl, by rw [HE2.out]; exact HEZ.out, set5_deep HDr.out fun k _ h8 => ⟨by have := h8.1; omega, by have := h8.1; omega⟩⟩, hbf⟩)
end
section
open Go.RowKit LX TR TM SP RM
theorem stext_any (t : Bool) (A : Option Addr) (c : Nat) (fs : List Fac) (e : List Nat) (he : EW e) (w : World) (hT : Tab w) (hF : Facs w A fs) :
 Calls Tryz.prog 42 #[.agg (sv t A fs.length c), .agg (uv e)] w fun x w' => (∃ s : ByteArray, x = .returned (.string s) ∧ lst s = 35 :: tx (nodeE t fs e)) ∧ Below w.heap.size w w' := by
 have HND := zh (fun W (h : Below w.heap.size w W) => snode_any t A c fs e he W (hT.below h) (hF.below h))
 have hv := node_vol t fs e
 have HV := zh hv
 clear hv
 generalize nodeE t fs e = ND at *
 have hs0 := (RowAt.new w 53 (sv t A fs.length c)).alloc (.cells (uv e) 41)
 have hp0 := RowAt.new (w.alloc (.cells (sv t A fs.length c) 53)) 41 (uv e)
 rw [show (w.alloc (.cells (sv t A fs.length c) 53)).heap.size = w.heap.size + 1 by simp] at hp0
 have HB1 : Hid (Below w.heap.size w ((w.alloc (.cells (sv t A fs.length c) 53)).alloc (.cells (uv e) 41))) := ((zB _ _).alloc (zL _) _).alloc (by simp) _
 have HS1 := zh hs0
 have HP1 := zh hp0
 clear hs0 hp0 hF hT
 generalize fs.length = nf at *
 go_enter Tryz.func42, Tryz.ntmps42
 go_upto_region 1 with fail
 generalize (w.alloc (.cells (sv t A nf c) 53)).alloc (.cells (uv e) 41) = w1 at *
 go_wp2_with (first | (refine wpList_loadShape (by rfl) _ rfl w.heap.size rfl t A nf c HS1.out ?_) | (refine wpList_loadElem (by rfl) _ rfl (w.heap.size + 1) rfl _ he HP1.out ?_))
 refine (HND.out w1 HB1.out).mono ?_
 rintro x w2 ⟨y, rfl, ⟨z, rfl, hez, hdz⟩, hb⟩
 have HB2 := zh (HB1.out.trans (hb.mono HB1.out.size))
 have hvz : (tx z).length ≤ 5000000 := by
  have h1 := tx_vol ND
  have h2 := HV.out
  rw [← hez, tx_er] at h1
  rw [← hez] at h2
  omega
 have hcz : TM.cnt [z] ≤ 4294967296 := by
  have h1 := cnt_vol [ND]
  have h2 := HV.out
  rw [← hez, cnt_er1] at h1
  rw [← hez] at h2
  omega
 have htz : tx z = tx ND := by rw [← hez, tx_er]
 have HTX := zh (text_any z w2 hcz (by omega) hdz.nods)
 have HZ := zh (And.intro hvz htz)
 clear hb hez hdz hvz hcz htz
 go_wp2_with fail
 refine HTX.out.mono ?_
 rintro e w3 ⟨rfl, hb⟩
 have hs := lst_text10 z
 generalize text10 z = s at *
 have HB3 := zh (HB2.out.trans (hb.mono HB2.out.size))
 have hsz : s.size ≤ 140737488355000 := by have h := HZ.out.1; rw [lst_size s hs]; omega
 have h1 : ((⟨#[35]⟩ : ByteArray) ++ s).size = 1 + s.size := by rw [ByteArray.size_append]; rfl
 have HF : Hid (lst (⟨#[35]⟩ ++ s) = 35 :: tx ND) := by
  show _ = _
  rw [lst_app, hs, HZ.out.2]
  rfl
 clear hb hs
 go_wp2_with fail
 go_ret
 exact ⟨⟨_, rfl, HF.out⟩, HB3.out⟩
end
end Go.Proofs.YtnfndapgcpdcpaaGreatDoor
