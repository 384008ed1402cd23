/- Texts that SpellNodeCard need. Conditions: those that each states. -/

import Derived.Test.YtkgonoejnochjaaGreatDoorY23
import Derived.Test.YtkgonoejnochjaaGreatDoorY51
import Derived.Test.YtkgonoejnochjaaGreatDoorY53
set_option linter.unusedSimpArgs false
set_option linter.unusedVariables false
set_option maxRecDepth 8000
namespace Go.Proofs.YtkgonoejnochjaaGreatDoor
namespace SP
open TM
end SP
open Go.RowKit LX TR TM SP RM
set_option maxRecDepth 100000 in
set_option maxHeartbeats 3200000 in
theorem qnode11_any (t : Bool) (A : Option Addr) (c : Nat) (fs : List Fac) (e : List Nat) (he : EW e) (w : World) (hF : Facs w A fs) :
 Calls Tryz.prog 14 #[.agg (sv t A fs.length c), .agg (uv e)] w fun x w' => ∃ y, x = .returned y ∧ NodeV w' w.heap.size (nodeE t fs e) y ∧ Below w.heap.size w w' := by
 have HFI := Lib.hid (fun W (h : Below w.heap.size w W) => qfitsE_any t A c fs e he W (hF.below h))
 have HFT := Lib.hid (fun (h : fitsE t fs e = true) => fits_slot h)
 have HCO : Hid (∀ j, j < fs.length → facB (fs.getD j f0) = true → wordB (fs.getD j f0) (e.getD j 0) = true → ∀ W, Below w.heap.size w W → Calls Tryz.prog 29 #[.agg (fv (fs.getD j f0)), .int .u64 ((e.getD j 0 : Nat) : Int)] W fun x w' => ∃ y, x = .returned y ∧ NodeV w' W.heap.size (conN (fs.getD j f0) (e.getD j 0)) y ∧ Below W.heap.size W w') := fun j hj h1 h2 W h =>
  qcon_any _ _ (he.lt j) W ((hF.below h).okAt hj) (by have := (facB_len h1).2; omega) h1 h2
 have HND : Hid (nodeE t fs e = if fitsE t fs e = true then (if t = true then nd 4 0 ⟨#[]⟩ [] ((List.range fs.length).map fun i => conN (fs.getD i f0) (e.getD i 0)) else conN (fs.getD 0 f0) (e.getD 0 0)) else n0) := rfl
 refine calls_hid fun Q' hQ => ?_
 have HQ := Lib.hid hQ; clear hQ
 generalize nodeE t fs e = ND at *
 generalize hnf : fs.length = nf at *
 have HNF := Lib.hid hnf; clear hnf
 have hs0 := ((RowAt.new w 24 (sv t A nf c)).alloc (.cells (uv e) 34)).alloc (.cells #[.int .i64 0, .int .i64 0, .string ⟨#[]⟩, .slice none 0 0, .slice none 0 0] 28)
 have hp0 := (RowAt.new (w.alloc (.cells (sv t A nf c) 24)) 34 (uv e)).alloc (.cells #[.int .i64 0, .int .i64 0, .string ⟨#[]⟩, .slice none 0 0, .slice none 0 0] 28)
 have hg0 := RowAt.new ((w.alloc (.cells (sv t A nf c) 24)).alloc (.cells (uv e) 34)) 28 #[.int .i64 0, .int .i64 0, .string ⟨#[]⟩, .slice none 0 0, .slice none 0 0]
 rw [show (w.alloc (.cells (sv t A nf c) 24)).heap.size = w.heap.size + 1 by simp] at hp0
 rw [show ((w.alloc (.cells (sv t A nf c) 24)).alloc (.cells (uv e) 34)).heap.size = w.heap.size + 1 + 1 by simp] at hg0
 have HS1 := Lib.hid hs0
 have HP1 := Lib.hid hp0
 have HG1 := Lib.hid hg0
 have HB1 : Hid (Below w.heap.size w (((w.alloc (.cells (sv t A nf c) 24)).alloc (.cells (uv e) 34)).alloc (.cells #[.int .i64 0, .int .i64 0, .string ⟨#[]⟩, .slice none 0 0, .slice none 0 0] 28))) := (((Below.refl _ _).alloc (Nat.le_refl _) _).alloc (by simp) _).alloc (by simp; omega) _
 have HSH : Hid (∀ W, RowAt W w.heap.size 24 (sv t A nf c) → W.cell? ⟨w.heap.size, 0, none⟩ = some (.bool t) ∧ W.cell? ⟨w.heap.size, 1, none⟩ = some (.slice A nf c)) := fun W h => shape_cells h
 clear hs0 hp0 hg0
 go_enter Tryz.func14, Tryz.ntmps14
 go_upto_region 1 with fail
 generalize (((w.alloc (.cells (sv t A nf c) 24)).alloc (.cells (uv e) 34)).alloc (.cells #[.int .i64 0, .int .i64 0, .string ⟨#[]⟩, .slice none 0 0, .slice none 0 0] 28)) = w1 at *
 go_wp2_with (first | (refine wpList_loadShape (by rfl) _ rfl w.heap.size rfl t A nf c HS1.out ?_) | (refine wpList_loadElem (by rfl) _ rfl (w.heap.size + 1) rfl _ he HP1.out ?_))
 refine (HFI.out w1 HB1.out).mono ?_
 rintro x w2 ⟨rfl, hb⟩
 have HS2 := Lib.hid (HS1.out.below hb HS1.out.lt)
 have HP2 := Lib.hid (HP1.out.below hb HP1.out.lt)
 have HG2 := Lib.hid (HG1.out.below hb HG1.out.lt)
 have HB2 := Lib.hid (HB1.out.trans (hb.mono HB1.out.size))
 clear hb HS1 HP1 HG1 HB1
 generalize fitsE t fs e = ft at *
 cases ft
 case' false =>
  have HE : Hid (ND = n0) := HND.out
  obtain ⟨g0, g1, g2, g3, g4, u0, u1, u2, u3, u4⟩ := row5 HG2.out
  go_wp2_with fail
  change bodyPost _ _ _ _ _ (set5 w2 (w.heap.size + 1 + 1) (.int .i64 0) (.int .i64 0) (.string ⟨#[]⟩) (.slice none 0 0) (.slice none 0 0))
  have hrow := set5_row (a0 := .int .i64 0) (b0 := .int .i64 0) (c0 := .string ⟨#[]⟩) (d0 := .slice none 0 0) (e0 := .slice none 0 0) HG2.out
  have hbf := HB2.out.trans (set5_below (a0 := .int .i64 0) (b0 := .int .i64 0) (c0 := .string ⟨#[]⟩) (d0 := .slice none 0 0) (e0 := .slice none 0 0) (w := w2) (b := w.heap.size) (g := w.heap.size + 1 + 1) (by omega))
  exact bodyPost_ret (ret_cell rfl _ _ (w.heap.size + 1 + 1) _ _ (0, 0) _ rfl hrow Tryz.underlying28 rfl (node_info _ _ _ _ _)) rfl (HQ.out _ _ ⟨_, rfl, (by rw [HE.out]; exact nodeV_leaf _ _ _ _ _), hbf⟩)
 case' true =>
  have HND2 := HND.out
  rw [if_pos rfl] at HND2
  obtain ⟨⟨hn1, hn8⟩, hsl⟩ := HFT.out rfl
  have HSL := Lib.hid hsl
  clear hsl HND HFT
  obtain ⟨ab, ao, hA, hab, _⟩ := hF.at (k := 0) (by rw [HNF.out]; omega)
  subst hA
  have HRG : Hid (∀ j, j < nf → ∀ W, Below w.heap.size w W → W.rangeAt ab (ao + j * 67) (fcells (fs.getD j f0))) := fun j hj W h => (hF.below h).rng (by rw [HNF.out]; exact hj)
  have HRW : Hid (∀ j, j < nf → RW (fs.getD j f0).l) := fun j hj => (hF.okAt (by rw [HNF.out]; exact hj)).rows
  obtain ⟨c0, c1⟩ := HSH.out _ HS2.out
  cases t
  case' false =>
   have HE : Hid (ND = conN (fs.getD 0 f0) (e.getD 0 0)) := HND2
   clear HND2
   have hin : 0 < nf := by omega
   have HCN := Lib.hid (HCO.out 0 (by omega) (HSL.out 0 (by omega)).1 (HSL.out 0 (by omega)).2)
   have hl := HRW.out 0 (by omega)
   have hr0 := HRG.out 0 (by omega)
   simp only [Nat.zero_mul, Nat.add_zero] at hr0
   have hce := (HP2.out.cell 0).trans (ev_at he 0 (by omega))
   generalize fs.getD 0 f0 = f at *
   generalize e.getD 0 0 = v at *
   go_upto_region 4 with fail
   obtain ⟨S, hSe⟩ : ∃ S : World → Prop, S = fun W => Below (w.heap.size + 1 + 1) w2 W := ⟨_, rfl⟩
   have C1 : ∀ W, S W → W.cell? ⟨w.heap.size, 1, none⟩ = some (.slice (some ⟨ab, ao, none⟩) nf c) := fun W h => by
       rw [hSe] at h
       exact (below_cell h (by omega)).trans c1
   have C2 : ∀ W, S W → W.cell? ⟨w.heap.size + 1, 0, none⟩ = some (.int .u64 (v : Int)) := fun W h => by
       rw [hSe] at h
       exact (below_cell h (by omega)).trans hce
   have pF0 : ∀ W, S W → W.rangeAt ab ao (fcells f) := fun W h => by
       rw [hSe] at h
       exact hr0 W (HB2.out.trans (h.mono (by omega)))
   have HS : Hid (S w2.drew) := by
       show S w2.drew
       rw [hSe]
       exact (Below.refl _ _).drew
   have HVV : Hid (Below w2.heap.size w2 w2.drew) := (Below.refl _ _).drew
   refine wp_region_ord S [(0, true), (1, true), (2, true), (3, true), (4, true), (5, true), (6, false), (7, false)] (by kernel_rfl) (by kernel_rfl) rfl (by kernel_rfl) HS.out ?_
   generalize w2.drew = V at HS HVV ⊢
   iterate 6
       (refine wpOrd_step (o := ?_) ?_ ?_; rotate_left 1; (simp only [zA1, zA2, zA3]; with_reducible rfl))
       (first
        | (refine wpOrd_skip (by rfl) ?_)
        | (refine wpOrd_take (by rfl) (take_loadFacIn _ rfl _ _ rfl _ hl pF0) ?_)
        | (refine wpOrd_take (v := ?_) (by rfl) ?_ ?_; rotate_left 1; (intro wx hSx; have hc_0 := C1 wx hSx; have hc_1 := C2 wx hSx; go_simp; try with_reducible rfl)))
       (try simp only [Act.put, zA4, zA5, zA6])
   clear C1 C2 pF0
   (refine wpOrd_solo (o := ?_) ?_ ?_; rotate_left 1; (simp only [zA1, zA2, zA3]; with_reducible rfl))
   intro K hK
   go_simp
   go_at_call 29
   refine (HCN.out V (HB2.out.trans (HVV.out.mono HB2.out.size))).mono ?_
   rintro x wn ⟨y, rfl, ⟨⟨zk, zp, zt, zA, zc, zw, zB, zd, zx⟩, rfl, hez, hdz⟩, hb⟩
   have HVn := HVV.out.trans (hb.mono HVV.out.size)
   have hlt := HG2.out.lt
   have hS3 : S wn := by rw [hSe]; exact HVn.mono (by omega)
   have hGn := HG2.out.below HVn hlt
   have hBn := HB2.out.trans (HVn.mono HB2.out.size)
   have hvs := HVV.out.size
   unfold nv
   simp only [Nd.k, Nd.p, Nd.s, Nd.A, Nd.c, Nd.ws, Nd.B, Nd.d, Nd.ks]
   refine hK.out _ _ hS3 ?_
   clear hK K HS hb
   (try simp only [Act.put, zA4, zA5, zA6])
   have hS4 : S (wn.setRow (w.heap.size + 1 + 1) #[.int .i64 zk, .int .i64 zp, .string zt, .slice zA zw.length zc, .slice zB zx.length zd]) := by
       rw [hSe]
       exact (HVn.mono (by omega)).trans ((Else.setRow _ _ _).below (Nat.le_refl _))
   have hG4 := hGn.setRow (#[.int .i64 zk, .int .i64 zp, .string zt, .slice zA zw.length zc, .slice zB zx.length zd])
   have hB4 : Below w.heap.size w (wn.setRow (w.heap.size + 1 + 1) #[.int .i64 zk, .int .i64 zp, .string zt, .slice zA zw.length zc, .slice zB zx.length zd]) := hBn.trans ((Else.setRow _ _ _).below (by omega))
   have hD4 : DeepN (wn.setRow (w.heap.size + 1 + 1) #[.int .i64 zk, .int .i64 zp, .string zt, .slice zA zw.length zc, .slice zB zx.length zd]) (fun k => w.heap.size ≤ k) [(Nd.mk zk zp zt zA zc zw zB zd zx)] := setRow_deep hdz _ fun k _ hk => ⟨by omega, by omega⟩
   refine wpOrd_store (o := ?_) ?ho1 ?hw1 28 ?ox1 ?oy1 ?hop1 (w.heap.size + 1 + 1) #[.int .i64 zk, .int .i64 zp, .string zt, .slice zA zw.length zc, .slice zB zx.length zd] ?hx1 ?hy1 28 #[.int .i64 0, .int .i64 0, .string ⟨#[]⟩, .slice none 0 0, .slice none 0 0] hGn (node_info _ _ _ _ _) ?hold1 (by simp [Value.oneCell']) hS4 ?hh1
   case ho1 => (simp only [zA1, zA2, zA3]; with_reducible rfl)
   case hw1 => rfl
   case hop1 => rfl
   case hx1 => rfl
   case hy1 => rfl
   case hold1 => rfl
   (try simp only [Act.put, zA4, zA5, zA6])
   refine wpOrd_done ?_
   go_wp2_with fail
   exact bodyPost_ret (ret_cell rfl _ _ (w.heap.size + 1 + 1) _ _ (0, 0) _ rfl hG4 Tryz.underlying28 rfl (node_info _ _ _ _ _)) rfl (HQ.out _ _ ⟨_, rfl, ⟨(Nd.mk zk zp zt zA zc zw zB zd zx), rfl, by rw [HE.out]; exact hez, hD4⟩, hB4⟩)
  case' true =>
   obtain ⟨CF, hCF⟩ : ∃ CF : Nat → Nd, CF = fun i => conN (fs.getD i f0) (e.getD i 0) := ⟨_, rfl⟩
   have HE : Hid (ND = nd 4 0 ⟨#[]⟩ [] ((List.range nf).map CF)) := by
       have h1 := HND2
       rw [if_pos rfl] at h1
       rw [hCF]
       exact h1
   have HCFa : Hid (∀ i, CF i = conN (fs.getD i f0) (e.getD i 0)) := fun i => by rw [hCF]
   clear HND2 hCF
   go_upto_region 6 with fail
   have hgn := HG2.out.lt
   have hnw := RowAt.new w2 28 (#[.int .i64 4, .int .i64 0, .string ⟨#[]⟩, .slice none 0 0, .slice none 0 0])
   have HN1 := Lib.hid hnw
   have HS3 := Lib.hid (HS2.out.alloc (.cells #[.int .i64 4, .int .i64 0, .string ⟨#[]⟩, .slice none 0 0, .slice none 0 0] 28))
   have HP3 := Lib.hid (HP2.out.alloc (.cells #[.int .i64 4, .int .i64 0, .string ⟨#[]⟩, .slice none 0 0, .slice none 0 0] 28))
   have HG3 := Lib.hid (HG2.out.alloc (.cells #[.int .i64 4, .int .i64 0, .string ⟨#[]⟩, .slice none 0 0, .slice none 0 0] 28))
   have HB3 := Lib.hid (HB2.out.alloc HB2.out.size (.cells #[.int .i64 4, .int .i64 0, .string ⟨#[]⟩, .slice none 0 0, .slice none 0 0] 28))
   have HWO : Hid (w.heap.size + 1 + 1 < w2.heap.size ∧ w2.heap.size < (w2.alloc (.cells #[.int .i64 4, .int .i64 0, .string ⟨#[]⟩, .slice none 0 0, .slice none 0 0] 28)).heap.size) := ⟨hgn, hnw.lt⟩
   clear hgn hnw HS2 HP2 HG2 HB2 c0 c1
   generalize w2.alloc (.cells #[.int .i64 4, .int .i64 0, .string ⟨#[]⟩, .slice none 0 0, .slice none 0 0] 28) = wo at *
   generalize w2.heap.size = gN at *
   go_wp2_with fail
   go_loopw [6] (fun iv wr => ∃ (i : Nat) (zs : List Nd) (X : Option Addr) (d : Nat), i ≤ nf ∧ iv = .int .i64 i ∧ zs.length ≤ i ∧ Hid (RowAt wr gN 28 #[.int .i64 4, .int .i64 0, .string ⟨#[]⟩, .slice none 0 0, .slice X zs.length d]) ∧ Hid (TM.er zs = (List.range i).map CF) ∧ Hid (wr.ownsRow wo.heap.size 28 5 (.slice X zs.length d) zs.length (ncs zs)) ∧ Hid (DeepN wr (fun k => wo.heap.size ≤ k ∧ (Value.slice X zs.length d).ownBlock ≠ some k) zs) ∧ Hid (RowAt wr w.heap.size 24 (sv true (some ⟨ab, ao, none⟩) nf c)) ∧ Hid (RowAt wr (w.heap.size + 1) 34 (uv e)) ∧ Hid (RowAt wr (w.heap.size + 1 + 1) 28 #[.int .i64 0, .int .i64 0, .string ⟨#[]⟩, .slice none 0 0, .slice none 0 0]) ∧ Hid (Below w.heap.size w wr) ∧ Hid (wo.heap.size ≤ wr.heap.size)) (fun iv _ => nf - (intOf iv).toNat)
   case atStart => exact ⟨0, [], none, 0, by omega, rfl, Nat.le_refl _, HN1, by show TM.er [] = _; rw [TM.er]; rfl, World.ownsRow_nil _ _ _ _, DeepN.nil _ _, HS3, HP3, HG3, HB3, Nat.le_refl _⟩
   case round =>
       obtain ⟨i, zs, X, d, hi, rfl, hzi, HNr, HEr, HOr, HDr, HFr, HPr, HGr, HBr, HZr⟩ := hrel
       clear HS3 HP3 HG3 HN1 HB3
       obtain ⟨c0, c1⟩ := HSH.out _ HFr.out
       by_cases hlt : i < nf
       ·have hin : (i : Int) < (nf : Int) := by omega
        have hi8 : (i : Int) < 8 := by omega
        have hfb := HSL.out i hlt
        have HCN := Lib.hid (HCO.out i hlt hfb.1 hfb.2)
        have HCF := Lib.hid (HCFa.out i)
        have hl := HRW.out i hlt
        have hr0 := HRG.out i hlt
        have hce := (HPr.out.cell i).trans (ev_at he i (by omega))
        clear hfb
        generalize fs.getD i f0 = f at *
        generalize e.getD i 0 = v at *
        have HW2 : Hid (w.heap.size + 1 + 1 < wr.heap.size) := by have h1 := HWO.out; have h2 := HZr.out; show w.heap.size + 1 + 1 < wr.heap.size; omega
        have C1 : ∀ W, Below (w.heap.size + 1 + 1) wr W → W.cell? ⟨w.heap.size, 1, none⟩ = some (.slice (some ⟨ab, ao, none⟩) nf c) := fun W h => (below_cell h (by omega)).trans c1
        have C2 : ∀ W, Below (w.heap.size + 1 + 1) wr W → W.cell? ⟨w.heap.size + 1, i, none⟩ = some (.int .u64 (v : Int)) := fun W h => (below_cell h (by omega)).trans hce
        have pF0 : ∀ W, Below (w.heap.size + 1 + 1) wr W → W.rangeAt ab (ao + i * 67) (fcells f) := fun W h => hr0 W (HBr.out.trans (h.mono (by omega)))
        have HVV : Hid (Below wr.heap.size wr wr.drew) := (Below.refl _ _).drew
        have HSV : Hid (Below (w.heap.size + 1 + 1) wr wr.drew) := (Below.refl _ _).drew
        have HNV := Lib.hid HNr.out.drew
        go_wp2_with fail
        clear c0 c1 HNr hr0 hce
        refine wp_region_ot (fun w' => Below (w.heap.size + 1 + 1) wr w') (.take 0 (.take 2 (.take 3 (.take 4 (.take 5 (.take 6 (.take 7 (.take 8 (.take 9 (.two 1 (.solo 10 (.solo 11 (.solo 12 (.take 13 (.solo 14 .nil))))) 10 (.two 1 (.solo 11 (.solo 12 (.take 13 (.solo 14 .nil)))) 11 (.solo 1 (.solo 12 (.take 13 (.solo 14 .nil))))))))))))))) (by kernel_rfl) (by kernel_rfl) rfl (by kernel_rfl) HSV.out ?_
        generalize wr.drew = V at HVV HSV HNV ⊢
        iterate 9
         (refine wpOT_step (o := ?_) ?_ ?_; rotate_left 1; (simp only [zA1, zA2, zA3]; with_reducible rfl))
         (first
          | (refine wpOT_skip (by rfl) ?_)
          | (refine wpOT_take (by rfl) (take_loadFacIn _ rfl _ _ rfl _ hl pF0) ?_)
          | (refine wpOT_take (v := ?_) (by rfl) ?_ ?_; rotate_left 1; (intro wx hSx; have hc_0 := C1 wx hSx; have hc_1 := C2 wx hSx; go_simp; try with_reducible rfl)))
         (try simp only [Act.put, zA4, zA5, zA6])
        clear C1 C2 pF0
        refine wpOT_two ?_ ?_
        ·have k4 : V.cell? ⟨gN, 4, none⟩ = some (.slice X zs.length d) := (RowAt.cell HNV.out 4).trans rfl
         (refine wpOT_solo (o := ?_) ?_ ?_; rotate_left 1; (simp only [zA1, zA2, zA3]; with_reducible rfl))
         intro K hK
         go_simp
         refine hK.out _ _ (HSV.out) ?_
         clear hK K
         (try simp only [Act.put, zA4, zA5, zA6])
         clear k4
         (refine wpOT_solo (o := ?_) ?_ ?_; rotate_left 1; (simp only [zA1, zA2, zA3]; with_reducible rfl))
         intro K hK
         go_simp
         go_at_call 29
         refine (HCN.out V (HBr.out.trans (HVV.out.mono HBr.out.size))).mono ?_
         rintro e wn ⟨y, rfl, ⟨⟨zk, zp, zt, zA, zc, zw, zB, zd, zx⟩, rfl, hez, hdz⟩, hb⟩
         have HEZ := Lib.hid hez
         have HDZ := Lib.hid hdz
         have HVW := HVV
         clear hez hdz
         unfold nv
         simp only [Nd.k, Nd.p, Nd.s, Nd.A, Nd.c, Nd.ws, Nd.B, Nd.d, Nd.ks]
         have HVwn := Lib.hid (HVV.out.trans (hb.mono HVV.out.size))
         have HNwn := Lib.hid (HNV.out.below hb HNV.out.lt)
         have HSwn : Hid (Below (w.heap.size + 1 + 1) wr wn) := HVwn.out.mono (Nat.le_of_lt HW2.out)
         clear HVV HNV HSV hb
         refine hK.out _ _ (HSwn.out) ?_
         clear hK K
         (try simp only [Act.put, zA4, zA5, zA6])
         have HM := Lib.hid (Mv.below (b := w.heap.size) (by have := HW2.out; omega) HVwn.out)
         have hz := HDZ.out
         have HDG := Lib.hid (deep_more (w := wo) HDr.out HM.out hz HOr.out HVW.out.size (by have := HWO.out; omega) HZr.out (.cells #[.int .i64 zk, .int .i64 zp, .string zt, .slice zA zw.length zc, .slice zB zx.length zd] 28))
         have HOG : Hid ((wn.alloc (.cells #[.int .i64 zk, .int .i64 zp, .string zt, .slice zA zw.length zc, .slice zB zx.length zd] 28)).ownsRow wo.heap.size 28 5 (.slice X zs.length d) zs.length (ncs zs)) := (own_like9 HOr.out (fun k hk e => HM.out.block k hk (by have h1 := HOr.out.lt k e; have h2 := HWO.out; omega))).alloc _
         have HRG := Lib.hid (RowAt.new wn 28 #[.int .i64 zk, .int .i64 zp, .string zt, .slice zA zw.length zc, .slice zB zx.length zd])
         have HVwb := Lib.hid (HVwn.out.alloc HVwn.out.size (.cells #[.int .i64 zk, .int .i64 zp, .string zt, .slice zA zw.length zc, .slice zB zx.length zd] 28))
         have HNwb := Lib.hid (HNwn.out.alloc (.cells #[.int .i64 zk, .int .i64 zp, .string zt, .slice zA zw.length zc, .slice zB zx.length zd] 28))
         have HSwb : Hid (Below (w.heap.size + 1 + 1) wr (wn.alloc (.cells #[.int .i64 zk, .int .i64 zp, .string zt, .slice zA zw.length zc, .slice zB zx.length zd] 28))) := HVwb.out.mono (Nat.le_of_lt HW2.out)
         clear hz HM HDZ HVW
         (refine wpOT_solo (o := ?_) ?_ ?_; rotate_left 1; (simp only [zA1, zA2, zA3]; with_reducible rfl))
         intro K hK
         go_simp
         refine hK.out _ _ (HSwb.out) ?_
         clear hK K
         (try simp only [Act.put, zA4, zA5, zA6])
         generalize wn.alloc (.cells #[.int .i64 zk, .int .i64 zp, .string zt, .slice zA zw.length zc, .slice zB zx.length zd] 28) = wb at *
         generalize wn.heap.size = g9 at *
         clear HVwn HNwn HSwn
         (refine wpOT_solo (o := ?_) ?_ ?_; rotate_left 1; (simp only [zA1, zA2, zA3]; with_reducible rfl))
         intro K hK
         rw [if_pos (by rfl)]
         refine wp_moreB _ _ 26 rfl 28 (.agg #[.int .i64 0, .int .i64 0, .string ⟨#[]⟩, .slice none 0 0, .slice none 0 0]) 5 80 Tryz.underlying26 infoNode rfl (by decide) wo.heap.size X zs.length d (ncs zs) rfl HOG.out g9 (ncells (Nd.mk zk zp zt zA zc zw zB zd zx)) rfl rfl ?c2 (nc_one _) ?c3 ?c4 ?c5 ?_
         case c2 => intro j u hu; exact (HRG.out.cell j).trans (by show ((ncells (Nd.mk zk zp zt zA zc zw zB zd zx)).toArray)[j]? = some u; rw [zA1]; exact hu)
         case c3 => simp only [maxLen]; omega
         case c4 => omega
         case c5 => have h1 := HVwb.out.size; have h2 := HZr.out; omega
         intro X5 d5 w5 hown5 hb5 hg5 hat5
         have HN5 := Lib.hid (HNwb.out.below hb5 HWO.out.2)
         have HS5 : Hid (Below (w.heap.size + 1 + 1) wr w5) := HSwb.out.trans (hb5.mono (by have := HWO.out; omega))
         have HO5 := Lib.hid hown5
         have HD5 := Lib.hid (deep_grown (n := zs.length) (m := zs.length + 1) HDG.out hg5 hat5)
         have HF5 := Lib.hid ((HFr.out.below HVwb.out HFr.out.lt).below hb5 (by have := HWO.out; omega))
         have HP5 := Lib.hid ((HPr.out.below HVwb.out HPr.out.lt).below hb5 (by have := HWO.out; omega))
         have HG5 := Lib.hid ((HGr.out.below HVwb.out HGr.out.lt).below hb5 (by have := HWO.out; omega))
         have HB5 := Lib.hid ((HBr.out.trans (HVwb.out.mono HBr.out.size)).trans (hb5.mono (by have := HWO.out; omega)))
         have HZ5 := Lib.hid (Nat.le_trans (Nat.le_trans HZr.out HVwb.out.size) hg5.size)
         refine hK.out _ _ HS5.out ?_
         clear hK K hown5 hb5 hg5 hat5 HOG HDG HRG HVwb HNwb HSwb HFr HPr HGr HBr HZr HOr HDr
         (try simp only [Act.put, zA4, zA5, zA6])
         iterate 1
          (refine wpOT_step (o := ?_) ?_ ?_; rotate_left 1; (simp only [zA1, zA2, zA3]; with_reducible rfl))
          (first
           | (refine wpOT_skip (by rfl) ?_)
           | (refine wpOT_take (v := ?_) (by rfl) ?_ ?_; rotate_left 1; (intro wx hSx; go_simp; try with_reducible rfl)))
          (try simp only [Act.put, zA4, zA5, zA6])
         have k4 : w5.cell? ⟨gN, 4, none⟩ = some (.slice X zs.length d) := (RowAt.cell HN5.out 4).trans rfl
         have f4 := HN5.out.free 4
         have HS6 : Hid (Below (w.heap.size + 1 + 1) wr (w5.setCell ⟨gN, 4, none⟩ (.slice X5 (zs.length + 1) d5))) := HS5.out.setCell (p := ⟨gN, 4, none⟩) (by have := HWO.out; show w.heap.size + 1 + 1 ≤ gN; omega) _
         (refine wpOT_solo (o := ?_) ?_ ?_; rotate_left 1; (simp only [zA1, zA2, zA3]; with_reducible rfl))
         intro K hK
         go_simp
         refine hK.out _ _ HS6.out ?_
         clear hK K k4 f4 HS6
         (try simp only [Act.put, zA4, zA5, zA6])
         refine wpOT_done ?_
         have HO6 : Hid ((w5.setCell ⟨gN, 4, none⟩ (.slice X5 (zs.length + 1) d5)).ownsRow wo.heap.size 28 5 (.slice X5 (zs ++ [(Nd.mk zk zp zt zA zc zw zB zd zx)]).length d5) (zs ++ [(Nd.mk zk zp zt zA zc zw zB zd zx)]).length (ncs (zs ++ [(Nd.mk zk zp zt zA zc zw zB zd zx)]))) := by
          rw [List.length_append, List.length_singleton, ncs_append, ncs_one]
          exact own_like9 HO5.out (fun k hk e => (Else.setCell w5 ⟨gN, 4, none⟩ (.slice X5 (zs.length + 1) d5)).block k (by have h1 := HO5.out.lt k e; have h2 := HWO.out; show k ≠ gN; omega))
         have HD6 : Hid (DeepN (w5.setCell ⟨gN, 4, none⟩ (.slice X5 (zs.length + 1) d5)) (fun k => wo.heap.size ≤ k ∧ (Value.slice X5 (zs ++ [(Nd.mk zk zp zt zA zc zw zB zd zx)]).length d5).ownBlock ≠ some k) (zs ++ [(Nd.mk zk zp zt zA zc zw zB zd zx)])) := by
          rw [List.length_append, List.length_singleton]
          exact HD5.out.keep (Nat.le_of_eq (Else.setCell w5 ⟨gN, 4, none⟩ (.slice X5 (zs.length + 1) d5)).size.symm) (fun k hk h => (Else.setCell w5 ⟨gN, 4, none⟩ (.slice X5 (zs.length + 1) d5)).block k (by have h2 := HWO.out; have h3 := h.1; show k ≠ gN; omega)) (fun _ _ h => h)
         have HE6 : Hid (TM.er (zs ++ [(Nd.mk zk zp zt zA zc zw zB zd zx)]) = (List.range (i + 1)).map CF) := by
          show TM.er (zs ++ [(Nd.mk zk zp zt zA zc zw zB zd zx)]) = (List.range (i + 1)).map CF
          rw [List.range_succ, List.map_append, TM.er_append, HEr.out, er_one, HEZ.out, ← HCF.out]; rfl
         have HN6 : Hid (RowAt (w5.setCell ⟨gN, 4, none⟩ (.slice X5 (zs.length + 1) d5)) gN 28 #[.int .i64 4, .int .i64 0, .string ⟨#[]⟩, .slice none 0 0, .slice X5 (zs ++ [(Nd.mk zk zp zt zA zc zw zB zd zx)]).length d5]) := by
          rw [List.length_append, List.length_singleton]
          exact HN5.out.put 4 (.slice X5 (zs.length + 1) d5)
         have HF6 := Lib.hid (HF5.out.far (p := ⟨gN, 4, none⟩) (by have := HWO.out; show gN ≠ w.heap.size; omega) (.slice X5 (zs.length + 1) d5))
         have HP6 := Lib.hid (HP5.out.far (p := ⟨gN, 4, none⟩) (by have := HWO.out; show gN ≠ w.heap.size + 1; omega) (.slice X5 (zs.length + 1) d5))
         have HG6 := Lib.hid (HG5.out.far (p := ⟨gN, 4, none⟩) (by have := HWO.out; show gN ≠ w.heap.size + 1 + 1; omega) (.slice X5 (zs.length + 1) d5))
         have HB6 := Lib.hid (HB5.out.setCell (p := ⟨gN, 4, none⟩) (by have := HWO.out; show w.heap.size ≤ gN; omega) (.slice X5 (zs.length + 1) d5))
         have HZ6 : Hid (wo.heap.size ≤ (w5.setCell ⟨gN, 4, none⟩ (.slice X5 (zs.length + 1) d5)).heap.size) := Nat.le_trans HZ5.out (Nat.le_of_eq (Else.setCell w5 ⟨gN, 4, none⟩ (.slice X5 (zs.length + 1) d5)).size.symm)
         have HL6 : (zs ++ [(Nd.mk zk zp zt zA zc zw zB zd zx)]).length ≤ i + 1 := by rw [List.length_append, List.length_singleton]; omega
         clear HO5 HD5 HN5 HF5 HP5 HG5 HB5 HZ5 HS5
         go_wp2_with fail
         go_roundw
         case rel => exact ⟨i + 1, zs ++ [(Nd.mk zk zp zt zA zc zw zB zd zx)], X5, d5, by omega, by go_num, HL6, HN6, HE6, HO6, HD6, HF6, HP6, HG6, HB6, HZ6⟩
         case measure => simp [intOf]; omega
        ·(refine wpOT_solo (o := ?_) ?_ ?_; rotate_left 1; (simp only [zA1, zA2, zA3]; with_reducible rfl))
         intro K hK
         go_simp
         go_at_call 29
         refine (HCN.out V (HBr.out.trans (HVV.out.mono HBr.out.size))).mono ?_
         rintro e wn ⟨y, rfl, ⟨⟨zk, zp, zt, zA, zc, zw, zB, zd, zx⟩, rfl, hez, hdz⟩, hb⟩
         have HEZ := Lib.hid hez
         have HDZ := Lib.hid hdz
         have HVW := HVV
         clear hez hdz
         unfold nv
         simp only [Nd.k, Nd.p, Nd.s, Nd.A, Nd.c, Nd.ws, Nd.B, Nd.d, Nd.ks]
         have HVwn := Lib.hid (HVV.out.trans (hb.mono HVV.out.size))
         have HNwn := Lib.hid (HNV.out.below hb HNV.out.lt)
         have HSwn : Hid (Below (w.heap.size + 1 + 1) wr wn) := HVwn.out.mono (Nat.le_of_lt HW2.out)
         clear HVV HNV HSV hb
         refine hK.out _ _ (HSwn.out) ?_
         clear hK K
         (try simp only [Act.put, zA4, zA5, zA6])
         refine wpOT_two ?_ ?_
         ·have k4 : wn.cell? ⟨gN, 4, none⟩ = some (.slice X zs.length d) := (RowAt.cell HNwn.out 4).trans rfl
          (refine wpOT_solo (o := ?_) ?_ ?_; rotate_left 1; (simp only [zA1, zA2, zA3]; with_reducible rfl))
          intro K hK
          go_simp
          refine hK.out _ _ (HSwn.out) ?_
          clear hK K
          (try simp only [Act.put, zA4, zA5, zA6])
          clear k4
          have HM := Lib.hid (Mv.below (b := w.heap.size) (by have := HW2.out; omega) HVwn.out)
          have hz := HDZ.out
          have HDG := Lib.hid (deep_more (w := wo) HDr.out HM.out hz HOr.out HVW.out.size (by have := HWO.out; omega) HZr.out (.cells #[.int .i64 zk, .int .i64 zp, .string zt, .slice zA zw.length zc, .slice zB zx.length zd] 28))
          have HOG : Hid ((wn.alloc (.cells #[.int .i64 zk, .int .i64 zp, .string zt, .slice zA zw.length zc, .slice zB zx.length zd] 28)).ownsRow wo.heap.size 28 5 (.slice X zs.length d) zs.length (ncs zs)) := (own_like9 HOr.out (fun k hk e => HM.out.block k hk (by have h1 := HOr.out.lt k e; have h2 := HWO.out; omega))).alloc _
          have HRG := Lib.hid (RowAt.new wn 28 #[.int .i64 zk, .int .i64 zp, .string zt, .slice zA zw.length zc, .slice zB zx.length zd])
          have HVwb := Lib.hid (HVwn.out.alloc HVwn.out.size (.cells #[.int .i64 zk, .int .i64 zp, .string zt, .slice zA zw.length zc, .slice zB zx.length zd] 28))
          have HNwb := Lib.hid (HNwn.out.alloc (.cells #[.int .i64 zk, .int .i64 zp, .string zt, .slice zA zw.length zc, .slice zB zx.length zd] 28))
          have HSwb : Hid (Below (w.heap.size + 1 + 1) wr (wn.alloc (.cells #[.int .i64 zk, .int .i64 zp, .string zt, .slice zA zw.length zc, .slice zB zx.length zd] 28))) := HVwb.out.mono (Nat.le_of_lt HW2.out)
          clear hz HM HDZ HVW
          (refine wpOT_solo (o := ?_) ?_ ?_; rotate_left 1; (simp only [zA1, zA2, zA3]; with_reducible rfl))
          intro K hK
          go_simp
          refine hK.out _ _ (HSwb.out) ?_
          clear hK K
          (try simp only [Act.put, zA4, zA5, zA6])
          generalize wn.alloc (.cells #[.int .i64 zk, .int .i64 zp, .string zt, .slice zA zw.length zc, .slice zB zx.length zd] 28) = wb at *
          generalize wn.heap.size = g9 at *
          clear HVwn HNwn HSwn
          (refine wpOT_solo (o := ?_) ?_ ?_; rotate_left 1; (simp only [zA1, zA2, zA3]; with_reducible rfl))
          intro K hK
          rw [if_pos (by rfl)]
          refine wp_moreB _ _ 26 rfl 28 (.agg #[.int .i64 0, .int .i64 0, .string ⟨#[]⟩, .slice none 0 0, .slice none 0 0]) 5 80 Tryz.underlying26 infoNode rfl (by decide) wo.heap.size X zs.length d (ncs zs) rfl HOG.out g9 (ncells (Nd.mk zk zp zt zA zc zw zB zd zx)) rfl rfl ?c2 (nc_one _) ?c3 ?c4 ?c5 ?_
          case c2 => intro j u hu; exact (HRG.out.cell j).trans (by show ((ncells (Nd.mk zk zp zt zA zc zw zB zd zx)).toArray)[j]? = some u; rw [zA1]; exact hu)
          case c3 => simp only [maxLen]; omega
          case c4 => omega
          case c5 => have h1 := HVwb.out.size; have h2 := HZr.out; omega
          intro X5 d5 w5 hown5 hb5 hg5 hat5
          have HN5 := Lib.hid (HNwb.out.below hb5 HWO.out.2)
          have HS5 : Hid (Below (w.heap.size + 1 + 1) wr w5) := HSwb.out.trans (hb5.mono (by have := HWO.out; omega))
          have HO5 := Lib.hid hown5
          have HD5 := Lib.hid (deep_grown (n := zs.length) (m := zs.length + 1) HDG.out hg5 hat5)
          have HF5 := Lib.hid ((HFr.out.below HVwb.out HFr.out.lt).below hb5 (by have := HWO.out; omega))
          have HP5 := Lib.hid ((HPr.out.below HVwb.out HPr.out.lt).below hb5 (by have := HWO.out; omega))
          have HG5 := Lib.hid ((HGr.out.below HVwb.out HGr.out.lt).below hb5 (by have := HWO.out; omega))
          have HB5 := Lib.hid ((HBr.out.trans (HVwb.out.mono HBr.out.size)).trans (hb5.mono (by have := HWO.out; omega)))
          have HZ5 := Lib.hid (Nat.le_trans (Nat.le_trans HZr.out HVwb.out.size) hg5.size)
          refine hK.out _ _ HS5.out ?_
          clear hK K hown5 hb5 hg5 hat5 HOG HDG HRG HVwb HNwb HSwb HFr HPr HGr HBr HZr HOr HDr
          (try simp only [Act.put, zA4, zA5, zA6])
          iterate 1
           (refine wpOT_step (o := ?_) ?_ ?_; rotate_left 1; (simp only [zA1, zA2, zA3]; with_reducible rfl))
           (first
                 | (refine wpOT_skip (by rfl) ?_)
                 | (refine wpOT_take (v := ?_) (by rfl) ?_ ?_; rotate_left 1; (intro wx hSx; go_simp; try with_reducible rfl)))
           (try simp only [Act.put, zA4, zA5, zA6])
          have k4 : w5.cell? ⟨gN, 4, none⟩ = some (.slice X zs.length d) := (RowAt.cell HN5.out 4).trans rfl
          have f4 := HN5.out.free 4
          have HS6 : Hid (Below (w.heap.size + 1 + 1) wr (w5.setCell ⟨gN, 4, none⟩ (.slice X5 (zs.length + 1) d5))) := HS5.out.setCell (p := ⟨gN, 4, none⟩) (by have := HWO.out; show w.heap.size + 1 + 1 ≤ gN; omega) _
          (refine wpOT_solo (o := ?_) ?_ ?_; rotate_left 1; (simp only [zA1, zA2, zA3]; with_reducible rfl))
          intro K hK
          go_simp
          refine hK.out _ _ HS6.out ?_
          clear hK K k4 f4 HS6
          (try simp only [Act.put, zA4, zA5, zA6])
          refine wpOT_done ?_
          have HO6 : Hid ((w5.setCell ⟨gN, 4, none⟩ (.slice X5 (zs.length + 1) d5)).ownsRow wo.heap.size 28 5 (.slice X5 (zs ++ [(Nd.mk zk zp zt zA zc zw zB zd zx)]).length d5) (zs ++ [(Nd.mk zk zp zt zA zc zw zB zd zx)]).length (ncs (zs ++ [(Nd.mk zk zp zt zA zc zw zB zd zx)]))) := by
           rw [List.length_append, List.length_singleton, ncs_append, ncs_one]
           exact own_like9 HO5.out (fun k hk e => (Else.setCell w5 ⟨gN, 4, none⟩ (.slice X5 (zs.length + 1) d5)).block k (by have h1 := HO5.out.lt k e; have h2 := HWO.out; show k ≠ gN; omega))
          have HD6 : Hid (DeepN (w5.setCell ⟨gN, 4, none⟩ (.slice X5 (zs.length + 1) d5)) (fun k => wo.heap.size ≤ k ∧ (Value.slice X5 (zs ++ [(Nd.mk zk zp zt zA zc zw zB zd zx)]).length d5).ownBlock ≠ some k) (zs ++ [(Nd.mk zk zp zt zA zc zw zB zd zx)])) := by
           rw [List.length_append, List.length_singleton]
           exact HD5.out.keep (Nat.le_of_eq (Else.setCell w5 ⟨gN, 4, none⟩ (.slice X5 (zs.length + 1) d5)).size.symm) (fun k hk h => (Else.setCell w5 ⟨gN, 4, none⟩ (.slice X5 (zs.length + 1) d5)).block k (by have h2 := HWO.out; have h3 := h.1; show k ≠ gN; omega)) (fun _ _ h => h)
          have HE6 : Hid (TM.er (zs ++ [(Nd.mk zk zp zt zA zc zw zB zd zx)]) = (List.range (i + 1)).map CF) := by
           show TM.er (zs ++ [(Nd.mk zk zp zt zA zc zw zB zd zx)]) = (List.range (i + 1)).map CF
           rw [List.range_succ, List.map_append, TM.er_append, HEr.out, er_one, HEZ.out, ← HCF.out]; rfl
          have HN6 : Hid (RowAt (w5.setCell ⟨gN, 4, none⟩ (.slice X5 (zs.length + 1) d5)) gN 28 #[.int .i64 4, .int .i64 0, .string ⟨#[]⟩, .slice none 0 0, .slice X5 (zs ++ [(Nd.mk zk zp zt zA zc zw zB zd zx)]).length d5]) := by
           rw [List.length_append, List.length_singleton]
           exact HN5.out.put 4 (.slice X5 (zs.length + 1) d5)
          have HF6 := Lib.hid (HF5.out.far (p := ⟨gN, 4, none⟩) (by have := HWO.out; show gN ≠ w.heap.size; omega) (.slice X5 (zs.length + 1) d5))
          have HP6 := Lib.hid (HP5.out.far (p := ⟨gN, 4, none⟩) (by have := HWO.out; show gN ≠ w.heap.size + 1; omega) (.slice X5 (zs.length + 1) d5))
          have HG6 := Lib.hid (HG5.out.far (p := ⟨gN, 4, none⟩) (by have := HWO.out; show gN ≠ w.heap.size + 1 + 1; omega) (.slice X5 (zs.length + 1) d5))
          have HB6 := Lib.hid (HB5.out.setCell (p := ⟨gN, 4, none⟩) (by have := HWO.out; show w.heap.size ≤ gN; omega) (.slice X5 (zs.length + 1) d5))
          have HZ6 : Hid (wo.heap.size ≤ (w5.setCell ⟨gN, 4, none⟩ (.slice X5 (zs.length + 1) d5)).heap.size) := Nat.le_trans HZ5.out (Nat.le_of_eq (Else.setCell w5 ⟨gN, 4, none⟩ (.slice X5 (zs.length + 1) d5)).size.symm)
          have HL6 : (zs ++ [(Nd.mk zk zp zt zA zc zw zB zd zx)]).length ≤ i + 1 := by rw [List.length_append, List.length_singleton]; omega
          clear HO5 HD5 HN5 HF5 HP5 HG5 HB5 HZ5 HS5
          go_wp2_with fail
          go_roundw
          case rel => exact ⟨i + 1, zs ++ [(Nd.mk zk zp zt zA zc zw zB zd zx)], X5, d5, by omega, by go_num, HL6, HN6, HE6, HO6, HD6, HF6, HP6, HG6, HB6, HZ6⟩
          case measure => simp [intOf]; omega
         ·have HM := Lib.hid (Mv.below (b := w.heap.size) (by have := HW2.out; omega) HVwn.out)
          have hz := HDZ.out
          have HDG := Lib.hid (deep_more (w := wo) HDr.out HM.out hz HOr.out HVW.out.size (by have := HWO.out; omega) HZr.out (.cells #[.int .i64 zk, .int .i64 zp, .string zt, .slice zA zw.length zc, .slice zB zx.length zd] 28))
          have HOG : Hid ((wn.alloc (.cells #[.int .i64 zk, .int .i64 zp, .string zt, .slice zA zw.length zc, .slice zB zx.length zd] 28)).ownsRow wo.heap.size 28 5 (.slice X zs.length d) zs.length (ncs zs)) := (own_like9 HOr.out (fun k hk e => HM.out.block k hk (by have h1 := HOr.out.lt k e; have h2 := HWO.out; omega))).alloc _
          have HRG := Lib.hid (RowAt.new wn 28 #[.int .i64 zk, .int .i64 zp, .string zt, .slice zA zw.length zc, .slice zB zx.length zd])
          have HVwb := Lib.hid (HVwn.out.alloc HVwn.out.size (.cells #[.int .i64 zk, .int .i64 zp, .string zt, .slice zA zw.length zc, .slice zB zx.length zd] 28))
          have HNwb := Lib.hid (HNwn.out.alloc (.cells #[.int .i64 zk, .int .i64 zp, .string zt, .slice zA zw.length zc, .slice zB zx.length zd] 28))
          have HSwb : Hid (Below (w.heap.size + 1 + 1) wr (wn.alloc (.cells #[.int .i64 zk, .int .i64 zp, .string zt, .slice zA zw.length zc, .slice zB zx.length zd] 28))) := HVwb.out.mono (Nat.le_of_lt HW2.out)
          clear hz HM HDZ HVW
          (refine wpOT_solo (o := ?_) ?_ ?_; rotate_left 1; (simp only [zA1, zA2, zA3]; with_reducible rfl))
          intro K hK
          go_simp
          refine hK.out _ _ (HSwb.out) ?_
          clear hK K
          (try simp only [Act.put, zA4, zA5, zA6])
          generalize wn.alloc (.cells #[.int .i64 zk, .int .i64 zp, .string zt, .slice zA zw.length zc, .slice zB zx.length zd] 28) = wb at *
          generalize wn.heap.size = g9 at *
          clear HVwn HNwn HSwn
          have k4 : wb.cell? ⟨gN, 4, none⟩ = some (.slice X zs.length d) := (RowAt.cell HNwb.out 4).trans rfl
          (refine wpOT_solo (o := ?_) ?_ ?_; rotate_left 1; (simp only [zA1, zA2, zA3]; with_reducible rfl))
          intro K hK
          go_simp
          refine hK.out _ _ (HSwb.out) ?_
          clear hK K
          (try simp only [Act.put, zA4, zA5, zA6])
          clear k4
          (refine wpOT_solo (o := ?_) ?_ ?_; rotate_left 1; (simp only [zA1, zA2, zA3]; with_reducible rfl))
          intro K hK
          rw [if_pos (by rfl)]
          refine wp_moreB _ _ 26 rfl 28 (.agg #[.int .i64 0, .int .i64 0, .string ⟨#[]⟩, .slice none 0 0, .slice none 0 0]) 5 80 Tryz.underlying26 infoNode rfl (by decide) wo.heap.size X zs.length d (ncs zs) rfl HOG.out g9 (ncells (Nd.mk zk zp zt zA zc zw zB zd zx)) rfl rfl ?c2 (nc_one _) ?c3 ?c4 ?c5 ?_
          case c2 => intro j u hu; exact (HRG.out.cell j).trans (by show ((ncells (Nd.mk zk zp zt zA zc zw zB zd zx)).toArray)[j]? = some u; rw [zA1]; exact hu)
          case c3 => simp only [maxLen]; omega
          case c4 => omega
          case c5 => have h1 := HVwb.out.size; have h2 := HZr.out; omega
          intro X5 d5 w5 hown5 hb5 hg5 hat5
          have HN5 := Lib.hid (HNwb.out.below hb5 HWO.out.2)
          have HS5 : Hid (Below (w.heap.size + 1 + 1) wr w5) := HSwb.out.trans (hb5.mono (by have := HWO.out; omega))
          have HO5 := Lib.hid hown5
          have HD5 := Lib.hid (deep_grown (n := zs.length) (m := zs.length + 1) HDG.out hg5 hat5)
          have HF5 := Lib.hid ((HFr.out.below HVwb.out HFr.out.lt).below hb5 (by have := HWO.out; omega))
          have HP5 := Lib.hid ((HPr.out.below HVwb.out HPr.out.lt).below hb5 (by have := HWO.out; omega))
          have HG5 := Lib.hid ((HGr.out.below HVwb.out HGr.out.lt).below hb5 (by have := HWO.out; omega))
          have HB5 := Lib.hid ((HBr.out.trans (HVwb.out.mono HBr.out.size)).trans (hb5.mono (by have := HWO.out; omega)))
          have HZ5 := Lib.hid (Nat.le_trans (Nat.le_trans HZr.out HVwb.out.size) hg5.size)
          refine hK.out _ _ HS5.out ?_
          clear hK K hown5 hb5 hg5 hat5 HOG HDG HRG HVwb HNwb HSwb HFr HPr HGr HBr HZr HOr HDr
          (try simp only [Act.put, zA4, zA5, zA6])
          iterate 1
           (refine wpOT_step (o := ?_) ?_ ?_; rotate_left 1; (simp only [zA1, zA2, zA3]; with_reducible rfl))
           (first
                 | (refine wpOT_skip (by rfl) ?_)
                 | (refine wpOT_take (v := ?_) (by rfl) ?_ ?_; rotate_left 1; (intro wx hSx; go_simp; try with_reducible rfl)))
           (try simp only [Act.put, zA4, zA5, zA6])
          have k4 : w5.cell? ⟨gN, 4, none⟩ = some (.slice X zs.length d) := (RowAt.cell HN5.out 4).trans rfl
          have f4 := HN5.out.free 4
          have HS6 : Hid (Below (w.heap.size + 1 + 1) wr (w5.setCell ⟨gN, 4, none⟩ (.slice X5 (zs.length + 1) d5))) := HS5.out.setCell (p := ⟨gN, 4, none⟩) (by have := HWO.out; show w.heap.size + 1 + 1 ≤ gN; omega) _
          (refine wpOT_solo (o := ?_) ?_ ?_; rotate_left 1; (simp only [zA1, zA2, zA3]; with_reducible rfl))
          intro K hK
          go_simp
          refine hK.out _ _ HS6.out ?_
          clear hK K k4 f4 HS6
          (try simp only [Act.put, zA4, zA5, zA6])
          refine wpOT_done ?_
          have HO6 : Hid ((w5.setCell ⟨gN, 4, none⟩ (.slice X5 (zs.length + 1) d5)).ownsRow wo.heap.size 28 5 (.slice X5 (zs ++ [(Nd.mk zk zp zt zA zc zw zB zd zx)]).length d5) (zs ++ [(Nd.mk zk zp zt zA zc zw zB zd zx)]).length (ncs (zs ++ [(Nd.mk zk zp zt zA zc zw zB zd zx)]))) := by
           rw [List.length_append, List.length_singleton, ncs_append, ncs_one]
           exact own_like9 HO5.out (fun k hk e => (Else.setCell w5 ⟨gN, 4, none⟩ (.slice X5 (zs.length + 1) d5)).block k (by have h1 := HO5.out.lt k e; have h2 := HWO.out; show k ≠ gN; omega))
          have HD6 : Hid (DeepN (w5.setCell ⟨gN, 4, none⟩ (.slice X5 (zs.length + 1) d5)) (fun k => wo.heap.size ≤ k ∧ (Value.slice X5 (zs ++ [(Nd.mk zk zp zt zA zc zw zB zd zx)]).length d5).ownBlock ≠ some k) (zs ++ [(Nd.mk zk zp zt zA zc zw zB zd zx)])) := by
           rw [List.length_append, List.length_singleton]
           exact HD5.out.keep (Nat.le_of_eq (Else.setCell w5 ⟨gN, 4, none⟩ (.slice X5 (zs.length + 1) d5)).size.symm) (fun k hk h => (Else.setCell w5 ⟨gN, 4, none⟩ (.slice X5 (zs.length + 1) d5)).block k (by have h2 := HWO.out; have h3 := h.1; show k ≠ gN; omega)) (fun _ _ h => h)
          have HE6 : Hid (TM.er (zs ++ [(Nd.mk zk zp zt zA zc zw zB zd zx)]) = (List.range (i + 1)).map CF) := by
           show TM.er (zs ++ [(Nd.mk zk zp zt zA zc zw zB zd zx)]) = (List.range (i + 1)).map CF
           rw [List.range_succ, List.map_append, TM.er_append, HEr.out, er_one, HEZ.out, ← HCF.out]; rfl
          have HN6 : Hid (RowAt (w5.setCell ⟨gN, 4, none⟩ (.slice X5 (zs.length + 1) d5)) gN 28 #[.int .i64 4, .int .i64 0, .string ⟨#[]⟩, .slice none 0 0, .slice X5 (zs ++ [(Nd.mk zk zp zt zA zc zw zB zd zx)]).length d5]) := by
           rw [List.length_append, List.length_singleton]
           exact HN5.out.put 4 (.slice X5 (zs.length + 1) d5)
          have HF6 := Lib.hid (HF5.out.far (p := ⟨gN, 4, none⟩) (by have := HWO.out; show gN ≠ w.heap.size; omega) (.slice X5 (zs.length + 1) d5))
          have HP6 := Lib.hid (HP5.out.far (p := ⟨gN, 4, none⟩) (by have := HWO.out; show gN ≠ w.heap.size + 1; omega) (.slice X5 (zs.length + 1) d5))
          have HG6 := Lib.hid (HG5.out.far (p := ⟨gN, 4, none⟩) (by have := HWO.out; show gN ≠ w.heap.size + 1 + 1; omega) (.slice X5 (zs.length + 1) d5))
          have HB6 := Lib.hid (HB5.out.setCell (p := ⟨gN, 4, none⟩) (by have := HWO.out; show w.heap.size ≤ gN; omega) (.slice X5 (zs.length + 1) d5))
          have HZ6 : Hid (wo.heap.size ≤ (w5.setCell ⟨gN, 4, none⟩ (.slice X5 (zs.length + 1) d5)).heap.size) := Nat.le_trans HZ5.out (Nat.le_of_eq (Else.setCell w5 ⟨gN, 4, none⟩ (.slice X5 (zs.length + 1) d5)).size.symm)
          have HL6 : (zs ++ [(Nd.mk zk zp zt zA zc zw zB zd zx)]).length ≤ i + 1 := by rw [List.length_append, List.length_singleton]; omega
          clear HO5 HD5 HN5 HF5 HP5 HG5 HB5 HZ5 HS5
          go_wp2_with fail
          go_roundw
          case rel => exact ⟨i + 1, zs ++ [(Nd.mk zk zp zt zA zc zw zB zd zx)], X5, d5, by omega, by go_num, HL6, HN6, HE6, HO6, HD6, HF6, HP6, HG6, HB6, HZ6⟩
          case measure => simp [intOf]; omega
       ·obtain rfl : i = nf := by omega
        have HCP := Lib.hid (own_cap_le HOr.out)
        obtain ⟨m0, m1, m2, m3, m4, _, _, _, _, _⟩ := row5 HNr.out
        obtain ⟨g0, g1, g2, g3, g4, u0, u1, u2, u3, u4⟩ := row5 HGr.out
        go_wp2_with fail
        change bodyPost _ _ _ _ _ (set5 wr (w.heap.size + 1 + 1) (.int .i64 4) (.int .i64 0) (.string ⟨#[]⟩) (.slice none 0 0) (.slice X zs.length d))
        have hrow := set5_row (a0 := .int .i64 4) (b0 := .int .i64 0) (c0 := .string ⟨#[]⟩) (d0 := .slice none 0 0) (e0 := .slice X zs.length d) HGr.out
        have hbf := HBr.out.trans (set5_below (a0 := .int .i64 4) (b0 := .int .i64 0) (c0 := .string ⟨#[]⟩) (d0 := .slice none 0 0) (e0 := .slice X zs.length d) (w := wr) (b := w.heap.size) (g := w.heap.size + 1 + 1) (by omega))
        have hnode : NodeV (set5 wr (w.heap.size + 1 + 1) (.int .i64 4) (.int .i64 0) (.string ⟨#[]⟩) (.slice none 0 0) (.slice X zs.length d)) w.heap.size (nd 4 0 ⟨#[]⟩ [] (TM.er zs)) (.agg #[.int .i64 4, .int .i64 0, .string ⟨#[]⟩, .slice none 0 0, .slice X zs.length d]) :=
         nodeV_kids HCP.out (set5_slc (ok := fun k => wo.heap.size ≤ k) (SlC.of_own HOr.out fun k h _ => h) fun k _ h8 => ⟨by have := HWO.out; omega, by have := HWO.out; omega⟩) (set5_deep HDr.out fun k _ h8 => ⟨by have := HWO.out; have := h8.1; omega, by have := HWO.out; have := h8.1; omega⟩)
        rw [HEr.out, ← HE.out] at hnode
        exact bodyPost_ret (ret_cell rfl _ _ (w.heap.size + 1 + 1) _ _ (0, 0) _ rfl hrow Tryz.underlying28 rfl (node_info _ _ _ _ _)) rfl (HQ.out _ _ ⟨_, rfl, hnode, hbf⟩)
end Go.Proofs.YtkgonoejnochjaaGreatDoor
namespace Go.Proofs.YtkgonoejnochjaaGreatDoor
namespace SP
open TM
end SP
open Go.RowKit LX TR TM SP RM
set_option maxRecDepth 100000 in
set_option maxHeartbeats 1600000 in
theorem qtext11_any (t : Bool) (A : Option Addr) (c : Nat) (fs : List Fac) (e : List Nat) (he : EW e) (w : World) (hF : Facs w A fs) :
 Calls Tryz.prog 16 #[.agg (sv t A fs.length c), .agg (uv e)] w fun x w' => (∃ s : ByteArray, x = .returned (.string s) ∧ lst s = 35 :: tx (nodeE t fs e)) ∧ Below w.heap.size w w' := by
 have HND := Lib.hid (fun W (h : Below w.heap.size w W) => qnode11_any t A c fs e he W (hF.below h))
 have hv := node_vol t fs e
 have HV := Lib.hid hv
 clear hv
 generalize nodeE t fs e = ND at *
 have hs0 := (RowAt.new w 24 (sv t A fs.length c)).alloc (.cells (uv e) 34)
 have hp0 := RowAt.new (w.alloc (.cells (sv t A fs.length c) 24)) 34 (uv e)
 rw [show (w.alloc (.cells (sv t A fs.length c) 24)).heap.size = w.heap.size + 1 by simp] at hp0
 have HB1 : Hid (Below w.heap.size w ((w.alloc (.cells (sv t A fs.length c) 24)).alloc (.cells (uv e) 34))) := ((Below.refl _ _).alloc (Nat.le_refl _) _).alloc (by simp) _
 have HS1 := Lib.hid hs0
 have HP1 := Lib.hid hp0
 clear hs0 hp0 hF
 generalize fs.length = nf at *
 go_enter Tryz.func16, Tryz.ntmps16
 go_upto_region 1 with fail
 generalize (w.alloc (.cells (sv t A nf c) 24)).alloc (.cells (uv e) 34) = w1 at *
 go_wp2_with (first | (refine wpList_loadShape (by rfl) _ rfl w.heap.size rfl t A nf c HS1.out ?_) | (refine wpList_loadElem (by rfl) _ rfl (w.heap.size + 1) rfl _ he HP1.out ?_))
 refine (HND.out w1 HB1.out).mono ?_
 rintro x w2 ⟨y, rfl, ⟨z, rfl, hez, hdz⟩, hb⟩
 have HB2 := Lib.hid (HB1.out.trans (hb.mono HB1.out.size))
 have hvz : (tx z).length ≤ 5000000 := by
  have h1 := tx_vol ND
  have h2 := HV.out
  rw [← hez, tx_er] at h1
  rw [← hez] at h2
  omega
 have hcz : TM.cnt [z] ≤ 4294967296 := by
  have h1 := cnt_vol [ND]
  have h2 := HV.out
  rw [← hez, cnt_er1] at h1
  rw [← hez] at h2
  omega
 have htz : tx z = tx ND := by rw [← hez, tx_er]
 have HTX := Lib.hid (text10_any 4294967296 (Nat.le_refl _) z hcz (by omega) w2 hdz.nods)
 have HZ := Lib.hid (And.intro hvz htz)
 clear hb hez hdz hvz hcz htz
 go_wp2_with fail
 refine HTX.out.mono ?_
 rintro e w3 ⟨⟨s, rfl, hs⟩, hb⟩
 have HB3 := Lib.hid (HB2.out.trans (hb.mono HB2.out.size))
 have hsz : s.size ≤ 140737488355000 := by have h := HZ.out.1; rw [lst_size s hs]; omega
 have h1 : ((⟨#[35]⟩ : ByteArray) ++ s).size = 1 + s.size := by rw [ByteArray.size_append]; rfl
 have HF : Hid (lst (⟨#[35]⟩ ++ s) = 35 :: tx ND) := by
  show _ = _
  rw [lst_app, hs, HZ.out.2]
  rfl
 clear hb hs
 go_wp2_with fail
 go_ret
 exact ⟨⟨_, rfl, HF.out⟩, HB3.out⟩
end Go.Proofs.YtkgonoejnochjaaGreatDoor

