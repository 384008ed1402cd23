/- Texts that SpellNodeCard need. Conditions: those that each states. -/

import Derived.Test.YtkgonoejnochjaaGreatDoorY52
set_option linter.unusedSimpArgs false
set_option linter.unusedVariables false
set_option maxRecDepth 8000
namespace Go.Proofs.YtkgonoejnochjaaGreatDoor
namespace SP
open TM
theorem rul_yes {names : List ByteArray} {n : Int} {l : List Nat} {v i : Nat} (h : MM.hasN (gOwners n l v) (i : Int) = true) : rulTo names n l v (i + 1) = rulTo names n l v i ++ [nd 6 0 (names.getD i ⟨#[]⟩) (nmd names (gReaders n l v (i : Int))) []] := by
 unfold rulTo
 rw [List.range_succ, List.filter_append, List.map_append]
 congr 1
 simp [h]
theorem rul_no {names : List ByteArray} {n : Int} {l : List Nat} {v i : Nat} (h : MM.hasN (gOwners n l v) (i : Int) = false) : rulTo names n l v (i + 1) = rulTo names n l v i := by
 unfold rulTo
 rw [List.range_succ, List.filter_append, List.map_append]
 simp [h]
end SP
open Go.RowKit LX TR TM SP RM
set_option maxRecDepth 100000 in
set_option maxHeartbeats 3200000 in
theorem qcon_grid (f : Fac) (v : Nat) (hv : v < 18446744073709551616) (w : World) (hf : FacOk w f) (hn : f.names.length ≤ 2147483648) (hk : f.kind = 3) :
 Calls Tryz.prog 29 #[.agg (fv f), .int .u64 (v : Int)] w fun e w' => ∃ x, e = .returned x ∧ NodeV w' w.heap.size (nd 5 0 ⟨#[]⟩ [] (rulTo f.names f.n f.l v f.names.length)) x ∧ Below w.heap.size w w' := by
 have HNDa := Lib.hid (fun (r : Nat) (hr : r < 18446744073709551616) W (h : Below w.heap.size w W) => qnamed_any f.A f.c f.names r hr W hn (hf.below h).strs)
 have HOW := Lib.hid (fun W => qowners_any f.n f.l hf.rows v hv W)
 have HRDa := Lib.hid (fun (o : Nat) W => qreaders_any f.n f.l hf.rows v hv (o : Int) W)
 have HHAa := Lib.hid (fun (i : Nat) W => refHas_any (gOwners f.n f.l v) (gOwners_lt _ _ _) (i : Int) W)
 have HRLT := Lib.hid (fun (o : Nat) => gReaders_lt f.n f.l v (o : Int))
 have HRY := Lib.hid (fun i (h : MM.hasN (gOwners f.n f.l v) ((i : Nat) : Int) = true) => rul_yes (names := f.names) h)
 have HRN := Lib.hid (fun i (h : MM.hasN (gOwners f.n f.l v) ((i : Nat) : Int) = false) => rul_no (names := f.names) h)
 have HR0 : Hid (rulTo f.names f.n f.l v 0 = []) := rfl
 have hl := hf.rows
 have HST : Hid (∀ W, Below w.heap.size w W → Strs W f.A f.names) := fun W h => (hf.below h).strs
 have HC : Hid (∀ W, RowAt W w.heap.size 51 (fv f) → W.cell? ⟨w.heap.size, 0, none⟩ = some (.int .i64 f.kind) ∧ W.cell? ⟨w.heap.size, 1, none⟩ = some (.slice f.A f.names.length f.c) ∧ W.cell? ⟨w.heap.size, 2, none⟩ = some (.int .i64 f.n) ∧ W.rangeAt w.heap.size 2 (rvl f.n f.l)) := fun W h => fac_cells h
 have HF1 := Lib.hid (((RowAt.new w 51 (fv f)).alloc (.cells #[.int .i64 0, .int .i64 0, .string ⟨#[]⟩, .slice none 0 0, .slice none 0 0] 28)).alloc (.cells #[.int .i64 5, .int .i64 0, .string ⟨#[]⟩, .slice none 0 0, .slice none 0 0] 28))
 have hg0 := RowAt.new (w.alloc (.cells (fv f) 51)) 28 #[.int .i64 0, .int .i64 0, .string ⟨#[]⟩, .slice none 0 0, .slice none 0 0]
 have hn0 := RowAt.new ((w.alloc (.cells (fv f) 51)).alloc (.cells #[.int .i64 0, .int .i64 0, .string ⟨#[]⟩, .slice none 0 0, .slice none 0 0] 28)) 28 #[.int .i64 5, .int .i64 0, .string ⟨#[]⟩, .slice none 0 0, .slice none 0 0]
 have HW1 : Hid (w.heap.size + 1 + 1 < (((w.alloc (.cells (fv f) 51)).alloc (.cells #[.int .i64 0, .int .i64 0, .string ⟨#[]⟩, .slice none 0 0, .slice none 0 0] 28)).alloc (.cells #[.int .i64 5, .int .i64 0, .string ⟨#[]⟩, .slice none 0 0, .slice none 0 0] 28)).heap.size) := by show w.heap.size + 1 + 1 < _; simp
 rw [show (w.alloc (.cells (fv f) 51)).heap.size = w.heap.size + 1 by simp] at hg0
 rw [show ((w.alloc (.cells (fv f) 51)).alloc (.cells #[.int .i64 0, .int .i64 0, .string ⟨#[]⟩, .slice none 0 0, .slice none 0 0] 28)).heap.size = w.heap.size + 1 + 1 by simp] at hn0
 have HG1 := Lib.hid (hg0.alloc (.cells #[.int .i64 5, .int .i64 0, .string ⟨#[]⟩, .slice none 0 0, .slice none 0 0] 28))
 have HN1 := Lib.hid hn0
 have HB1 : Hid (Below w.heap.size w (((w.alloc (.cells (fv f) 51)).alloc (.cells #[.int .i64 0, .int .i64 0, .string ⟨#[]⟩, .slice none 0 0, .slice none 0 0] 28)).alloc (.cells #[.int .i64 5, .int .i64 0, .string ⟨#[]⟩, .slice none 0 0, .slice none 0 0] 28))) := (((Below.refl _ _).alloc (Nat.le_refl _) _).alloc (by simp) _).alloc (by simp; omega) _
 clear hg0 hn0 hf
 refine calls_hid fun Q' hQ => ?_
 have HQ := Lib.hid hQ; clear hQ
 generalize f.kind = kd at *
 generalize hNM : f.names = names at *
 generalize f.n = fn at *
 generalize f.l = fl at *
 generalize f.A = fA at *
 generalize f.c = fc at *
 generalize hnn : names.length = nn at *
 have HNN := Lib.hid hnn
 have ta : (kd == 2) = false := by simp [hk]
 have tb : (kd == 3) = true := by simp [hk]
 clear hk hNM hnn
 go_enter Tryz.func29, Tryz.ntmps29
 go_upto_region 1 with fail
 obtain ⟨c0, c1, c2, c3⟩ := HC.out _ ((RowAt.new w 51 (fv f)).alloc (.cells #[.int .i64 0, .int .i64 0, .string ⟨#[]⟩, .slice none 0 0, .slice none 0 0] 28))
 go_upto_region 4 with fail
 clear c0 c1 c2 c3
 go_upto_region 5 with fail
 generalize (((w.alloc (.cells (fv f) 51)).alloc (.cells #[.int .i64 0, .int .i64 0, .string ⟨#[]⟩, .slice none 0 0, .slice none 0 0] 28)).alloc (.cells #[.int .i64 5, .int .i64 0, .string ⟨#[]⟩, .slice none 0 0, .slice none 0 0] 28)) = wo at *
 have HWO := HW1
 go_wp2_with fail
 go_loopw [6] (fun iv wr => ∃ (i : Nat) (zs : List Nd) (X : Option Addr) (d : Nat), i ≤ nn ∧ iv = .int .i64 i ∧ zs.length ≤ i ∧ Hid (RowAt wr (w.heap.size + 1 + 1) 28 #[.int .i64 5, .int .i64 0, .string ⟨#[]⟩, .slice none 0 0, .slice X zs.length d]) ∧ Hid (TM.er zs = rulTo names fn fl v i) ∧ Hid (wr.ownsRow wo.heap.size 28 5 (.slice X zs.length d) zs.length (ncs zs)) ∧ Hid (DeepN wr (fun k => wo.heap.size ≤ k ∧ (Value.slice X zs.length d).ownBlock ≠ some k) zs) ∧ Hid (RowAt wr w.heap.size 51 (fv f)) ∧ Hid (RowAt wr (w.heap.size + 1) 28 #[.int .i64 0, .int .i64 0, .string ⟨#[]⟩, .slice none 0 0, .slice none 0 0]) ∧ Hid (Below w.heap.size w wr) ∧ Hid (wo.heap.size ≤ wr.heap.size)) (fun iv _ => nn - (intOf iv).toNat)
 case atStart => exact ⟨0, [], none, 0, by omega, rfl, Nat.le_refl _, HN1, by show TM.er [] = _; rw [HR0.out, TM.er], World.ownsRow_nil _ _ _ _, DeepN.nil _ _, HF1, HG1, HB1, Nat.le_refl _⟩
 case round =>
  obtain ⟨i, zs, X, d, hi, rfl, hzi, HNq, HEr, HOq, HDq, HFq, HGq, HBq, HZq⟩ := hrel
  clear HF1 HG1 HN1 HB1
  obtain ⟨c0, c1, c2, c3⟩ := HC.out _ HFq.out
  by_cases hlt : i < nn
  ·have hin : (i : Int) < (nn : Int) := by omega
   obtain ⟨bb, o, hA, hbb, hcs⟩ := Sl.at_ (HST.out w (Below.refl _ _)) (by
        intro h0
        have h1 := congrArg List.length h0
        unfold scells at h1
        rw [List.length_map, HNN.out] at h1
        simp at h1
        omega)
   have q0 : w.cell? ⟨bb, o + i, none⟩ = some (.string (names.getD i ⟨#[]⟩)) := hcs i _ (by
        unfold scells
        rw [List.getElem?_map, List.getD_eq_getElem?_getD, List.getElem?_eq_getElem (by rw [HNN.out]; exact hlt)]; rfl)
   clear hcs
   go_wp2_with (refine wpList_loadRelIn (by rfl) _ rfl w.heap.size 2 rfl fn fl hl c3 ?_)
   refine (HOW.out wr).mono ?_
   rintro e wp ⟨rfl, hb⟩
   have HFr := Lib.hid (HFq.out.below hb HFq.out.lt)
   have HGr := Lib.hid (HGq.out.below hb HGq.out.lt)
   have HNr := Lib.hid (HNq.out.below hb HNq.out.lt)
   have HBr := Lib.hid (HBq.out.trans (hb.mono HBq.out.size))
   have HZr := Lib.hid (Nat.le_trans HZq.out hb.size)
   have HOr := Lib.hid (own_below HOq.out hb (Nat.le_refl _))
   have HDr := Lib.hid (HDq.out.keep hb.size (fun k hk _ => hb.block k hk) (fun _ _ h => h))
   clear HFq HGq HNq HBq HZq HOq HDq hb c0 c1 c2 c3
   obtain ⟨c0, c1, c2, c3⟩ := HC.out _ HFr.out
   have HH := Lib.hid (HHAa.out i wp)
   have HRYi := Lib.hid (HRY.out i)
   have HRNi := Lib.hid (HRN.out i)
   generalize MM.hasN (gOwners fn fl v) (i : Int) = hb at *
   cases hb
   ·have HT := Lib.hid (HRNi.out rfl)
    clear HRYi HRNi
    go_wp2_with fail
    refine HH.out.mono ?_
    rintro e w' ⟨rfl, rfl⟩
    go_wp2_with fail
    go_roundw
    case rel => exact ⟨i + 1, zs, X, d, by omega, by go_num, by omega, HNr, by rw [HT.out]; exact HEr, HOr, HDr, HFr, HGr, HBr, HZr⟩
    case measure => simp [intOf]; omega
   ·have HRU := Lib.hid (HRYi.out rfl)
    have HRD := Lib.hid (HRDa.out i)
    have HND := Lib.hid (HNDa.out (gReaders fn fl v (i : Int)) (HRLT.out i))
    clear HRYi HRNi
    go_wp2_with fail
    refine HH.out.mono ?_
    rintro e w' ⟨rfl, rfl⟩
    subst hA
    generalize gReaders fn fl v (i : Int) = rr at *
    generalize names.getD i ⟨#[]⟩ = s at *
    have HW2 : Hid (w.heap.size + 1 + 1 ≤ wp.heap.size) := by have h1 := HWO.out; have h2 := HZr.out; show w.heap.size + 1 + 1 ≤ wp.heap.size; omega
    have C1 : ∀ W, Below (w.heap.size + 1 + 1) wp W → W.cell? ⟨w.heap.size, 1, none⟩ = some (.slice (some ⟨bb, o, none⟩) nn fc) := fun W h => (below_cell h (by omega)).trans c1
    have C2 : ∀ W, Below (w.heap.size + 1 + 1) wp W → W.cell? ⟨bb, o + i, none⟩ = some (.string s) := fun W h => (below_cell h (by omega)).trans ((below_cell HBr.out hbb).trans q0)
    have pR : ∀ W, Below (w.heap.size + 1 + 1) wp W → W.rangeAt w.heap.size 2 (rvl fn fl) := fun W h => (HC.out W (HFr.out.below h (by omega))).2.2.2
    have HVV : Hid (Below wp.heap.size wp wp.drew) := (Below.refl _ _).drew
    have HSV : Hid (Below (w.heap.size + 1 + 1) wp wp.drew) := (Below.refl _ _).drew
    have HNV := Lib.hid HNr.out.drew
    clear c0 c1 c2 c3 HNr q0
    go_wp2_with fail
    refine wp_region_ot (fun w' => Below (w.heap.size + 1 + 1) wp w') (.take 0 (.take 2 (.take 3 (.take 4 (.take 5 (.take 6 (.take 7 (.take 8 (.take 9 (.take 10 (.take 11 (.take 12 (.two 1 (.solo 13 (.solo 14 (.take 15 (.solo 16 (.solo 17 (.take 18 (.solo 19 .nil))))))) 13 (.two 1 (.solo 14 (.take 15 (.solo 16 (.solo 17 (.take 18 (.solo 19 .nil)))))) 14 (.take 15 (.two 1 (.solo 16 (.solo 17 (.take 18 (.solo 19 .nil)))) 16 (.solo 1 (.solo 17 (.take 18 (.solo 19 .nil)))))))))))))))))))) (by kernel_rfl) (by kernel_rfl) rfl (by kernel_rfl) HSV.out ?_
    generalize wp.drew = V at HVV HSV HNV ⊢
    iterate 12
     (refine wpOT_step (o := ?_) ?_ ?_; rotate_left 1; (simp only [zA1, zA2, zA3]; with_reducible rfl))
     (first
      | (refine wpOT_skip (by rfl) ?_)
      | (refine wpOT_take (by rfl) (take_loadRelIn _ rfl _ _ rfl _ _ hl pR) ?_)
      | (refine wpOT_take (v := ?_) (by rfl) ?_ ?_; rotate_left 1; (intro wx hSx; have hc_0 := C1 wx hSx; have hc_1 := C2 wx hSx; go_simp; try with_reducible rfl)))
     (try simp only [Act.put, zA4, zA5, zA6])
    clear C1 C2 pR
    refine wpOT_two ?_ ?_
    ·have k4 : V.cell? ⟨w.heap.size + 1 + 1, 4, none⟩ = some (.slice X zs.length d) := (RowAt.cell HNV.out 4).trans rfl
     (refine wpOT_solo (o := ?_) ?_ ?_; rotate_left 1; (simp only [zA1, zA2, zA3]; with_reducible rfl))
     intro K hK
     go_simp
     refine hK.out _ _ (HSV.out) ?_
     clear hK K
     (try simp only [Act.put, zA4, zA5, zA6])
     clear k4
     (refine wpOT_solo (o := ?_) ?_ ?_; rotate_left 1; (simp only [zA1, zA2, zA3]; with_reducible rfl))
     intro K hK
     go_simp
     go_at_call 67
     refine (HRD.out V).mono ?_
     rintro e wq ⟨rfl, hb⟩
     have HVwq := Lib.hid (HVV.out.trans (hb.mono HVV.out.size))
     have HNwq := Lib.hid (HNV.out.below hb HNV.out.lt)
     have HSwq : Hid (Below (w.heap.size + 1 + 1) wp wq) := HVwq.out.mono HW2.out
     clear HVV HNV HSV hb
     refine hK.out _ _ (HSwq.out) ?_
     clear hK K
     (try simp only [Act.put, zA4, zA5, zA6])
     (refine wpOT_solo (o := ?_) ?_ ?_; rotate_left 1; (simp only [zA1, zA2, zA3]; with_reducible rfl))
     intro K hK
     go_simp
     go_at_call 64
     refine (HND.out wq (HBr.out.trans (HVwq.out.mono HBr.out.size))).mono ?_
     rintro e wn ⟨Y, dd, rfl, hd, hsl, hb⟩
     have HY := Lib.hid (And.intro hd hsl)
     have HVW := HVwq
     clear hd hsl
     have HVwn := Lib.hid (HVwq.out.trans (hb.mono HVwq.out.size))
     have HNwn := Lib.hid (HNwq.out.below hb HNwq.out.lt)
     have HSwn : Hid (Below (w.heap.size + 1 + 1) wp wn) := HVwn.out.mono HW2.out
     clear HVwq HNwq HSwq hb
     refine hK.out _ _ (HSwn.out) ?_
     clear hK K
     (try simp only [Act.put, zA4, zA5, zA6])
     iterate 1
      (refine wpOT_step (o := ?_) ?_ ?_; rotate_left 1; (simp only [zA1, zA2, zA3]; with_reducible rfl))
      (first
       | (refine wpOT_skip (by rfl) ?_)
       | (refine wpOT_take (v := ?_) (by rfl) ?_ ?_; rotate_left 1; (intro wx hSx; go_simp; try with_reducible rfl)))
      (try simp only [Act.put, zA4, zA5, zA6])
     have HM := Lib.hid (Mv.below (b := w.heap.size) (by have := HW2.out; omega) HVwn.out)
     have hz : DeepN wn (fun k => wq.heap.size ≤ k) [(Nd.mk 6 0 s Y dd (nmd names rr) none 0 [])] := DeepN.one ⟨⟨HY.out.2, HY.out.1⟩, SlC.nil _ _ _, Nat.le_refl _⟩ (DeepN.nil _ _)
     have HDG := Lib.hid (deep_more (w := wo) HDr.out HM.out hz HOr.out HVW.out.size (by have := HWO.out; omega) HZr.out (.cells #[.int .i64 6, .int .i64 0, .string s, .slice Y (nmd names rr).length dd, .slice none 0 0] 28))
     have HOG : Hid ((wn.alloc (.cells #[.int .i64 6, .int .i64 0, .string s, .slice Y (nmd names rr).length dd, .slice none 0 0] 28)).ownsRow wo.heap.size 28 5 (.slice X zs.length d) zs.length (ncs zs)) := (own_like9 HOr.out (fun k hk e => HM.out.block k hk (by have h1 := HOr.out.lt k e; have h2 := HWO.out; omega))).alloc _
     have HRG := Lib.hid (RowAt.new wn 28 #[.int .i64 6, .int .i64 0, .string s, .slice Y (nmd names rr).length dd, .slice none 0 0])
     have HVwb := Lib.hid (HVwn.out.alloc HVwn.out.size (.cells #[.int .i64 6, .int .i64 0, .string s, .slice Y (nmd names rr).length dd, .slice none 0 0] 28))
     have HNwb := Lib.hid (HNwn.out.alloc (.cells #[.int .i64 6, .int .i64 0, .string s, .slice Y (nmd names rr).length dd, .slice none 0 0] 28))
     have HSwb : Hid (Below (w.heap.size + 1 + 1) wp (wn.alloc (.cells #[.int .i64 6, .int .i64 0, .string s, .slice Y (nmd names rr).length dd, .slice none 0 0] 28))) := HVwb.out.mono HW2.out
     clear hz HM HY HVW
     (refine wpOT_solo (o := ?_) ?_ ?_; rotate_left 1; (simp only [zA1, zA2, zA3]; with_reducible rfl))
     intro K hK
     go_simp
     refine hK.out _ _ (HSwb.out) ?_
     clear hK K
     (try simp only [Act.put, zA4, zA5, zA6])
     generalize wn.alloc (.cells #[.int .i64 6, .int .i64 0, .string s, .slice Y (nmd names rr).length dd, .slice none 0 0] 28) = wb at *
     generalize wn.heap.size = g9 at *
     clear HVwn HNwn HSwn
     (refine wpOT_solo (o := ?_) ?_ ?_; rotate_left 1; (simp only [zA1, zA2, zA3]; with_reducible rfl))
     intro K hK
     rw [if_pos (by rfl)]
     refine wp_moreB _ _ 26 rfl 28 (.agg #[.int .i64 0, .int .i64 0, .string ⟨#[]⟩, .slice none 0 0, .slice none 0 0]) 5 80 Tryz.underlying26 infoNode rfl (by decide) wo.heap.size X zs.length d (ncs zs) rfl HOG.out g9 (ncells (Nd.mk 6 0 s Y dd (nmd names rr) none 0 [])) rfl rfl ?c2 (nc_one _) ?c3 ?c4 ?c5 ?_
     case c2 => intro j u hu; exact (HRG.out.cell j).trans (by show ((ncells (Nd.mk 6 0 s Y dd (nmd names rr) none 0 [])).toArray)[j]? = some u; rw [zA1]; exact hu)
     case c3 => simp only [maxLen]; omega
     case c4 => omega
     case c5 => have h1 := HVwb.out.size; have h2 := HZr.out; omega
     intro X5 d5 w5 hown5 hb5 hg5 hat5
     have HN5 := Lib.hid (HNwb.out.below hb5 HWO.out)
     have HS5 : Hid (Below (w.heap.size + 1 + 1) wp w5) := HSwb.out.trans (hb5.mono (by have := HWO.out; omega))
     have HO5 := Lib.hid hown5
     have HD5 := Lib.hid (deep_grown (n := zs.length) (m := zs.length + 1) HDG.out hg5 hat5)
     have HF5 := Lib.hid ((HFr.out.below HVwb.out HFr.out.lt).below hb5 (by have := HWO.out; omega))
     have HG5 := Lib.hid ((HGr.out.below HVwb.out HGr.out.lt).below hb5 (by have := HWO.out; omega))
     have HB5 := Lib.hid ((HBr.out.trans (HVwb.out.mono HBr.out.size)).trans (hb5.mono (by have := HWO.out; omega)))
     have HZ5 := Lib.hid (Nat.le_trans (Nat.le_trans HZr.out HVwb.out.size) hg5.size)
     refine hK.out _ _ HS5.out ?_
     clear hK K hown5 hb5 hg5 hat5 HOG HDG HRG HVwb HNwb HSwb HFr HGr HBr HZr HOr HDr
     (try simp only [Act.put, zA4, zA5, zA6])
     iterate 1
      (refine wpOT_step (o := ?_) ?_ ?_; rotate_left 1; (simp only [zA1, zA2, zA3]; with_reducible rfl))
      (first
       | (refine wpOT_skip (by rfl) ?_)
       | (refine wpOT_take (v := ?_) (by rfl) ?_ ?_; rotate_left 1; (intro wx hSx; go_simp; try with_reducible rfl)))
      (try simp only [Act.put, zA4, zA5, zA6])
     have k4 : w5.cell? ⟨w.heap.size + 1 + 1, 4, none⟩ = some (.slice X zs.length d) := (RowAt.cell HN5.out 4).trans rfl
     have f4 := HN5.out.free 4
     have HS6 : Hid (Below (w.heap.size + 1 + 1) wp (w5.setCell ⟨w.heap.size + 1 + 1, 4, none⟩ (.slice X5 (zs.length + 1) d5))) := HS5.out.setCell (p := ⟨w.heap.size + 1 + 1, 4, none⟩) (Nat.le_refl _) _
     (refine wpOT_solo (o := ?_) ?_ ?_; rotate_left 1; (simp only [zA1, zA2, zA3]; with_reducible rfl))
     intro K hK
     go_simp
     refine hK.out _ _ HS6.out ?_
     clear hK K k4 f4 HS6
     (try simp only [Act.put, zA4, zA5, zA6])
     refine wpOT_done ?_
     have HO6 : Hid ((w5.setCell ⟨w.heap.size + 1 + 1, 4, none⟩ (.slice X5 (zs.length + 1) d5)).ownsRow wo.heap.size 28 5 (.slice X5 (zs ++ [(Nd.mk 6 0 s Y dd (nmd names rr) none 0 [])]).length d5) (zs ++ [(Nd.mk 6 0 s Y dd (nmd names rr) none 0 [])]).length (ncs (zs ++ [(Nd.mk 6 0 s Y dd (nmd names rr) none 0 [])]))) := by
      rw [List.length_append, List.length_singleton, ncs_append, ncs_one]
      exact own_like9 HO5.out (fun k hk e => (Else.setCell w5 ⟨w.heap.size + 1 + 1, 4, none⟩ (.slice X5 (zs.length + 1) d5)).block k (by have h1 := HO5.out.lt k e; have h2 := HWO.out; show k ≠ w.heap.size + 1 + 1; omega))
     have HD6 : Hid (DeepN (w5.setCell ⟨w.heap.size + 1 + 1, 4, none⟩ (.slice X5 (zs.length + 1) d5)) (fun k => wo.heap.size ≤ k ∧ (Value.slice X5 (zs ++ [(Nd.mk 6 0 s Y dd (nmd names rr) none 0 [])]).length d5).ownBlock ≠ some k) (zs ++ [(Nd.mk 6 0 s Y dd (nmd names rr) none 0 [])])) := by
      rw [List.length_append, List.length_singleton]
      exact HD5.out.keep (Nat.le_of_eq (Else.setCell w5 ⟨w.heap.size + 1 + 1, 4, none⟩ (.slice X5 (zs.length + 1) d5)).size.symm) (fun k hk h => (Else.setCell w5 ⟨w.heap.size + 1 + 1, 4, none⟩ (.slice X5 (zs.length + 1) d5)).block k (by have h2 := HWO.out; have h3 := h.1; show k ≠ w.heap.size + 1 + 1; omega)) (fun _ _ h => h)
     have HE6 : Hid (TM.er (zs ++ [(Nd.mk 6 0 s Y dd (nmd names rr) none 0 [])]) = rulTo names fn fl v (i + 1)) := by
      show TM.er (zs ++ [(Nd.mk 6 0 s Y dd (nmd names rr) none 0 [])]) = rulTo names fn fl v (i + 1)
      rw [HRU.out, TM.er_append, HEr.out, er_one]
      congr 1
      show [nd 6 0 s (nmd names rr) (TM.er [])] = _
      rw [TM.er]
     have HN6 : Hid (RowAt (w5.setCell ⟨w.heap.size + 1 + 1, 4, none⟩ (.slice X5 (zs.length + 1) d5)) (w.heap.size + 1 + 1) 28 #[.int .i64 5, .int .i64 0, .string ⟨#[]⟩, .slice none 0 0, .slice X5 (zs ++ [(Nd.mk 6 0 s Y dd (nmd names rr) none 0 [])]).length d5]) := by
      rw [List.length_append, List.length_singleton]
      exact HN5.out.put 4 (.slice X5 (zs.length + 1) d5)
     have HF6 := Lib.hid (HF5.out.far (p := ⟨w.heap.size + 1 + 1, 4, none⟩) (by show w.heap.size + 1 + 1 ≠ w.heap.size; omega) (.slice X5 (zs.length + 1) d5))
     have HG6 := Lib.hid (HG5.out.far (p := ⟨w.heap.size + 1 + 1, 4, none⟩) (by show w.heap.size + 1 + 1 ≠ w.heap.size + 1; omega) (.slice X5 (zs.length + 1) d5))
     have HB6 := Lib.hid (HB5.out.setCell (p := ⟨w.heap.size + 1 + 1, 4, none⟩) (by show w.heap.size ≤ w.heap.size + 1 + 1; omega) (.slice X5 (zs.length + 1) d5))
     have HZ6 : Hid (wo.heap.size ≤ (w5.setCell ⟨w.heap.size + 1 + 1, 4, none⟩ (.slice X5 (zs.length + 1) d5)).heap.size) := Nat.le_trans HZ5.out (Nat.le_of_eq (Else.setCell w5 ⟨w.heap.size + 1 + 1, 4, none⟩ (.slice X5 (zs.length + 1) d5)).size.symm)
     have HL6 : (zs ++ [(Nd.mk 6 0 s Y dd (nmd names rr) none 0 [])]).length ≤ i + 1 := by rw [List.length_append, List.length_singleton]; omega
     clear HO5 HD5 HN5 HF5 HG5 HB5 HZ5 HS5
     go_wp2_with fail
     go_roundw
     case rel => exact ⟨i + 1, zs ++ [(Nd.mk 6 0 s Y dd (nmd names rr) none 0 [])], X5, d5, by omega, by go_num, HL6, HN6, HE6, HO6, HD6, HF6, HG6, HB6, HZ6⟩
     case measure => simp [intOf]; omega
    ·(refine wpOT_solo (o := ?_) ?_ ?_; rotate_left 1; (simp only [zA1, zA2, zA3]; with_reducible rfl))
     intro K hK
     go_simp
     go_at_call 67
     refine (HRD.out V).mono ?_
     rintro e wq ⟨rfl, hb⟩
     have HVwq := Lib.hid (HVV.out.trans (hb.mono HVV.out.size))
     have HNwq := Lib.hid (HNV.out.below hb HNV.out.lt)
     have HSwq : Hid (Below (w.heap.size + 1 + 1) wp wq) := HVwq.out.mono HW2.out
     clear HVV HNV HSV hb
     refine hK.out _ _ (HSwq.out) ?_
     clear hK K
     (try simp only [Act.put, zA4, zA5, zA6])
     refine wpOT_two ?_ ?_
     ·have k4 : wq.cell? ⟨w.heap.size + 1 + 1, 4, none⟩ = some (.slice X zs.length d) := (RowAt.cell HNwq.out 4).trans rfl
      (refine wpOT_solo (o := ?_) ?_ ?_; rotate_left 1; (simp only [zA1, zA2, zA3]; with_reducible rfl))
      intro K hK
      go_simp
      refine hK.out _ _ (HSwq.out) ?_
      clear hK K
      (try simp only [Act.put, zA4, zA5, zA6])
      clear k4
      (refine wpOT_solo (o := ?_) ?_ ?_; rotate_left 1; (simp only [zA1, zA2, zA3]; with_reducible rfl))
      intro K hK
      go_simp
      go_at_call 64
      refine (HND.out wq (HBr.out.trans (HVwq.out.mono HBr.out.size))).mono ?_
      rintro e wn ⟨Y, dd, rfl, hd, hsl, hb⟩
      have HY := Lib.hid (And.intro hd hsl)
      have HVW := HVwq
      clear hd hsl
      have HVwn := Lib.hid (HVwq.out.trans (hb.mono HVwq.out.size))
      have HNwn := Lib.hid (HNwq.out.below hb HNwq.out.lt)
      have HSwn : Hid (Below (w.heap.size + 1 + 1) wp wn) := HVwn.out.mono HW2.out
      clear HVwq HNwq HSwq hb
      refine hK.out _ _ (HSwn.out) ?_
      clear hK K
      (try simp only [Act.put, zA4, zA5, zA6])
      iterate 1
       (refine wpOT_step (o := ?_) ?_ ?_; rotate_left 1; (simp only [zA1, zA2, zA3]; with_reducible rfl))
       (first
             | (refine wpOT_skip (by rfl) ?_)
             | (refine wpOT_take (v := ?_) (by rfl) ?_ ?_; rotate_left 1; (intro wx hSx; go_simp; try with_reducible rfl)))
       (try simp only [Act.put, zA4, zA5, zA6])
      have HM := Lib.hid (Mv.below (b := w.heap.size) (by have := HW2.out; omega) HVwn.out)
      have hz : DeepN wn (fun k => wq.heap.size ≤ k) [(Nd.mk 6 0 s Y dd (nmd names rr) none 0 [])] := DeepN.one ⟨⟨HY.out.2, HY.out.1⟩, SlC.nil _ _ _, Nat.le_refl _⟩ (DeepN.nil _ _)
      have HDG := Lib.hid (deep_more (w := wo) HDr.out HM.out hz HOr.out HVW.out.size (by have := HWO.out; omega) HZr.out (.cells #[.int .i64 6, .int .i64 0, .string s, .slice Y (nmd names rr).length dd, .slice none 0 0] 28))
      have HOG : Hid ((wn.alloc (.cells #[.int .i64 6, .int .i64 0, .string s, .slice Y (nmd names rr).length dd, .slice none 0 0] 28)).ownsRow wo.heap.size 28 5 (.slice X zs.length d) zs.length (ncs zs)) := (own_like9 HOr.out (fun k hk e => HM.out.block k hk (by have h1 := HOr.out.lt k e; have h2 := HWO.out; omega))).alloc _
      have HRG := Lib.hid (RowAt.new wn 28 #[.int .i64 6, .int .i64 0, .string s, .slice Y (nmd names rr).length dd, .slice none 0 0])
      have HVwb := Lib.hid (HVwn.out.alloc HVwn.out.size (.cells #[.int .i64 6, .int .i64 0, .string s, .slice Y (nmd names rr).length dd, .slice none 0 0] 28))
      have HNwb := Lib.hid (HNwn.out.alloc (.cells #[.int .i64 6, .int .i64 0, .string s, .slice Y (nmd names rr).length dd, .slice none 0 0] 28))
      have HSwb : Hid (Below (w.heap.size + 1 + 1) wp (wn.alloc (.cells #[.int .i64 6, .int .i64 0, .string s, .slice Y (nmd names rr).length dd, .slice none 0 0] 28))) := HVwb.out.mono HW2.out
      clear hz HM HY HVW
      (refine wpOT_solo (o := ?_) ?_ ?_; rotate_left 1; (simp only [zA1, zA2, zA3]; with_reducible rfl))
      intro K hK
      go_simp
      refine hK.out _ _ (HSwb.out) ?_
      clear hK K
      (try simp only [Act.put, zA4, zA5, zA6])
      generalize wn.alloc (.cells #[.int .i64 6, .int .i64 0, .string s, .slice Y (nmd names rr).length dd, .slice none 0 0] 28) = wb at *
      generalize wn.heap.size = g9 at *
      clear HVwn HNwn HSwn
      (refine wpOT_solo (o := ?_) ?_ ?_; rotate_left 1; (simp only [zA1, zA2, zA3]; with_reducible rfl))
      intro K hK
      rw [if_pos (by rfl)]
      refine wp_moreB _ _ 26 rfl 28 (.agg #[.int .i64 0, .int .i64 0, .string ⟨#[]⟩, .slice none 0 0, .slice none 0 0]) 5 80 Tryz.underlying26 infoNode rfl (by decide) wo.heap.size X zs.length d (ncs zs) rfl HOG.out g9 (ncells (Nd.mk 6 0 s Y dd (nmd names rr) none 0 [])) rfl rfl ?c2 (nc_one _) ?c3 ?c4 ?c5 ?_
      case c2 => intro j u hu; exact (HRG.out.cell j).trans (by show ((ncells (Nd.mk 6 0 s Y dd (nmd names rr) none 0 [])).toArray)[j]? = some u; rw [zA1]; exact hu)
      case c3 => simp only [maxLen]; omega
      case c4 => omega
      case c5 => have h1 := HVwb.out.size; have h2 := HZr.out; omega
      intro X5 d5 w5 hown5 hb5 hg5 hat5
      have HN5 := Lib.hid (HNwb.out.below hb5 HWO.out)
      have HS5 : Hid (Below (w.heap.size + 1 + 1) wp w5) := HSwb.out.trans (hb5.mono (by have := HWO.out; omega))
      have HO5 := Lib.hid hown5
      have HD5 := Lib.hid (deep_grown (n := zs.length) (m := zs.length + 1) HDG.out hg5 hat5)
      have HF5 := Lib.hid ((HFr.out.below HVwb.out HFr.out.lt).below hb5 (by have := HWO.out; omega))
      have HG5 := Lib.hid ((HGr.out.below HVwb.out HGr.out.lt).below hb5 (by have := HWO.out; omega))
      have HB5 := Lib.hid ((HBr.out.trans (HVwb.out.mono HBr.out.size)).trans (hb5.mono (by have := HWO.out; omega)))
      have HZ5 := Lib.hid (Nat.le_trans (Nat.le_trans HZr.out HVwb.out.size) hg5.size)
      refine hK.out _ _ HS5.out ?_
      clear hK K hown5 hb5 hg5 hat5 HOG HDG HRG HVwb HNwb HSwb HFr HGr HBr HZr HOr HDr
      (try simp only [Act.put, zA4, zA5, zA6])
      iterate 1
       (refine wpOT_step (o := ?_) ?_ ?_; rotate_left 1; (simp only [zA1, zA2, zA3]; with_reducible rfl))
       (first
             | (refine wpOT_skip (by rfl) ?_)
             | (refine wpOT_take (v := ?_) (by rfl) ?_ ?_; rotate_left 1; (intro wx hSx; go_simp; try with_reducible rfl)))
       (try simp only [Act.put, zA4, zA5, zA6])
      have k4 : w5.cell? ⟨w.heap.size + 1 + 1, 4, none⟩ = some (.slice X zs.length d) := (RowAt.cell HN5.out 4).trans rfl
      have f4 := HN5.out.free 4
      have HS6 : Hid (Below (w.heap.size + 1 + 1) wp (w5.setCell ⟨w.heap.size + 1 + 1, 4, none⟩ (.slice X5 (zs.length + 1) d5))) := HS5.out.setCell (p := ⟨w.heap.size + 1 + 1, 4, none⟩) (Nat.le_refl _) _
      (refine wpOT_solo (o := ?_) ?_ ?_; rotate_left 1; (simp only [zA1, zA2, zA3]; with_reducible rfl))
      intro K hK
      go_simp
      refine hK.out _ _ HS6.out ?_
      clear hK K k4 f4 HS6
      (try simp only [Act.put, zA4, zA5, zA6])
      refine wpOT_done ?_
      have HO6 : Hid ((w5.setCell ⟨w.heap.size + 1 + 1, 4, none⟩ (.slice X5 (zs.length + 1) d5)).ownsRow wo.heap.size 28 5 (.slice X5 (zs ++ [(Nd.mk 6 0 s Y dd (nmd names rr) none 0 [])]).length d5) (zs ++ [(Nd.mk 6 0 s Y dd (nmd names rr) none 0 [])]).length (ncs (zs ++ [(Nd.mk 6 0 s Y dd (nmd names rr) none 0 [])]))) := by
       rw [List.length_append, List.length_singleton, ncs_append, ncs_one]
       exact own_like9 HO5.out (fun k hk e => (Else.setCell w5 ⟨w.heap.size + 1 + 1, 4, none⟩ (.slice X5 (zs.length + 1) d5)).block k (by have h1 := HO5.out.lt k e; have h2 := HWO.out; show k ≠ w.heap.size + 1 + 1; omega))
      have HD6 : Hid (DeepN (w5.setCell ⟨w.heap.size + 1 + 1, 4, none⟩ (.slice X5 (zs.length + 1) d5)) (fun k => wo.heap.size ≤ k ∧ (Value.slice X5 (zs ++ [(Nd.mk 6 0 s Y dd (nmd names rr) none 0 [])]).length d5).ownBlock ≠ some k) (zs ++ [(Nd.mk 6 0 s Y dd (nmd names rr) none 0 [])])) := by
       rw [List.length_append, List.length_singleton]
       exact HD5.out.keep (Nat.le_of_eq (Else.setCell w5 ⟨w.heap.size + 1 + 1, 4, none⟩ (.slice X5 (zs.length + 1) d5)).size.symm) (fun k hk h => (Else.setCell w5 ⟨w.heap.size + 1 + 1, 4, none⟩ (.slice X5 (zs.length + 1) d5)).block k (by have h2 := HWO.out; have h3 := h.1; show k ≠ w.heap.size + 1 + 1; omega)) (fun _ _ h => h)
      have HE6 : Hid (TM.er (zs ++ [(Nd.mk 6 0 s Y dd (nmd names rr) none 0 [])]) = rulTo names fn fl v (i + 1)) := by
       show TM.er (zs ++ [(Nd.mk 6 0 s Y dd (nmd names rr) none 0 [])]) = rulTo names fn fl v (i + 1)
       rw [HRU.out, TM.er_append, HEr.out, er_one]
       congr 1
       show [nd 6 0 s (nmd names rr) (TM.er [])] = _
       rw [TM.er]
      have HN6 : Hid (RowAt (w5.setCell ⟨w.heap.size + 1 + 1, 4, none⟩ (.slice X5 (zs.length + 1) d5)) (w.heap.size + 1 + 1) 28 #[.int .i64 5, .int .i64 0, .string ⟨#[]⟩, .slice none 0 0, .slice X5 (zs ++ [(Nd.mk 6 0 s Y dd (nmd names rr) none 0 [])]).length d5]) := by
       rw [List.length_append, List.length_singleton]
       exact HN5.out.put 4 (.slice X5 (zs.length + 1) d5)
      have HF6 := Lib.hid (HF5.out.far (p := ⟨w.heap.size + 1 + 1, 4, none⟩) (by show w.heap.size + 1 + 1 ≠ w.heap.size; omega) (.slice X5 (zs.length + 1) d5))
      have HG6 := Lib.hid (HG5.out.far (p := ⟨w.heap.size + 1 + 1, 4, none⟩) (by show w.heap.size + 1 + 1 ≠ w.heap.size + 1; omega) (.slice X5 (zs.length + 1) d5))
      have HB6 := Lib.hid (HB5.out.setCell (p := ⟨w.heap.size + 1 + 1, 4, none⟩) (by show w.heap.size ≤ w.heap.size + 1 + 1; omega) (.slice X5 (zs.length + 1) d5))
      have HZ6 : Hid (wo.heap.size ≤ (w5.setCell ⟨w.heap.size + 1 + 1, 4, none⟩ (.slice X5 (zs.length + 1) d5)).heap.size) := Nat.le_trans HZ5.out (Nat.le_of_eq (Else.setCell w5 ⟨w.heap.size + 1 + 1, 4, none⟩ (.slice X5 (zs.length + 1) d5)).size.symm)
      have HL6 : (zs ++ [(Nd.mk 6 0 s Y dd (nmd names rr) none 0 [])]).length ≤ i + 1 := by rw [List.length_append, List.length_singleton]; omega
      clear HO5 HD5 HN5 HF5 HG5 HB5 HZ5 HS5
      go_wp2_with fail
      go_roundw
      case rel => exact ⟨i + 1, zs ++ [(Nd.mk 6 0 s Y dd (nmd names rr) none 0 [])], X5, d5, by omega, by go_num, HL6, HN6, HE6, HO6, HD6, HF6, HG6, HB6, HZ6⟩
      case measure => simp [intOf]; omega
     ·(refine wpOT_solo (o := ?_) ?_ ?_; rotate_left 1; (simp only [zA1, zA2, zA3]; with_reducible rfl))
      intro K hK
      go_simp
      go_at_call 64
      refine (HND.out wq (HBr.out.trans (HVwq.out.mono HBr.out.size))).mono ?_
      rintro e wn ⟨Y, dd, rfl, hd, hsl, hb⟩
      have HY := Lib.hid (And.intro hd hsl)
      have HVW := HVwq
      clear hd hsl
      have HVwn := Lib.hid (HVwq.out.trans (hb.mono HVwq.out.size))
      have HNwn := Lib.hid (HNwq.out.below hb HNwq.out.lt)
      have HSwn : Hid (Below (w.heap.size + 1 + 1) wp wn) := HVwn.out.mono HW2.out
      clear HVwq HNwq HSwq hb
      refine hK.out _ _ (HSwn.out) ?_
      clear hK K
      (try simp only [Act.put, zA4, zA5, zA6])
      iterate 1
       (refine wpOT_step (o := ?_) ?_ ?_; rotate_left 1; (simp only [zA1, zA2, zA3]; with_reducible rfl))
       (first
             | (refine wpOT_skip (by rfl) ?_)
             | (refine wpOT_take (v := ?_) (by rfl) ?_ ?_; rotate_left 1; (intro wx hSx; go_simp; try with_reducible rfl)))
       (try simp only [Act.put, zA4, zA5, zA6])
      refine wpOT_two ?_ ?_
      ·have k4 : wn.cell? ⟨w.heap.size + 1 + 1, 4, none⟩ = some (.slice X zs.length d) := (RowAt.cell HNwn.out 4).trans rfl
       (refine wpOT_solo (o := ?_) ?_ ?_; rotate_left 1; (simp only [zA1, zA2, zA3]; with_reducible rfl))
       intro K hK
       go_simp
       refine hK.out _ _ (HSwn.out) ?_
       clear hK K
       (try simp only [Act.put, zA4, zA5, zA6])
       clear k4
       have HM := Lib.hid (Mv.below (b := w.heap.size) (by have := HW2.out; omega) HVwn.out)
       have hz : DeepN wn (fun k => wq.heap.size ≤ k) [(Nd.mk 6 0 s Y dd (nmd names rr) none 0 [])] := DeepN.one ⟨⟨HY.out.2, HY.out.1⟩, SlC.nil _ _ _, Nat.le_refl _⟩ (DeepN.nil _ _)
       have HDG := Lib.hid (deep_more (w := wo) HDr.out HM.out hz HOr.out HVW.out.size (by have := HWO.out; omega) HZr.out (.cells #[.int .i64 6, .int .i64 0, .string s, .slice Y (nmd names rr).length dd, .slice none 0 0] 28))
       have HOG : Hid ((wn.alloc (.cells #[.int .i64 6, .int .i64 0, .string s, .slice Y (nmd names rr).length dd, .slice none 0 0] 28)).ownsRow wo.heap.size 28 5 (.slice X zs.length d) zs.length (ncs zs)) := (own_like9 HOr.out (fun k hk e => HM.out.block k hk (by have h1 := HOr.out.lt k e; have h2 := HWO.out; omega))).alloc _
       have HRG := Lib.hid (RowAt.new wn 28 #[.int .i64 6, .int .i64 0, .string s, .slice Y (nmd names rr).length dd, .slice none 0 0])
       have HVwb := Lib.hid (HVwn.out.alloc HVwn.out.size (.cells #[.int .i64 6, .int .i64 0, .string s, .slice Y (nmd names rr).length dd, .slice none 0 0] 28))
       have HNwb := Lib.hid (HNwn.out.alloc (.cells #[.int .i64 6, .int .i64 0, .string s, .slice Y (nmd names rr).length dd, .slice none 0 0] 28))
       have HSwb : Hid (Below (w.heap.size + 1 + 1) wp (wn.alloc (.cells #[.int .i64 6, .int .i64 0, .string s, .slice Y (nmd names rr).length dd, .slice none 0 0] 28))) := HVwb.out.mono HW2.out
       clear hz HM HY HVW
       (refine wpOT_solo (o := ?_) ?_ ?_; rotate_left 1; (simp only [zA1, zA2, zA3]; with_reducible rfl))
       intro K hK
       go_simp
       refine hK.out _ _ (HSwb.out) ?_
       clear hK K
       (try simp only [Act.put, zA4, zA5, zA6])
       generalize wn.alloc (.cells #[.int .i64 6, .int .i64 0, .string s, .slice Y (nmd names rr).length dd, .slice none 0 0] 28) = wb at *
       generalize wn.heap.size = g9 at *
       clear HVwn HNwn HSwn
       (refine wpOT_solo (o := ?_) ?_ ?_; rotate_left 1; (simp only [zA1, zA2, zA3]; with_reducible rfl))
       intro K hK
       rw [if_pos (by rfl)]
       refine wp_moreB _ _ 26 rfl 28 (.agg #[.int .i64 0, .int .i64 0, .string ⟨#[]⟩, .slice none 0 0, .slice none 0 0]) 5 80 Tryz.underlying26 infoNode rfl (by decide) wo.heap.size X zs.length d (ncs zs) rfl HOG.out g9 (ncells (Nd.mk 6 0 s Y dd (nmd names rr) none 0 [])) rfl rfl ?c2 (nc_one _) ?c3 ?c4 ?c5 ?_
       case c2 => intro j u hu; exact (HRG.out.cell j).trans (by show ((ncells (Nd.mk 6 0 s Y dd (nmd names rr) none 0 [])).toArray)[j]? = some u; rw [zA1]; exact hu)
       case c3 => simp only [maxLen]; omega
       case c4 => omega
       case c5 => have h1 := HVwb.out.size; have h2 := HZr.out; omega
       intro X5 d5 w5 hown5 hb5 hg5 hat5
       have HN5 := Lib.hid (HNwb.out.below hb5 HWO.out)
       have HS5 : Hid (Below (w.heap.size + 1 + 1) wp w5) := HSwb.out.trans (hb5.mono (by have := HWO.out; omega))
       have HO5 := Lib.hid hown5
       have HD5 := Lib.hid (deep_grown (n := zs.length) (m := zs.length + 1) HDG.out hg5 hat5)
       have HF5 := Lib.hid ((HFr.out.below HVwb.out HFr.out.lt).below hb5 (by have := HWO.out; omega))
       have HG5 := Lib.hid ((HGr.out.below HVwb.out HGr.out.lt).below hb5 (by have := HWO.out; omega))
       have HB5 := Lib.hid ((HBr.out.trans (HVwb.out.mono HBr.out.size)).trans (hb5.mono (by have := HWO.out; omega)))
       have HZ5 := Lib.hid (Nat.le_trans (Nat.le_trans HZr.out HVwb.out.size) hg5.size)
       refine hK.out _ _ HS5.out ?_
       clear hK K hown5 hb5 hg5 hat5 HOG HDG HRG HVwb HNwb HSwb HFr HGr HBr HZr HOr HDr
       (try simp only [Act.put, zA4, zA5, zA6])
       iterate 1
        (refine wpOT_step (o := ?_) ?_ ?_; rotate_left 1; (simp only [zA1, zA2, zA3]; with_reducible rfl))
        (first
              | (refine wpOT_skip (by rfl) ?_)
              | (refine wpOT_take (v := ?_) (by rfl) ?_ ?_; rotate_left 1; (intro wx hSx; go_simp; try with_reducible rfl)))
        (try simp only [Act.put, zA4, zA5, zA6])
       have k4 : w5.cell? ⟨w.heap.size + 1 + 1, 4, none⟩ = some (.slice X zs.length d) := (RowAt.cell HN5.out 4).trans rfl
       have f4 := HN5.out.free 4
       have HS6 : Hid (Below (w.heap.size + 1 + 1) wp (w5.setCell ⟨w.heap.size + 1 + 1, 4, none⟩ (.slice X5 (zs.length + 1) d5))) := HS5.out.setCell (p := ⟨w.heap.size + 1 + 1, 4, none⟩) (Nat.le_refl _) _
       (refine wpOT_solo (o := ?_) ?_ ?_; rotate_left 1; (simp only [zA1, zA2, zA3]; with_reducible rfl))
       intro K hK
       go_simp
       refine hK.out _ _ HS6.out ?_
       clear hK K k4 f4 HS6
       (try simp only [Act.put, zA4, zA5, zA6])
       refine wpOT_done ?_
       have HO6 : Hid ((w5.setCell ⟨w.heap.size + 1 + 1, 4, none⟩ (.slice X5 (zs.length + 1) d5)).ownsRow wo.heap.size 28 5 (.slice X5 (zs ++ [(Nd.mk 6 0 s Y dd (nmd names rr) none 0 [])]).length d5) (zs ++ [(Nd.mk 6 0 s Y dd (nmd names rr) none 0 [])]).length (ncs (zs ++ [(Nd.mk 6 0 s Y dd (nmd names rr) none 0 [])]))) := by
        rw [List.length_append, List.length_singleton, ncs_append, ncs_one]
        exact own_like9 HO5.out (fun k hk e => (Else.setCell w5 ⟨w.heap.size + 1 + 1, 4, none⟩ (.slice X5 (zs.length + 1) d5)).block k (by have h1 := HO5.out.lt k e; have h2 := HWO.out; show k ≠ w.heap.size + 1 + 1; omega))
       have HD6 : Hid (DeepN (w5.setCell ⟨w.heap.size + 1 + 1, 4, none⟩ (.slice X5 (zs.length + 1) d5)) (fun k => wo.heap.size ≤ k ∧ (Value.slice X5 (zs ++ [(Nd.mk 6 0 s Y dd (nmd names rr) none 0 [])]).length d5).ownBlock ≠ some k) (zs ++ [(Nd.mk 6 0 s Y dd (nmd names rr) none 0 [])])) := by
        rw [List.length_append, List.length_singleton]
        exact HD5.out.keep (Nat.le_of_eq (Else.setCell w5 ⟨w.heap.size + 1 + 1, 4, none⟩ (.slice X5 (zs.length + 1) d5)).size.symm) (fun k hk h => (Else.setCell w5 ⟨w.heap.size + 1 + 1, 4, none⟩ (.slice X5 (zs.length + 1) d5)).block k (by have h2 := HWO.out; have h3 := h.1; show k ≠ w.heap.size + 1 + 1; omega)) (fun _ _ h => h)
       have HE6 : Hid (TM.er (zs ++ [(Nd.mk 6 0 s Y dd (nmd names rr) none 0 [])]) = rulTo names fn fl v (i + 1)) := by
        show TM.er (zs ++ [(Nd.mk 6 0 s Y dd (nmd names rr) none 0 [])]) = rulTo names fn fl v (i + 1)
        rw [HRU.out, TM.er_append, HEr.out, er_one]
        congr 1
        show [nd 6 0 s (nmd names rr) (TM.er [])] = _
        rw [TM.er]
       have HN6 : Hid (RowAt (w5.setCell ⟨w.heap.size + 1 + 1, 4, none⟩ (.slice X5 (zs.length + 1) d5)) (w.heap.size + 1 + 1) 28 #[.int .i64 5, .int .i64 0, .string ⟨#[]⟩, .slice none 0 0, .slice X5 (zs ++ [(Nd.mk 6 0 s Y dd (nmd names rr) none 0 [])]).length d5]) := by
        rw [List.length_append, List.length_singleton]
        exact HN5.out.put 4 (.slice X5 (zs.length + 1) d5)
       have HF6 := Lib.hid (HF5.out.far (p := ⟨w.heap.size + 1 + 1, 4, none⟩) (by show w.heap.size + 1 + 1 ≠ w.heap.size; omega) (.slice X5 (zs.length + 1) d5))
       have HG6 := Lib.hid (HG5.out.far (p := ⟨w.heap.size + 1 + 1, 4, none⟩) (by show w.heap.size + 1 + 1 ≠ w.heap.size + 1; omega) (.slice X5 (zs.length + 1) d5))
       have HB6 := Lib.hid (HB5.out.setCell (p := ⟨w.heap.size + 1 + 1, 4, none⟩) (by show w.heap.size ≤ w.heap.size + 1 + 1; omega) (.slice X5 (zs.length + 1) d5))
       have HZ6 : Hid (wo.heap.size ≤ (w5.setCell ⟨w.heap.size + 1 + 1, 4, none⟩ (.slice X5 (zs.length + 1) d5)).heap.size) := Nat.le_trans HZ5.out (Nat.le_of_eq (Else.setCell w5 ⟨w.heap.size + 1 + 1, 4, none⟩ (.slice X5 (zs.length + 1) d5)).size.symm)
       have HL6 : (zs ++ [(Nd.mk 6 0 s Y dd (nmd names rr) none 0 [])]).length ≤ i + 1 := by rw [List.length_append, List.length_singleton]; omega
       clear HO5 HD5 HN5 HF5 HG5 HB5 HZ5 HS5
       go_wp2_with fail
       go_roundw
       case rel => exact ⟨i + 1, zs ++ [(Nd.mk 6 0 s Y dd (nmd names rr) none 0 [])], X5, d5, by omega, by go_num, HL6, HN6, HE6, HO6, HD6, HF6, HG6, HB6, HZ6⟩
       case measure => simp [intOf]; omega
      ·have HM := Lib.hid (Mv.below (b := w.heap.size) (by have := HW2.out; omega) HVwn.out)
       have hz : DeepN wn (fun k => wq.heap.size ≤ k) [(Nd.mk 6 0 s Y dd (nmd names rr) none 0 [])] := DeepN.one ⟨⟨HY.out.2, HY.out.1⟩, SlC.nil _ _ _, Nat.le_refl _⟩ (DeepN.nil _ _)
       have HDG := Lib.hid (deep_more (w := wo) HDr.out HM.out hz HOr.out HVW.out.size (by have := HWO.out; omega) HZr.out (.cells #[.int .i64 6, .int .i64 0, .string s, .slice Y (nmd names rr).length dd, .slice none 0 0] 28))
       have HOG : Hid ((wn.alloc (.cells #[.int .i64 6, .int .i64 0, .string s, .slice Y (nmd names rr).length dd, .slice none 0 0] 28)).ownsRow wo.heap.size 28 5 (.slice X zs.length d) zs.length (ncs zs)) := (own_like9 HOr.out (fun k hk e => HM.out.block k hk (by have h1 := HOr.out.lt k e; have h2 := HWO.out; omega))).alloc _
       have HRG := Lib.hid (RowAt.new wn 28 #[.int .i64 6, .int .i64 0, .string s, .slice Y (nmd names rr).length dd, .slice none 0 0])
       have HVwb := Lib.hid (HVwn.out.alloc HVwn.out.size (.cells #[.int .i64 6, .int .i64 0, .string s, .slice Y (nmd names rr).length dd, .slice none 0 0] 28))
       have HNwb := Lib.hid (HNwn.out.alloc (.cells #[.int .i64 6, .int .i64 0, .string s, .slice Y (nmd names rr).length dd, .slice none 0 0] 28))
       have HSwb : Hid (Below (w.heap.size + 1 + 1) wp (wn.alloc (.cells #[.int .i64 6, .int .i64 0, .string s, .slice Y (nmd names rr).length dd, .slice none 0 0] 28))) := HVwb.out.mono HW2.out
       clear hz HM HY HVW
       (refine wpOT_solo (o := ?_) ?_ ?_; rotate_left 1; (simp only [zA1, zA2, zA3]; with_reducible rfl))
       intro K hK
       go_simp
       refine hK.out _ _ (HSwb.out) ?_
       clear hK K
       (try simp only [Act.put, zA4, zA5, zA6])
       generalize wn.alloc (.cells #[.int .i64 6, .int .i64 0, .string s, .slice Y (nmd names rr).length dd, .slice none 0 0] 28) = wb at *
       generalize wn.heap.size = g9 at *
       clear HVwn HNwn HSwn
       have k4 : wb.cell? ⟨w.heap.size + 1 + 1, 4, none⟩ = some (.slice X zs.length d) := (RowAt.cell HNwb.out 4).trans rfl
       (refine wpOT_solo (o := ?_) ?_ ?_; rotate_left 1; (simp only [zA1, zA2, zA3]; with_reducible rfl))
       intro K hK
       go_simp
       refine hK.out _ _ (HSwb.out) ?_
       clear hK K
       (try simp only [Act.put, zA4, zA5, zA6])
       clear k4
       (refine wpOT_solo (o := ?_) ?_ ?_; rotate_left 1; (simp only [zA1, zA2, zA3]; with_reducible rfl))
       intro K hK
       rw [if_pos (by rfl)]
       refine wp_moreB _ _ 26 rfl 28 (.agg #[.int .i64 0, .int .i64 0, .string ⟨#[]⟩, .slice none 0 0, .slice none 0 0]) 5 80 Tryz.underlying26 infoNode rfl (by decide) wo.heap.size X zs.length d (ncs zs) rfl HOG.out g9 (ncells (Nd.mk 6 0 s Y dd (nmd names rr) none 0 [])) rfl rfl ?c2 (nc_one _) ?c3 ?c4 ?c5 ?_
       case c2 => intro j u hu; exact (HRG.out.cell j).trans (by show ((ncells (Nd.mk 6 0 s Y dd (nmd names rr) none 0 [])).toArray)[j]? = some u; rw [zA1]; exact hu)
       case c3 => simp only [maxLen]; omega
       case c4 => omega
       case c5 => have h1 := HVwb.out.size; have h2 := HZr.out; omega
       intro X5 d5 w5 hown5 hb5 hg5 hat5
       have HN5 := Lib.hid (HNwb.out.below hb5 HWO.out)
       have HS5 : Hid (Below (w.heap.size + 1 + 1) wp w5) := HSwb.out.trans (hb5.mono (by have := HWO.out; omega))
       have HO5 := Lib.hid hown5
       have HD5 := Lib.hid (deep_grown (n := zs.length) (m := zs.length + 1) HDG.out hg5 hat5)
       have HF5 := Lib.hid ((HFr.out.below HVwb.out HFr.out.lt).below hb5 (by have := HWO.out; omega))
       have HG5 := Lib.hid ((HGr.out.below HVwb.out HGr.out.lt).below hb5 (by have := HWO.out; omega))
       have HB5 := Lib.hid ((HBr.out.trans (HVwb.out.mono HBr.out.size)).trans (hb5.mono (by have := HWO.out; omega)))
       have HZ5 := Lib.hid (Nat.le_trans (Nat.le_trans HZr.out HVwb.out.size) hg5.size)
       refine hK.out _ _ HS5.out ?_
       clear hK K hown5 hb5 hg5 hat5 HOG HDG HRG HVwb HNwb HSwb HFr HGr HBr HZr HOr HDr
       (try simp only [Act.put, zA4, zA5, zA6])
       iterate 1
        (refine wpOT_step (o := ?_) ?_ ?_; rotate_left 1; (simp only [zA1, zA2, zA3]; with_reducible rfl))
        (first
              | (refine wpOT_skip (by rfl) ?_)
              | (refine wpOT_take (v := ?_) (by rfl) ?_ ?_; rotate_left 1; (intro wx hSx; go_simp; try with_reducible rfl)))
        (try simp only [Act.put, zA4, zA5, zA6])
       have k4 : w5.cell? ⟨w.heap.size + 1 + 1, 4, none⟩ = some (.slice X zs.length d) := (RowAt.cell HN5.out 4).trans rfl
       have f4 := HN5.out.free 4
       have HS6 : Hid (Below (w.heap.size + 1 + 1) wp (w5.setCell ⟨w.heap.size + 1 + 1, 4, none⟩ (.slice X5 (zs.length + 1) d5))) := HS5.out.setCell (p := ⟨w.heap.size + 1 + 1, 4, none⟩) (Nat.le_refl _) _
       (refine wpOT_solo (o := ?_) ?_ ?_; rotate_left 1; (simp only [zA1, zA2, zA3]; with_reducible rfl))
       intro K hK
       go_simp
       refine hK.out _ _ HS6.out ?_
       clear hK K k4 f4 HS6
       (try simp only [Act.put, zA4, zA5, zA6])
       refine wpOT_done ?_
       have HO6 : Hid ((w5.setCell ⟨w.heap.size + 1 + 1, 4, none⟩ (.slice X5 (zs.length + 1) d5)).ownsRow wo.heap.size 28 5 (.slice X5 (zs ++ [(Nd.mk 6 0 s Y dd (nmd names rr) none 0 [])]).length d5) (zs ++ [(Nd.mk 6 0 s Y dd (nmd names rr) none 0 [])]).length (ncs (zs ++ [(Nd.mk 6 0 s Y dd (nmd names rr) none 0 [])]))) := by
        rw [List.length_append, List.length_singleton, ncs_append, ncs_one]
        exact own_like9 HO5.out (fun k hk e => (Else.setCell w5 ⟨w.heap.size + 1 + 1, 4, none⟩ (.slice X5 (zs.length + 1) d5)).block k (by have h1 := HO5.out.lt k e; have h2 := HWO.out; show k ≠ w.heap.size + 1 + 1; omega))
       have HD6 : Hid (DeepN (w5.setCell ⟨w.heap.size + 1 + 1, 4, none⟩ (.slice X5 (zs.length + 1) d5)) (fun k => wo.heap.size ≤ k ∧ (Value.slice X5 (zs ++ [(Nd.mk 6 0 s Y dd (nmd names rr) none 0 [])]).length d5).ownBlock ≠ some k) (zs ++ [(Nd.mk 6 0 s Y dd (nmd names rr) none 0 [])])) := by
        rw [List.length_append, List.length_singleton]
        exact HD5.out.keep (Nat.le_of_eq (Else.setCell w5 ⟨w.heap.size + 1 + 1, 4, none⟩ (.slice X5 (zs.length + 1) d5)).size.symm) (fun k hk h => (Else.setCell w5 ⟨w.heap.size + 1 + 1, 4, none⟩ (.slice X5 (zs.length + 1) d5)).block k (by have h2 := HWO.out; have h3 := h.1; show k ≠ w.heap.size + 1 + 1; omega)) (fun _ _ h => h)
       have HE6 : Hid (TM.er (zs ++ [(Nd.mk 6 0 s Y dd (nmd names rr) none 0 [])]) = rulTo names fn fl v (i + 1)) := by
        show TM.er (zs ++ [(Nd.mk 6 0 s Y dd (nmd names rr) none 0 [])]) = rulTo names fn fl v (i + 1)
        rw [HRU.out, TM.er_append, HEr.out, er_one]
        congr 1
        show [nd 6 0 s (nmd names rr) (TM.er [])] = _
        rw [TM.er]
       have HN6 : Hid (RowAt (w5.setCell ⟨w.heap.size + 1 + 1, 4, none⟩ (.slice X5 (zs.length + 1) d5)) (w.heap.size + 1 + 1) 28 #[.int .i64 5, .int .i64 0, .string ⟨#[]⟩, .slice none 0 0, .slice X5 (zs ++ [(Nd.mk 6 0 s Y dd (nmd names rr) none 0 [])]).length d5]) := by
        rw [List.length_append, List.length_singleton]
        exact HN5.out.put 4 (.slice X5 (zs.length + 1) d5)
       have HF6 := Lib.hid (HF5.out.far (p := ⟨w.heap.size + 1 + 1, 4, none⟩) (by show w.heap.size + 1 + 1 ≠ w.heap.size; omega) (.slice X5 (zs.length + 1) d5))
       have HG6 := Lib.hid (HG5.out.far (p := ⟨w.heap.size + 1 + 1, 4, none⟩) (by show w.heap.size + 1 + 1 ≠ w.heap.size + 1; omega) (.slice X5 (zs.length + 1) d5))
       have HB6 := Lib.hid (HB5.out.setCell (p := ⟨w.heap.size + 1 + 1, 4, none⟩) (by show w.heap.size ≤ w.heap.size + 1 + 1; omega) (.slice X5 (zs.length + 1) d5))
       have HZ6 : Hid (wo.heap.size ≤ (w5.setCell ⟨w.heap.size + 1 + 1, 4, none⟩ (.slice X5 (zs.length + 1) d5)).heap.size) := Nat.le_trans HZ5.out (Nat.le_of_eq (Else.setCell w5 ⟨w.heap.size + 1 + 1, 4, none⟩ (.slice X5 (zs.length + 1) d5)).size.symm)
       have HL6 : (zs ++ [(Nd.mk 6 0 s Y dd (nmd names rr) none 0 [])]).length ≤ i + 1 := by rw [List.length_append, List.length_singleton]; omega
       clear HO5 HD5 HN5 HF5 HG5 HB5 HZ5 HS5
       go_wp2_with fail
       go_roundw
       case rel => exact ⟨i + 1, zs ++ [(Nd.mk 6 0 s Y dd (nmd names rr) none 0 [])], X5, d5, by omega, by go_num, HL6, HN6, HE6, HO6, HD6, HF6, HG6, HB6, HZ6⟩
       case measure => simp [intOf]; omega
  ·obtain rfl : i = nn := by omega
   have HCP := Lib.hid (own_cap_le HOq.out)
   obtain ⟨m0, m1, m2, m3, m4, _, _, _, _, _⟩ := row5 HNq.out
   obtain ⟨g0, g1, g2, g3, g4, u0, u1, u2, u3, u4⟩ := row5 HGq.out
   go_wp2_with fail
   change bodyPost _ _ _ _ _ (set5 wr (w.heap.size + 1) (.int .i64 5) (.int .i64 0) (.string ⟨#[]⟩) (.slice none 0 0) (.slice X zs.length d))
   have hrow := set5_row (a0 := .int .i64 5) (b0 := .int .i64 0) (c0 := .string ⟨#[]⟩) (d0 := .slice none 0 0) (e0 := .slice X zs.length d) HGq.out
   have hbf := HBq.out.trans (set5_below (a0 := .int .i64 5) (b0 := .int .i64 0) (c0 := .string ⟨#[]⟩) (d0 := .slice none 0 0) (e0 := .slice X zs.length d) (w := wr) (b := w.heap.size) (g := w.heap.size + 1) (Nat.le_add_right _ _))
   have hnode : NodeV (set5 wr (w.heap.size + 1) (.int .i64 5) (.int .i64 0) (.string ⟨#[]⟩) (.slice none 0 0) (.slice X zs.length d)) w.heap.size (nd 5 0 ⟨#[]⟩ [] (TM.er zs)) (.agg #[.int .i64 5, .int .i64 0, .string ⟨#[]⟩, .slice none 0 0, .slice X zs.length d]) :=
        nodeV_kids HCP.out (set5_slc (ok := fun k => wo.heap.size ≤ k) (SlC.of_own HOq.out fun k h _ => h) fun k _ h8 => ⟨by have := HWO.out; omega, by have := HWO.out; omega⟩) (set5_deep HDq.out fun k _ h8 => ⟨by have := HWO.out; have := h8.1; omega, by have := HWO.out; have := h8.1; omega⟩)
   rw [HEr.out] at hnode
   exact bodyPost_ret (ret_cell rfl _ _ (w.heap.size + 1) _ _ (0, 0) _ rfl hrow Tryz.underlying28 rfl (node_info _ _ _ _ _)) rfl (HQ.out _ _ ⟨_, rfl, hnode, hbf⟩)
end Go.Proofs.YtkgonoejnochjaaGreatDoor
namespace Go.Proofs.YtkgonoejnochjaaGreatDoor
namespace SP
open TM
end SP
open Go.RowKit LX TR TM SP RM
theorem qcon_any (f : Fac) (v : Nat) (hv : v < 18446744073709551616) (w : World) (hf : FacOk w f) (hn : f.names.length ≤ 2147483648) (h1 : facB f = true) (h2 : wordB f v = true) :
 Calls Tryz.prog 29 #[.agg (fv f), .int .u64 (v : Int)] w fun e w' => ∃ x, e = .returned x ∧ NodeV w' w.heap.size (conN f v) x ∧ Below w.heap.size w w' := by
 unfold conN
 by_cases k2 : f.kind = 2
 ·rw [if_pos k2]
  exact qcon_set f v hv w hf hn k2
 ·rw [if_neg k2]
  by_cases k3 : f.kind = 3
  ·rw [if_pos k3]
   exact qcon_grid f v hv w hf hn k3
  ·rw [if_neg k3]
   obtain ⟨k, hk, hkn⟩ := pt_fits h1 h2 k2 k3
   rw [hk]
   exact qcon_point f v hv w hf hn k2 k3 k hk hkn
end Go.Proofs.YtkgonoejnochjaaGreatDoor

