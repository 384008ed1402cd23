/- Texts that all the claims need. Conditions: those that each states. -/

import Derived.Test.YtebnfmfpejnkcaaGreatDoorSk14
set_option linter.unusedSimpArgs false
set_option linter.unusedVariables false
set_option maxRecDepth 100000
set_option maxHeartbeats 40000000
namespace Go.Proofs.YtebnfmfpejnkcaaGreatDoor
section
open Go.RowKit RM
section
variable {ops : Array Oper} {rest : List Oper} {o : Oper} {a : Act} {w : World} {Q : Exit → Act → World → Prop} {S : World → Prop}
end
end
section
open Go.RowKit RM
def sameF (f g : Fac) : Bool := decide (f.kind = g.kind) && (same f.names g.names && eqRel (pts f.n : Nat) (pts g.n : Nat) (cl f.n f.l) (cl g.n g.l))
def sameFs (fs gs : List Fac) : Bool := (List.range fs.length).all fun i => sameF (fs.getD i f0) (gs.getD i f0)
def sameS (t u : Bool) (fs gs : List Fac) : Bool := decide (t = u) && (decide (fs.length = gs.length) && sameFs fs gs)
theorem sameF_no {f g : Fac} (h : ¬ f.kind = g.kind) : sameF f g = false := by unfold sameF; rw [zF h, Bool.false_and]
theorem sameF_yes {f g : Fac} (h : f.kind = g.kind) : sameF f g = (same f.names g.names && eqRel (pts f.n : Nat) (pts g.n : Nat) (cl f.n f.l) (cl g.n g.l)) := by
 unfold sameF; rw [zE h, Bool.true_and]
theorem sameFs_bad {fs gs : List Fac} {k : Nat} (hk : k < fs.length) (h : sameF (fs.getD k f0) (gs.getD k f0) = false) : sameFs fs gs = false := by
 unfold sameFs
 rw [List.all_eq_false]
 exact ⟨k, List.mem_range.2 hk, by rw [h]; simp⟩
theorem sameFs_end {fs gs : List Fac} (h : ∀ k, k < fs.length → sameF (fs.getD k f0) (gs.getD k f0) = true) : sameFs fs gs = true := by
 unfold sameFs
 rw [List.all_eq_true]
 exact fun k hk => h k (List.mem_range.1 hk)
theorem sameF_core {f g : Fac} (h : core f = core g) : sameF f g = true := by
 have h1 : f.kind = g.kind := by have := congrArg Fac.kind h; exact this
 have h2 : f.names = g.names := by have := congrArg Fac.names h; exact this
 have h3 : f.n = g.n := by have := congrArg Fac.n h; exact this
 have h4 : f.l = g.l := by have := congrArg Fac.l h; exact this
 rw [sameF_yes h1, h2, h3, h4, eqRel_true rfl rfl]
 simp [same]
theorem sameS_core {t : Bool} {fs gs : List Fac} (h : fs.map core = gs.map core) : sameS t t fs gs = true := by
 unfold sameS
 rw [zE rfl, zE (core_len h), Bool.true_and, Bool.true_and]
 refine sameFs_end fun k hk => sameF_core ?_
 rw [← getD_core, ← getD_core, h]
theorem qsameS_any (t u : Bool) (A B : Option Addr) (c d : Nat) (fs gs : List Fac) (w : World) (hF : Facs w A fs) (hG : Facs w B gs) (hm : ∀ f ∈ fs, f.names.length ≤ 4294967296) (hlen : fs.length ≤ 4294967296) :
 Calls Tryz.prog 16 #[.agg (sv t A fs.length c), .agg (sv u B gs.length d)] w fun x w' => x = .returned (.bool (sameS t u fs gs)) ∧ Below w.heap.size w w' := by
 have r0 : RowAt ((w.alloc (.cells (sv t A fs.length c) 45)).alloc (.cells (sv u B gs.length d) 45)) w.heap.size 45 (sv t A fs.length c) := (RowAt.new w _ _).alloc _
 have q0 : RowAt ((w.alloc (.cells (sv t A fs.length c) 45)).alloc (.cells (sv u B gs.length d) 45)) (w.heap.size + 1) 45 (sv u B gs.length d) := by
  have := RowAt.new (w.alloc (.cells (sv t A fs.length c) 45)) 45 (sv u B gs.length d)
  simpa using this
 have HB0 : Hid (Below w.heap.size w ((w.alloc (.cells (sv t A fs.length c) 45)).alloc (.cells (sv u B gs.length d) 45))) := ((zB _ _).alloc (zL _) _).alloc (by simp) _
 have HSA : Hid (∀ W, RowAt W w.heap.size 45 (sv t A fs.length c) → W.cell? ⟨w.heap.size, 0, none⟩ = some (.bool t) ∧ W.cell? ⟨w.heap.size, 1, none⟩ = some (.slice A fs.length c)) := fun W h => shape_cells h
 have HSB : Hid (∀ W, RowAt W (w.heap.size + 1) 45 (sv u B gs.length d) → W.cell? ⟨w.heap.size + 1, 0, none⟩ = some (.bool u) ∧ W.cell? ⟨w.heap.size + 1, 1, none⟩ = some (.slice B gs.length d)) := fun W h => shape_cells h
 have HF : Hid (∀ W, Below w.heap.size w W → Facs W A fs) := fun W h => hF.below h
 have HG : Hid (∀ W, Below w.heap.size w W → Facs W B gs) := fun W h => hG.below h
 have HM := zh hm
 have HLN := zh hlen
 clear hF hG hm hlen
 by_cases htu : t = u
 ·subst htu
  by_cases hlen : fs.length = gs.length
  ·have hres : sameS t t fs gs = sameFs fs gs := by unfold sameS; rw [zE rfl, zE hlen, Bool.true_and, Bool.true_and]
   rw [hres]
   clear hres
   have HBA : Hid (∀ k, k < fs.length → sameF (fs.getD k f0) (gs.getD k f0) = false → sameFs fs gs = false) := fun k => sameFs_bad
   have HEND : Hid ((∀ k, k < fs.length → sameF (fs.getD k f0) (gs.getD k f0) = true) → sameFs fs gs = true) := sameFs_end
   have HE := zh hlen.symm
   rw [← hlen] at q0 HSB r0 HB0 ⊢
   clear hlen
   obtain ⟨c0, c1⟩ := HSA.out _ r0
   obtain ⟨d0, d1⟩ := HSB.out _ q0
   generalize sameFs fs gs = res at *
   generalize hn : fs.length = n at *
   have HN := zh hn; clear hn
   generalize sv t A n c = V1 at *
   generalize sv t B n d = V2 at *
   go_enter Tryz.func16, Tryz.ntmps16
   go_wp2_with fail
   clear c0 c1 d0 d1
   go_loopw [5, 6, 7] (fun kv _ _ wr => ∃ k : Nat, k ≤ n ∧ kv = .int .i64 k ∧ RowAt wr w.heap.size 45 V1 ∧ RowAt wr (w.heap.size + 1) 45 V2 ∧ Hid (∀ j, j < k → sameF (fs.getD j f0) (gs.getD j f0) = true) ∧ Hid (Below w.heap.size w wr)) (fun kv _ _ _ => n - (intOf kv).toNat)
   case atStart => exact ⟨0, by omega, rfl, r0, q0, fun j hj => by omega, HB0⟩
   case round =>
        clear r0 q0 HB0
        obtain ⟨k, hk, rfl, r0, q0, HK, HB0⟩ := hrel
        have hln := HLN.out
        obtain ⟨c0, c1⟩ := HSA.out _ r0
        obtain ⟨d0, d1⟩ := HSB.out _ q0
        by_cases hlt : k < n
        ·have hFk := HF.out _ HB0.out
         have hGk := HG.out _ HB0.out
         obtain ⟨b, o, rfl, _, _⟩ := hFk.at (k := k) (by rw [HN.out]; exact hlt)
         obtain ⟨b2, o2, rfl, _, _⟩ := hGk.at (k := k) (by rw [HE.out]; exact hlt)
         have hlf := (hFk.okAt (i := k) (by rw [HN.out]; exact hlt)).rows
         have hlg := (hGk.okAt (i := k) (by rw [HE.out]; exact hlt)).rows
         have hfm := HM.out _ (getD_memF (fs := fs) (i := k) (by rw [HN.out]; exact hlt))
         have HNM : Hid (∀ W, Below w.heap.size w W → Calls Tryz.prog 65 #[.slice (fs.getD k f0).A (fs.getD k f0).names.length (fs.getD k f0).c, .slice (gs.getD k f0).A (gs.getD k f0).names.length (gs.getD k f0).c] W fun x w' => x = .returned (.bool (same (fs.getD k f0).names (gs.getD k f0).names)) ∧ Dr W w') := fun W h =>
          refSame_any _ _ _ _ _ _ W hfm ((HF.out W h).okAt (i := k) (by rw [HN.out]; exact hlt)).strs ((HG.out W h).okAt (i := k) (by rw [HE.out]; exact hlt)).strs
         have HSM : Hid (∀ W, Calls Tryz.prog 66 #[.agg (rv (fs.getD k f0).n (fs.getD k f0).l), .agg (rv (gs.getD k f0).n (gs.getD k f0).l)] W fun x w' => x = .returned (.bool (eqRel (pts (fs.getD k f0).n : Nat) (pts (gs.getD k f0).n : Nat) (cl (fs.getD k f0).n (fs.getD k f0).l) (cl (gs.getD k f0).n (gs.getD k f0).l))) ∧ Below W.heap.size W w') := fun W => qsame_any _ _ _ _ hlf hlg W
         have HR1 : Hid (∀ W, Below w.heap.size w W → W.rangeAt b (o + k * 67) (fcells (fs.getD k f0))) := fun W h => (HF.out W h).rng (by rw [HN.out]; exact hlt)
         have HR2 : Hid (∀ W, Below w.heap.size w W → W.rangeAt b2 (o2 + k * 67) (fcells (gs.getD k f0))) := fun W h => (HG.out W h).rng (by rw [HE.out]; exact hlt)
         have HBAD := zh (HBA.out k hlt)
         have HKN : Hid (sameF (fs.getD k f0) (gs.getD k f0) = true → ∀ j, j < k + 1 → sameF (fs.getD j f0) (gs.getD j f0) = true) := fun h j hj => by
          by_cases e : j = k
          ·subst e; exact h
          ·exact HK.out j (by omega)
         have HNO1 : Hid (¬ (fs.getD k f0).kind = (gs.getD k f0).kind → sameF (fs.getD k f0) (gs.getD k f0) = false) := sameF_no
         have HYES : Hid ((fs.getD k f0).kind = (gs.getD k f0).kind → sameF (fs.getD k f0) (gs.getD k f0) = (same (fs.getD k f0).names (gs.getD k f0).names && eqRel (pts (fs.getD k f0).n : Nat) (pts (gs.getD k f0).n : Nat) (cl (fs.getD k f0).n (fs.getD k f0).l) (cl (gs.getD k f0).n (gs.getD k f0).l))) := sameF_yes
         clear hFk hGk hfm
         generalize sameF (fs.getD k f0) (gs.getD k f0) = sm at *
         generalize fs.getD k f0 = f at *
         generalize gs.getD k f0 = g at *
         go_wp2_with fail
         have HS0 : Hid (Below wr.heap.size wr wr.drew) := (zB _ _).drew
         have cA : ∀ w', Below wr.heap.size wr w' → w'.cell? ⟨w.heap.size, 1, none⟩ = some (.slice (some ⟨b, o, none⟩) n c) := fun w' h => (HSA.out _ (r0.below h r0.lt)).2
         have cB : ∀ w', Below wr.heap.size wr w' → w'.cell? ⟨w.heap.size + 1, 1, none⟩ = some (.slice (some ⟨b2, o2, none⟩) n d) := fun w' h => (HSB.out _ (q0.below h q0.lt)).2
         have pF : ∀ w', Below wr.heap.size wr w' → w'.rangeAt b (o + k * 67) (fcells f) := fun w' h => HR1.out w' (HB0.out.trans (h.mono HB0.out.size))
         have pG : ∀ w', Below wr.heap.size wr w' → w'.rangeAt b2 (o2 + k * 67) (fcells g) := fun w' h => HR2.out w' (HB0.out.trans (h.mono HB0.out.size))
         clear c0 c1 d0 d1
         refine wp_region_ot (fun w' => Below wr.heap.size wr w') ((.take 0 (.take 1 (.take 2 (.take 3 (.take 4 (.take 5 (.take 6 (.take 7 (.take 8 (.take 9 (.two 10 (.solo 11 (.solo 12 (.solo 13 .nil))) 11 (.solo 10 (.solo 12 (.solo 13 .nil))))))))))))))) (by kernel_rfl) (by kernel_rfl) rfl (by kernel_rfl) HS0.out ?_
         generalize wr.drew = V at HS0 ⊢
         iterate 10
          (refine wpOT_step (zO rfl) ?_)
          (first
             | (refine wpOT_skip (by rfl) ?_)
             | (refine wpOT_take (by rfl) (take_loadFacIn _ rfl _ _ rfl _ hlf pF) ?_)
             | (refine wpOT_take (by rfl) (take_loadFacIn _ rfl _ _ rfl _ hlg pG) ?_)
             | (refine wpOT_take (v := ?_) (by rfl) ?_ ?_; rotate_left 1; (intro wx hSx; have hc_0 := cA wx hSx; have hc_1 := cB wx hSx; go_simp; try with_reducible rfl)))
          (try simp only [Act.put, zA4, zA5, zA6])
         clear pF pG cA cB HR1 HR2
         refine wpOT_two ?_ ?_
         ·(refine wpOT_solo (zO rfl) ?_)
          intro K hK
          go_simp
          have p1 : RowAt (V.alloc (.cells Tryz.zeroCells104 104)) V.heap.size 104 Tryz.zeroCells104 := RowAt.new _ _ _
          have hg6 : wr.heap.size ≤ V.heap.size := HS0.out.size
          have HS1 := zh (HS0.out.alloc HS0.out.size (.cells Tryz.zeroCells104 104))
          refine hK.out _ _ HS1.out ?_
          clear hK K HS0
          (try simp only [Act.put, zA4, zA5, zA6])
          generalize V.alloc (.cells Tryz.zeroCells104 104) = V1 at *
          generalize V.heap.size = g6 at *
          (refine wpOT_solo (zO rfl) ?_)
          intro K hK
          go_simp
          have s1 : RowAt (V1.alloc (.cells Tryz.zeroCells104 104)) V1.heap.size 104 Tryz.zeroCells104 := RowAt.new _ _ _
          have hne : g6 ≠ V1.heap.size := by have := p1.lt; omega
          replace p1 := p1.alloc (.cells Tryz.zeroCells104 104)
          have hg7 : wr.heap.size ≤ V1.heap.size := HS1.out.size
          have HS2 := zh (HS1.out.alloc HS1.out.size (.cells Tryz.zeroCells104 104))
          refine hK.out _ _ HS2.out ?_
          clear hK K HS1
          (try simp only [Act.put, zA4, zA5, zA6])
          generalize V1.alloc (.cells Tryz.zeroCells104 104) = V2 at *
          generalize V1.heap.size = g7 at *
          (refine wpOT_solo (zO rfl) ?_)
          intro K hK
          rw [if_pos (by rfl)]
          refine wp_store_row _ _ _ rfl g6 (fv f) rfl rfl _ _ p1 (finfo f hlf) (by rw [fv_size f hlf, zero_fac_size]) (fv_one f) ?_
          have he := Else.setRow V2 g6 (fv f)
          replace s1 := s1.other he (hne.symm)
          replace p1 := p1.setRow (fv f)
          have HS3 : Hid (Below wr.heap.size wr (V2.setRow g6 (fv f))) := HS2.out.trans (he.below hg6)
          refine hK.out _ _ HS3.out ?_
          clear hK K he HS2
          (try simp only [Act.put])
          generalize V2.setRow g6 (fv f) = V3 at *
          (refine wpOT_solo (zO rfl) ?_)
          intro K hK
          rw [if_pos (by rfl)]
          refine wp_store_row _ _ _ rfl g7 (fv g) rfl rfl _ _ s1 (finfo g hlg) (by rw [fv_size g hlg, zero_fac_size]) (fv_one g) ?_
          have he := Else.setRow V3 g7 (fv g)
          replace p1 := p1.other he (hne)
          replace s1 := s1.setRow (fv g)
          have HS4 : Hid (Below wr.heap.size wr (V3.setRow g7 (fv g))) := HS3.out.trans (he.below hg7)
          refine hK.out _ _ HS4.out ?_
          clear hK K he HS3
          (try simp only [Act.put])
          generalize V3.setRow g7 (fv g) = V4 at *
          refine wpOT_done ?_
          have r1 := r0.below HS4.out r0.lt
          have q1 := q0.below HS4.out q0.lt
          have HB1 := zh (HB0.out.trans (HS4.out.mono HB0.out.size))
          clear HS4 r0 q0 HB0
          obtain ⟨a0, a1, _, a3⟩ := fac_cells p1
          obtain ⟨b0, b1, _, b3⟩ := fac_cells s1
          by_cases hk2 : f.kind = g.kind
          ·have hkb : (f.kind != g.kind) = false := by simp [hk2]
           have HK2 := zh hk2; clear hk2
           have HY := zh (HYES.out HK2.out)
           clear HNO1 HYES
           have CN := HNM.out _ HB1.out
           obtain ⟨v, hv⟩ : ∃ v, same f.names g.names = v := ⟨_, rfl⟩
           rw [hv] at CN HY
           have HV := zh hv; clear hv
           replace CN := zh CN
           go_wp2_with fail
           refine CN.out.mono ?_
           rintro e w2 ⟨rfl, hd⟩
           have hb := hd.below
           have r2 := r1.below hb r1.lt
           have q2 := q1.below hb q1.lt
           have p2 := p1.below hb p1.lt
           have s2 := s1.below hb s1.lt
           have HB2 := zh (HB1.out.trans (hb.mono HB1.out.size))
           clear hb hd r1 q1 p1 s1 HB1 CN HNM a0 a1 a3 b0 b1 b3
           obtain ⟨a0, a1, _, a3⟩ := fac_cells p2
           obtain ⟨b0, b1, _, b3⟩ := fac_cells s2
           cases v
           ·have HR2 := zh (HY.out.trans (Bool.false_and _))
            clear HY
            replace HR2 := zh (HBAD.out HR2.out)
            clear HBAD HKN
            go_wp2_with fail
            go_ret
            exact ⟨ret_eq (bool_eq HR2.out.symm), HB2.out⟩
           ·replace HY := zh (HY.out.trans (Bool.true_and _))
            obtain ⟨v, hv⟩ : ∃ v, eqRel (pts f.n : Nat) (pts g.n : Nat) (cl f.n f.l) (cl g.n g.l) = v := ⟨_, rfl⟩
            rw [hv] at HY
            have CS := HSM.out w2
            rw [hv] at CS
            replace CS := zh CS
            clear hv HSM
            go_wp2_with (first | (refine wpList_loadRelIn (by rfl) _ rfl g6 2 rfl f.n f.l hlf a3 ?_) | (refine wpList_loadRelIn (by rfl) _ rfl g7 2 rfl g.n g.l hlg b3 ?_))
            refine CS.out.mono ?_
            rintro e w3 ⟨rfl, hb⟩
            have r3 := r2.below hb r2.lt
            have q3 := q2.below hb q2.lt
            have HB3 := zh (HB2.out.trans (hb.mono HB2.out.size))
            clear hb r2 q2 p2 s2 HB2 CS a0 a1 a3 b0 b1 b3
            cases v
            ·have HR2 := zh (HBAD.out HY.out)
             clear HBAD HKN
             go_wp2_with fail
             go_ret
             exact ⟨ret_eq (bool_eq HR2.out.symm), HB3.out⟩
            ·have HKN2 := zh (HKN.out HY.out)
             clear HBAD HKN
             go_wp2_with fail
             go_roundw
             case rel => exact ⟨k + 1, by omega, by go_num, r3, q3, HKN2, HB3⟩
             case measure => simp [intOf]; omega
          ·have hkb : (f.kind != g.kind) = true := by simp [hk2]
           have HR2 := zh (HBAD.out (HNO1.out hk2))
           clear hk2 HBAD HNO1 HYES HKN HNM HSM
           generalize f.kind = kf at *
           generalize g.kind = kg at *
           go_wp2_with fail
           go_ret
           exact ⟨ret_eq (bool_eq HR2.out.symm), HB1.out⟩
         ·(refine wpOT_solo (zO rfl) ?_)
          intro K hK
          go_simp
          have s1 : RowAt (V.alloc (.cells Tryz.zeroCells104 104)) V.heap.size 104 Tryz.zeroCells104 := RowAt.new _ _ _
          have hg7 : wr.heap.size ≤ V.heap.size := HS0.out.size
          have HS1 := zh (HS0.out.alloc HS0.out.size (.cells Tryz.zeroCells104 104))
          refine hK.out _ _ HS1.out ?_
          clear hK K HS0
          (try simp only [Act.put, zA4, zA5, zA6])
          generalize V.alloc (.cells Tryz.zeroCells104 104) = V1 at *
          generalize V.heap.size = g7 at *
          (refine wpOT_solo (zO rfl) ?_)
          intro K hK
          go_simp
          have p1 : RowAt (V1.alloc (.cells Tryz.zeroCells104 104)) V1.heap.size 104 Tryz.zeroCells104 := RowAt.new _ _ _
          have hne : g7 ≠ V1.heap.size := by have := s1.lt; omega
          replace s1 := s1.alloc (.cells Tryz.zeroCells104 104)
          have hg6 : wr.heap.size ≤ V1.heap.size := HS1.out.size
          have HS2 := zh (HS1.out.alloc HS1.out.size (.cells Tryz.zeroCells104 104))
          refine hK.out _ _ HS2.out ?_
          clear hK K HS1
          (try simp only [Act.put, zA4, zA5, zA6])
          generalize V1.alloc (.cells Tryz.zeroCells104 104) = V2 at *
          generalize V1.heap.size = g6 at *
          (refine wpOT_solo (zO rfl) ?_)
          intro K hK
          rw [if_pos (by rfl)]
          refine wp_store_row _ _ _ rfl g6 (fv f) rfl rfl _ _ p1 (finfo f hlf) (by rw [fv_size f hlf, zero_fac_size]) (fv_one f) ?_
          have he := Else.setRow V2 g6 (fv f)
          replace s1 := s1.other he (hne)
          replace p1 := p1.setRow (fv f)
          have HS3 : Hid (Below wr.heap.size wr (V2.setRow g6 (fv f))) := HS2.out.trans (he.below hg6)
          refine hK.out _ _ HS3.out ?_
          clear hK K he HS2
          (try simp only [Act.put])
          generalize V2.setRow g6 (fv f) = V3 at *
          (refine wpOT_solo (zO rfl) ?_)
          intro K hK
          rw [if_pos (by rfl)]
          refine wp_store_row _ _ _ rfl g7 (fv g) rfl rfl _ _ s1 (finfo g hlg) (by rw [fv_size g hlg, zero_fac_size]) (fv_one g) ?_
          have he := Else.setRow V3 g7 (fv g)
          replace p1 := p1.other he (hne.symm)
          replace s1 := s1.setRow (fv g)
          have HS4 : Hid (Below wr.heap.size wr (V3.setRow g7 (fv g))) := HS3.out.trans (he.below hg7)
          refine hK.out _ _ HS4.out ?_
          clear hK K he HS3
          (try simp only [Act.put])
          generalize V3.setRow g7 (fv g) = V4 at *
          refine wpOT_done ?_
          have r1 := r0.below HS4.out r0.lt
          have q1 := q0.below HS4.out q0.lt
          have HB1 := zh (HB0.out.trans (HS4.out.mono HB0.out.size))
          clear HS4 r0 q0 HB0
          obtain ⟨a0, a1, _, a3⟩ := fac_cells p1
          obtain ⟨b0, b1, _, b3⟩ := fac_cells s1
          by_cases hk2 : f.kind = g.kind
          ·have hkb : (f.kind != g.kind) = false := by simp [hk2]
           have HK2 := zh hk2; clear hk2
           have HY := zh (HYES.out HK2.out)
           clear HNO1 HYES
           have CN := HNM.out _ HB1.out
           obtain ⟨v, hv⟩ : ∃ v, same f.names g.names = v := ⟨_, rfl⟩
           rw [hv] at CN HY
           have HV := zh hv; clear hv
           replace CN := zh CN
           go_wp2_with fail
           refine CN.out.mono ?_
           rintro e w2 ⟨rfl, hd⟩
           have hb := hd.below
           have r2 := r1.below hb r1.lt
           have q2 := q1.below hb q1.lt
           have p2 := p1.below hb p1.lt
           have s2 := s1.below hb s1.lt
           have HB2 := zh (HB1.out.trans (hb.mono HB1.out.size))
           clear hb hd r1 q1 p1 s1 HB1 CN HNM a0 a1 a3 b0 b1 b3
           obtain ⟨a0, a1, _, a3⟩ := fac_cells p2
           obtain ⟨b0, b1, _, b3⟩ := fac_cells s2
           cases v
           ·have HR2 := zh (HY.out.trans (Bool.false_and _))
            clear HY
            replace HR2 := zh (HBAD.out HR2.out)
            clear HBAD HKN
            go_wp2_with fail
            go_ret
            exact ⟨ret_eq (bool_eq HR2.out.symm), HB2.out⟩
           ·replace HY := zh (HY.out.trans (Bool.true_and _))
            obtain ⟨v, hv⟩ : ∃ v, eqRel (pts f.n : Nat) (pts g.n : Nat) (cl f.n f.l) (cl g.n g.l) = v := ⟨_, rfl⟩
            rw [hv] at HY
            have CS := HSM.out w2
            rw [hv] at CS
            replace CS := zh CS
            clear hv HSM
            go_wp2_with (first | (refine wpList_loadRelIn (by rfl) _ rfl g6 2 rfl f.n f.l hlf a3 ?_) | (refine wpList_loadRelIn (by rfl) _ rfl g7 2 rfl g.n g.l hlg b3 ?_))
            refine CS.out.mono ?_
            rintro e w3 ⟨rfl, hb⟩
            have r3 := r2.below hb r2.lt
            have q3 := q2.below hb q2.lt
            have HB3 := zh (HB2.out.trans (hb.mono HB2.out.size))
            clear hb r2 q2 p2 s2 HB2 CS a0 a1 a3 b0 b1 b3
            cases v
            ·have HR2 := zh (HBAD.out HY.out)
             clear HBAD HKN
             go_wp2_with fail
             go_ret
             exact ⟨ret_eq (bool_eq HR2.out.symm), HB3.out⟩
            ·have HKN2 := zh (HKN.out HY.out)
             clear HBAD HKN
             go_wp2_with fail
             go_roundw
             case rel => exact ⟨k + 1, by omega, by go_num, r3, q3, HKN2, HB3⟩
             case measure => simp [intOf]; omega
          ·have hkb : (f.kind != g.kind) = true := by simp [hk2]
           have HR2 := zh (HBAD.out (HNO1.out hk2))
           clear hk2 HBAD HNO1 HYES HKN HNM HSM
           generalize f.kind = kf at *
           generalize g.kind = kg at *
           go_wp2_with fail
           go_ret
           exact ⟨ret_eq (bool_eq HR2.out.symm), HB1.out⟩
        ·have e : k = n := by omega
         subst e
         have HE2 := zh (HEND.out HK.out)
         go_wp2_with fail
         go_ret
         exact ⟨ret_eq (bool_eq HE2.out.symm), HB0.out⟩
  ·have hres : sameS t t fs gs = false := by unfold sameS; rw [zF hlen, Bool.false_and, Bool.and_false]
   rw [hres]
   have hd : ((fs.length : Int) != (gs.length : Int)) = true := by simp; omega
   clear hres hlen HF HG HM
   obtain ⟨c0, c1⟩ := HSA.out _ r0
   obtain ⟨d0, d1⟩ := HSB.out _ q0
   generalize fs.length = n at *
   generalize gs.length = m at *
   go_enter Tryz.func16, Tryz.ntmps16
   go_wp2_with fail
   go_ret
   exact ⟨rfl, HB0.out⟩
 ·have hres : sameS t u fs gs = false := by unfold sameS; rw [zF htu, Bool.false_and]
  rw [hres]
  have hd : (t != u) = true := by simp [htu]
  have hd2 : decide (t = u) = false := zF htu
  clear hres HF HG HM
  obtain ⟨c0, c1⟩ := HSA.out _ r0
  obtain ⟨d0, d1⟩ := HSB.out _ q0
  generalize fs.length = n at *
  generalize gs.length = m at *
  go_enter Tryz.func16, Tryz.ntmps16
  go_wp2_with fail
  go_ret
  exact ⟨rfl, HB0.out⟩
end
section
open Go.RowKit RM
end
end Go.Proofs.YtebnfmfpejnkcaaGreatDoor
