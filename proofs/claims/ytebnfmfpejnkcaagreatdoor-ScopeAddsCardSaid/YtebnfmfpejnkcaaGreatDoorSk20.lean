/- Texts that all the claims need. Conditions: those that each states. -/

import Derived.Test.YtebnfmfpejnkcaaGreatDoorSk18
import Derived.Test.YtebnfmfpejnkcaaGreatDoorSk19
set_option linter.unusedSimpArgs false
set_option linter.unusedVariables false
set_option maxRecDepth 100000
set_option maxHeartbeats 40000000
namespace Go.Proofs.YtebnfmfpejnkcaaGreatDoor
section
open Go.RowKit RM
theorem take_ldIn {P : Program} {S : World → Prop} {o : Oper} {a : Act} (ty : TypeId) (x : Operand) (ho : o.op = .load ty x) (b k : Nat) (hx : a.eval x = .pointer (some ⟨b, k, none⟩)) (cs : List Value) (d : TypeDesc) (hS : ∀ w, S w → w.rangeAt b k cs)
 (hu : P.underlying ty = some d) (hd : d.isRow = true) (hi : (P.info? ty).map (·.size) = some cs.length) : ∀ w, S w → (execOp a.eval o).run P w = .ok (.value (.agg cs.toArray)) w := by
 intro w h
 unfold execOp
 simp only [ho, hx, Sem.run_bind, Sem.run_pure, Result.andThen_ok, run_loadAt_mid w b k _ _ _ (hS w h) hu hd hi]
theorem run_neq_var (v : ByteArray × Int × Int) (w : World) : (binOp .neq 55 (.agg (varC v).toArray) (.agg (varC v).toArray)).run Tryz.prog w = .ok (.bool false) w := by
 obtain ⟨a, b, c⟩ := v
 simp only [varC]
 go_simp
theorem lcore_at {a b : List (ByteArray × Shp)} (h : a.map lcore = b.map lcore) {k : Nat} (hk : k < a.length) : lcore (a.getD k lat0) = lcore (b.getD k lat0) := by
 have hl : a.length = b.length := by simpa using congrArg List.length h
 have h1 := congrArg (fun l => l[k]?) h
 simp only [List.getElem?_map] at h1
 rw [List.getElem?_eq_getElem hk, List.getElem?_eq_getElem (by omega)] at h1
 rw [List.getD_eq_getElem?_getD, List.getD_eq_getElem?_getD, List.getElem?_eq_getElem hk, List.getElem?_eq_getElem (by omega)]
 simpa using h1
theorem rsame_yes (a b : Sc) (w : World) (ha : ScOk w a) (hb : ScOk w b) (hl : a.ls.map lcore = b.ls.map lcore) (hv : a.vs = b.vs) :
 Calls Tryz.prog 19 #[.agg (scv a), .agg (scv b)] w fun e w' => e = .returned (.bool true) ∧ Below w.heap.size w w' := by
 obtain ⟨r0, q0, hbl⟩ := two_rows w (scv a) (scv b) 25 25
 refine cHid fun Q' hQ => ?_
 have HQ := zh hQ; clear hQ
 go_enter Tryz.func19, Tryz.ntmps19
 go_upto_region 1 with fail
 change Code.wp _ _ _ _ ((w.alloc (.cells (scv a) 25)).alloc (.cells (scv b) 25))
 generalize (w.alloc (.cells (scv a) 25)).alloc (.cells (scv b) 25) = w1 at *
 have HA := zh (ha.below hbl)
 have HBo := zh (hb.below hbl)
 have HB := zh hbl
 have HSZ := zh hbl.size
 have hlen : b.ls.length = a.ls.length := by
  have := congrArg List.length hl
  simpa using this.symm
 have hvlen : b.vs.length = a.vs.length := by rw [hv]
 have HRA : Hid (∀ W, Below w1.heap.size w1 W → W.cell? ⟨w.heap.size, 0, none⟩ = some (.slice a.LA a.ls.length a.lc) ∧ W.cell? ⟨w.heap.size, 1, none⟩ = some (.slice a.VA a.vs.length a.vc)) := zh fun W hW => by
  obtain ⟨k0, k1, _, _⟩ := rw2 (r0.below hW r0.lt)
  exact ⟨k0, k1⟩
 have HRB : Hid (∀ W, Below w1.heap.size w1 W → W.cell? ⟨w.heap.size + 1, 0, none⟩ = some (.slice b.LA a.ls.length b.lc) ∧ W.cell? ⟨w.heap.size + 1, 1, none⟩ = some (.slice b.VA a.vs.length b.vc)) := zh fun W hW => by
  obtain ⟨k0, k1, _, _⟩ := rw2 (q0.below hW q0.lt)
  rw [hlen] at k0
  rw [hvlen] at k1
  exact ⟨k0, k1⟩
 have HLE := zh fun k (hk : k < a.ls.length) => lcore_at hl hk
 have HLN2 := zh hlen
 have HVE := zh hv
 have hlf := ha.lfew
 have hvf := ha.vfew
 obtain ⟨c0, c1⟩ := HRA.out w1 (zB _ _)
 obtain ⟨e0, e1⟩ := HRB.out w1 (zB _ _)
 clear ha hb hl hv hbl r0 q0 hlen hvlen
 generalize hn : a.ls.length = n at *
 have HN := zh hn; clear hn
 generalize hm : a.vs.length = m at *
 have HM := zh hm; clear hm
 go_upto_region 4 with fail
 clear c0 c1 e0 e1
 go_loopw [5] (fun kv wr => ∃ k : Nat, k ≤ n ∧ kv = .int .i64 k ∧ Hid (Below w1.heap.size w1 wr)) (fun kv _ => n - (intOf kv).toNat)
 case atStart => exact ⟨0, by omega, rfl, zh (zB _ _)⟩
 case round =>
  obtain ⟨k, hk, rfl, HW⟩ := hrel
  obtain ⟨c0, c1⟩ := HRA.out wr HW.out
  obtain ⟨e0, e1⟩ := HRB.out wr HW.out
  by_cases hlt : k < n
  ·obtain ⟨ba, oa, hLA, hbal, hca⟩ := (HA.out.lats.below HW.out).at 3 (fun _ => rfl) (by omega) lat0 (i := k) (by rw [HN.out]; exact hlt)
   obtain ⟨bb, ob, hLB, hbbl, hcb⟩ := (HBo.out.lats.below HW.out).at 3 (fun _ => rfl) (by omega) lat0 (i := k) (by rw [HLN2.out]; exact hlt)
   have hra := hca k (by rw [HN.out]; exact hlt)
   have hrb := hcb k (by rw [HLN2.out]; exact hlt)
   have hle := HLE.out k hlt
   have hsa := HA.out.sh _ (getD_mem' (d := lat0) (i := k) (by rw [HN.out]; exact hlt))
   have hsb := HBo.out.sh _ (getD_mem' (d := lat0) (i := k) (by rw [HLN2.out]; exact hlt))
   rw [hLA] at c0
   rw [hLB] at e0
   have HLAh := zh hLA; have HLBh := zh hLB
   clear hLA hLB hca hcb
   generalize a.ls.getD k lat0 = la at *
   generalize b.ls.getD k lat0 = lb at *
   obtain ⟨nm, sa⟩ := la
   obtain ⟨nm2, sb⟩ := lb
   unfold lcore at hle
   simp only [Prod.mk.injEq] at hle
   obtain ⟨rfl, htt, hcc⟩ := hle
   have HSM : Hid (∀ W, Below wr.heap.size wr W → Calls Tryz.prog 16 #[.agg (sv sa.t sa.A sa.fs.length sa.c), .agg (sv sb.t sb.A sb.fs.length sb.c)] W fun e w' => e = .returned (.bool true) ∧ Below W.heap.size W w') := zh fun W hW => by
        have h := qsameS_any sa.t sb.t sa.A sb.A sa.c sb.c sa.fs sb.fs W ((hsa.facs.below HW.out).below hW) ((hsb.facs.below HW.out).below hW) (fun f hf => zM (hsa.names f hf) (by omega)) (zM hsa.few (by omega))
        rw [← htt, sameS_core hcc] at h
        rw [← htt]; exact h
   have C0 : ∀ W, Below wr.heap.size wr W → W.cell? ⟨w.heap.size, 0, none⟩ = some (.slice (some ⟨ba, oa, none⟩) n a.lc) := fun W hW => by have := (HRA.out W (HW.out.trans (hW.mono HW.out.size))).1; rw [HLAh.out] at this; exact this
   have C1 : ∀ W, Below wr.heap.size wr W → W.cell? ⟨w.heap.size + 1, 0, none⟩ = some (.slice (some ⟨bb, ob, none⟩) n b.lc) := fun W hW => by have := (HRB.out W (HW.out.trans (hW.mono HW.out.size))).1; rw [HLBh.out] at this; exact this
   have N0 : ∀ W, Below wr.heap.size wr W → W.cell? ⟨ba, oa + k * 3, none⟩ = some (.string nm) := fun W hW => (hW.cell (p := ⟨ba, oa + k * 3, none⟩) hbal).trans (hra 0 _ rfl)
   have N1 : ∀ W, Below wr.heap.size wr W → W.cell? ⟨bb, ob + k * 3, none⟩ = some (.string nm) := fun W hW => (hW.cell (p := ⟨bb, ob + k * 3, none⟩) hbbl).trans (hrb 0 _ rfl)
   have CA : ∀ W, Below wr.heap.size wr W → W.rangeAt ba (oa + k * 3 + 1) (shc sa) := fun W hW j u hu => by
        have hu2 : (latC (nm, sa))[j + 1]? = some u := hu
        rw [show oa + k * 3 + 1 + j = oa + k * 3 + (j + 1) by omega]
        exact (hW.cell (p := ⟨ba, oa + k * 3 + (j + 1), none⟩) hbal).trans (hra (j + 1) u hu2)
   have CB : ∀ W, Below wr.heap.size wr W → W.rangeAt bb (ob + k * 3 + 1) (shc sb) := fun W hW j u hu => by
        have hu2 : (latC (nm, sb))[j + 1]? = some u := hu
        rw [show ob + k * 3 + 1 + j = ob + k * 3 + (j + 1) by omega]
        exact (hW.cell (p := ⟨bb, ob + k * 3 + (j + 1), none⟩) hbbl).trans (hrb (j + 1) u hu2)
   have hki : (k : Int) < (n : Int) := by omega
   clear hra hrb hsa hsb htt hcc
   have HSv0 : Hid (Below wr.heap.size wr wr.drew) := zh (zB _ _).drew
   go_upto_region 6 with fail
   clear c0 c1 e0 e1
   refine wp_region_ou (fun W => Below wr.heap.size wr W) ((.take 0 (.take 1 (.take 2 (.take 3 (.take 4 (.take 5 (.take 6 (.take 7 (.take 8 (.take 9 (.take 10 (.take 11 (.take 12 (.take 13 (.take 14 (.take 15 (.take 16 (.take 17 (.take 18 (.take 19 (.take 20 (.take 21 (.take 22 (.take 23 (.take 24 (.take 25 (.solo 26 (.take 27 (.take 28 .nil)))))))))))))))))))))))))))))) (by kernel_rfl) (by kernel_rfl) rfl (by kernel_rfl) HSv0.out ?_
   generalize wr.drew = v0 at HSv0 ⊢
   iterate 26
        (refine wpOU_step (zO rfl) ?_)
        (first
         | (refine wpOU_skip (by rfl) ?_)
         | (refine wpOU_take (by rfl) (take_ldIn _ _ rfl ba (oa + k * 3 + 1) rfl _ _ CA Tryz.underlying45 rfl (by kernel_rfl)) ?_)
         | (refine wpOU_take (by rfl) (take_ldIn _ _ rfl bb (ob + k * 3 + 1) rfl _ _ CB Tryz.underlying45 rfl (by kernel_rfl)) ?_)
         | (refine wpOU_take (v := ?_) (by rfl) ?_ ?_; rotate_left 1; (intro wx hSx; have hc_0 := C0 wx hSx; have hc_1 := C1 wx hSx; have hc_2 := N0 wx hSx; have hc_3 := N1 wx hSx; go_simp; try with_reducible rfl)))
        (try simp only [Act.put, zA4, zA5, zA6])
   (refine wpOU_solo (zO rfl) ?_)
   intro K hK
   go_simp
   go_at_call 16
   refine (HSM.out v0 HSv0.out).mono ?_
   rintro e v1 ⟨rfl, hb⟩
   have HSv1 : Hid (Below wr.heap.size wr v1) := zh (HSv0.out.trans (hb.mono HSv0.out.size))
   clear hb
   refine hK.out _ _ HSv1.out ?_
   clear hK K
   (try simp only [Act.put, zA4, zA5, zA6])
   iterate 2
        (refine wpOU_step (zO rfl) ?_)
        (first
         | (refine wpOU_skip (by rfl) ?_)
         | (refine wpOU_take (by rfl) (take_ldIn _ _ rfl ba (oa + k * 3 + 1) rfl _ _ CA Tryz.underlying45 rfl (by kernel_rfl)) ?_)
         | (refine wpOU_take (by rfl) (take_ldIn _ _ rfl bb (ob + k * 3 + 1) rfl _ _ CB Tryz.underlying45 rfl (by kernel_rfl)) ?_)
         | (refine wpOU_take (v := ?_) (by rfl) ?_ ?_; rotate_left 1; (intro wx hSx; have hc_0 := C0 wx hSx; have hc_1 := C1 wx hSx; have hc_2 := N0 wx hSx; have hc_3 := N1 wx hSx; go_simp; try with_reducible rfl)))
        (try simp only [Act.put, zA4, zA5, zA6])
   refine wpOU_done ?_
   go_wp2_with fail
   go_roundw
   case rel => exact ⟨k + 1, by omega, by go_num, zh (HW.out.trans (HSv1.out.mono HW.out.size))⟩
   case measure => simp [intOf]; omega
  ·obtain rfl : k = n := by omega
   go_upto_region 9 with fail
   clear c0 c1 e0 e1
   go_loopw [6] (fun kv wr => ∃ k : Nat, k ≤ m ∧ kv = .int .i64 k ∧ Hid (Below w1.heap.size w1 wr)) (fun kv _ => m - (intOf kv).toNat)
   case atStart => exact ⟨0, by omega, rfl, HW⟩
   case round =>
        clear HW
        obtain ⟨k, hk, rfl, HW⟩ := hrel
        obtain ⟨c0, c1⟩ := HRA.out wr HW.out
        obtain ⟨e0, e1⟩ := HRB.out wr HW.out
        by_cases hlt : k < m
        ·obtain ⟨ba, oa, hLA, hbal, hca⟩ := (HA.out.vars.below HW.out).at 3 (fun _ => rfl) (by omega) var0 (i := k) (by rw [HM.out]; exact hlt)
         obtain ⟨bb, ob, hLB, hbbl, hcb⟩ := (HBo.out.vars.below HW.out).at 3 (fun _ => rfl) (by omega) var0 (i := k) (by rw [← HVE.out, HM.out]; exact hlt)
         have hra := hca k (by rw [HM.out]; exact hlt)
         have hrb := hcb k (by rw [← HVE.out, HM.out]; exact hlt)
         rw [← HVE.out] at hrb
         rw [hLA] at c1
         rw [hLB] at e1
         have HLAh := zh hLA; have HLBh := zh hLB
         clear hLA hLB hca hcb
         generalize a.vs.getD k var0 = v at *
         have C0 : ∀ W, Below wr.heap.size wr W → W.cell? ⟨w.heap.size, 1, none⟩ = some (.slice (some ⟨ba, oa, none⟩) m a.vc) := fun W hW => by have := (HRA.out W (HW.out.trans (hW.mono HW.out.size))).2; rw [HLAh.out] at this; exact this
         have C1 : ∀ W, Below wr.heap.size wr W → W.cell? ⟨w.heap.size + 1, 1, none⟩ = some (.slice (some ⟨bb, ob, none⟩) m b.vc) := fun W hW => by have := (HRB.out W (HW.out.trans (hW.mono HW.out.size))).2; rw [HLBh.out] at this; exact this
         have CA : ∀ W, Below wr.heap.size wr W → W.rangeAt ba (oa + k * 3) (varC v) := fun W hW => range_below hra hW hbal
         have CB : ∀ W, Below wr.heap.size wr W → W.rangeAt bb (ob + k * 3) (varC v) := fun W hW => range_below hrb hW hbbl
         have hki : (k : Int) < (m : Int) := by omega
         have hnv := run_neq_var v
         clear hra hrb
         have HSv0 : Hid (Below wr.heap.size wr wr.drew) := zh (zB _ _).drew
         go_upto_region 11 with fail
         clear c0 c1 e0 e1
         refine wp_region_ou (fun W => Below wr.heap.size wr W) ((.take 0 (.take 1 (.take 2 (.take 3 (.take 4 (.take 5 (.take 6 (.take 7 (.take 8 (.take 9 (.take 10 .nil)))))))))))) (by kernel_rfl) (by kernel_rfl) rfl (by kernel_rfl) HSv0.out ?_
         generalize wr.drew = v0 at HSv0 ⊢
         iterate 11
          (refine wpOU_step (zO rfl) ?_)
          (first
           | (refine wpOU_skip (by rfl) ?_)
           | (refine wpOU_take (by rfl) (take_ldIn _ _ rfl ba (oa + k * 3) rfl _ _ CA Tryz.underlying55 rfl (by kernel_rfl)) ?_)
           | (refine wpOU_take (by rfl) (take_ldIn _ _ rfl bb (ob + k * 3) rfl _ _ CB Tryz.underlying55 rfl (by kernel_rfl)) ?_)
           | (refine wpOU_take (v := ?_) (by rfl) ?_ ?_; rotate_left 1; (intro wx hSx; have hc_0 := C0 wx hSx; have hc_1 := C1 wx hSx; go_simp; try with_reducible rfl)))
          (try simp only [Act.put, zA4, zA5, zA6])
         refine wpOU_done ?_
         go_wp2_with fail
         go_roundw
         case rel => exact ⟨k + 1, by omega, by go_num, zh (HW.out.trans (HSv0.out.mono HW.out.size))⟩
         case measure => simp [intOf]; omega
        ·obtain rfl : k = m := by omega
         go_wp2_with fail
         exact HQ.out _ _ ⟨rfl, HB.out.trans (HW.out.mono HSZ.out)⟩
end
section
open Go.RowKit RM
theorem sames_yes {t : Bool} {fs gs hs : List Fac} {A B : Option Addr} {w : World} (h1 : fs.map core = hs.map core) (h2 : gs.map core = hs.map core) (hs2 : hs.length ≤ 65536 ∧ ∀ f ∈ hs, f.names.length ≤ 65536) (hF : Facs w A fs) (hG : Facs w B gs) (c d : Nat) :
 Calls Tryz.prog 16 #[.agg (sv t A fs.length c), .agg (sv t B gs.length d)] w fun e w' => e = .returned (.bool true) ∧ Below w.heap.size w w' := by
 have h := qsameS_any t t A B c d fs gs w hF hG (fun f hf => zM (core_names h1 hs2.2 f hf) (by omega)) (by rw [core_len h1]; omega)
 rw [sameS_core (h1.trans h2.symm)] at h
 exact h
theorem scr_ok {w : World} {B : Nat} {a b : Sc} {ll : List (ByteArray × Bool × List Fac)} {vv : List (ByteArray × Int × Int)} (ha : ScR w B a ll vv) (hb : ScOk w b) (hl : b.ls.map lcore = ll) (hv : b.vs = vv) : ScOk w a := by
 have e1 : a.ls.map lcore = b.ls.map lcore := ha.le.trans hl.symm
 have e2 : a.vs = b.vs := ha.ve.trans hv.symm
 have hll : a.ls.length = b.ls.length := by simpa using congrArg List.length e1
 have hmem : ∀ l ∈ a.ls, ∃ m ∈ b.ls, lcore l = lcore m := fun l hl => by
  have h1 : lcore l ∈ b.ls.map lcore := by rw [← e1]; exact List.mem_map_of_mem hl
  obtain ⟨m, hm, he⟩ := List.mem_map.1 h1
  exact ⟨m, hm, he.symm⟩
 refine ha.ok (by rw [hll]; exact hb.lfew) (by rw [e2]; exact hb.vfew) (fun l hl => ?_) (fun y hy => ?_) (fun y hy => ?_)
 ·obtain ⟨m, hm, he⟩ := hmem l hl
  unfold lcore at he
  simp only [Prod.mk.injEq] at he
  have hs := hb.sh m hm
  exact ⟨by rw [core_len he.2.2]; exact hs.few, core_names he.2.2 hs.names⟩
 ·obtain ⟨l, hl, rfl⟩ := List.mem_map.1 hy
  obtain ⟨m, hm, he⟩ := hmem l hl
  unfold lcore at he
  simp only [Prod.mk.injEq] at he
  rw [he.1]
  exact hb.lnm _ (List.mem_map_of_mem hm)
 ·unfold Sc.vnms at hy
  rw [e2] at hy
  exact hb.vnm y hy
theorem big_len1 {s : Sc} (h : bigSc s = false) : s.ls.length ≤ 20 := by
 unfold bigSc at h
 simp only [Bool.or_eq_false_iff, decide_eq_false_iff_not] at h
 omega
theorem big_len2 {s : Sc} (h : bigSc s = false) : s.vs.length ≤ 80 := by
 unfold bigSc at h
 simp only [Bool.or_eq_false_iff, decide_eq_false_iff_not] at h
 omega
end
end Go.Proofs.YtebnfmfpejnkcaaGreatDoor
