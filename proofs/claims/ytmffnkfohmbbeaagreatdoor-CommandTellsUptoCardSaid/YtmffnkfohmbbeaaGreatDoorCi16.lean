/- Texts that all the claims need. Conditions: those that each states. -/

import Derived.Test.YtmffnkfohmbbeaaGreatDoorCi14
import Derived.Test.YtmffnkfohmbbeaaGreatDoorCi15
set_option linter.unusedSimpArgs false
set_option linter.unusedVariables false
set_option maxRecDepth 100000
set_option maxHeartbeats 40000000
namespace Go.Proofs.YtmffnkfohmbbeaaGreatDoor
section
open Go.RowKit LX TR TM CM
theorem ret_ccV {P : Program} {fn : Func} {p r : Tmp} {ty ty2 : TypeId} (h : fn.results = #[.cell p ty, .cell r ty2]) (tmps : Array Value) (w : World) (g g2 : Nat) (t t2 : TypeId) (cs cs2 : Array Value) (d d2 : TypeDesc)
 (hp : tmps.getD p undef = .pointer (some ⟨g, 0, none⟩)) (hr : tmps.getD r undef = .pointer (some ⟨g2, 0, none⟩)) (hg : RowAt w g t cs) (hg2 : RowAt w g2 t2 cs2)
 (hu : P.underlying ty = some d) (hd : (match d with | .struct _ | .array _ _ => true | _ => false) = true) (hi : (P.info? ty).map (·.size) = some cs.size)
 (hu2 : P.underlying ty2 = some d2) (hd2 : (match d2 with | .struct _ | .array _ _ => true | _ => false) = true) (hi2 : (P.info? ty2).map (·.size) = some cs2.size) :
 (results fn tmps).run P w = .ok (.tuple #[.agg cs, .agg cs2]) w := by
 have hp' : tmps[p]?.getD undef = .pointer (some ⟨g, 0, none⟩) := by simpa using hp
 have hr' : tmps[r]?.getD undef = .pointer (some ⟨g2, 0, none⟩) := by simpa using hr
 simp [results, h, hp', hr', asAddr, run_loadVar_row w g t ty cs (0, 0) d hg hu hd hi, run_loadVar_row w g2 t2 ty2 cs2 (0, 0) d2 hg2 hu2 hd2 hi2]
def ReadC (D : Nat) (line : ByteArray) (B : Nat) (e : Ending) (w w' : World) : Prop := Below B w w' ∧ match readC D line with
 | .error (k, p) => e = .returned (.tuple #[.agg (cv c0), .agg #[.int .i64 k, .int .i64 p]])
 | .ok c => ∃ x, e = .returned (.tuple #[.agg (cv x), .agg #[.int .i64 0, .int .i64 0]]) ∧ erc x = c ∧ DeepC w' (fun k => B ≤ k) x
theorem readC_scan {D : Nat} {s : ByteArray} {p : Nat} (h : scan s 0 [] = .error p) : readC D s = .error (1, (p : Int)) := by unfold readC; rw [h]
theorem readC_parse {D : Nat} {s : ByteArray} {R : List Tk} {p : Int} (h : scan s 0 [] = .ok R) (h2 : parse R = .error p) : readC D s = .error (2, p) := by unfold readC; rw [h]; simp only; rw [h2]
theorem readC_ok {D : Nat} {s : ByteArray} {R : List Tk} {ts : List Tr} (h : scan s 0 [] = .ok R) (h2 : parse R = .ok ts) : readC D s = (match cmdR D ts s.size with
 | .error p => .error (2, p)
 | .ok c => .ok c) := by unfold readC; rw [h]; simp only; rw [h2]; rfl
theorem erc_c0 : erc c0 = c0 := by
 unfold erc c0
 simp only [er1_n0]
theorem deepC_c0 (w : World) (ok : Nat → Prop) : DeepC w ok c0 := ⟨SlC.nil _ _ _, zL _, SlC.nil _ _ _, zL _, deep_n0' _ _, deep_n0' _ _⟩
theorem few_tr {us : List Tr} {N : Nat} (h : (nodes us).length ≤ N) (hN : N ≤ 2199023255552) : Few us := by
 have h2 := length_nodes us
 exact ⟨by omega, fun x hx => by have := kids_few us x hx; omega⟩
theorem cread_any (s : ByteArray) (w : World) {D : Nat} (hl : s.size ≤ 1073741824) (hT : Cmds w) (hD : s.size + 1 ≤ D) (hD2 : D ≤ 4294967296) :
 Calls Tryz.prog 18 #[.string s] w fun e' w' => ReadC D s w.heap.size e' w w' := by
 have hg0 := RowAt.new w 30 (cv c0)
 have hg1 := RowAt.new (w.alloc (.cells (cv c0) 30)) 39 #[.int .i64 0, .int .i64 0]
 rw [show (w.alloc (.cells (cv c0) 30)).heap.size = w.heap.size + 1 by simp] at hg1
 have HGC1 := zh (hg0.alloc (.cells #[.int .i64 0, .int .i64 0] 39))
 have HGF1 := zh hg1
 have hb1 : Below w.heap.size w ((w.alloc (.cells (cv c0) 30)).alloc (.cells #[.int .i64 0, .int .i64 0] 39)) := ((zB _ _).alloc (zL _) _).alloc (by simp) _
 have HB1 := zh hb1
 have hTpos := hT.pos
 have HT1 := zh (hT.low hb1)
 clear hg0 hg1 hb1
 refine calls_hid fun Q' hQ => ?_
 have HQ := zh hQ; clear hQ
 go_enter Tryz.func18, Tryz.ntmps18
 go_upto_region 1 with fail
 change Code.wp _ _ _ _ ((w.alloc (.cells (cv c0) 30)).alloc (.cells #[.int .i64 0, .int .i64 0] 39))
 generalize (w.alloc (.cells (cv c0) 30)).alloc (.cells #[.int .i64 0, .int .i64 0] 39) = w1 at *
 have hz1 : w.heap.size + 1 < w1.heap.size := HGF1.out.lt
 have HRD := zh (lexRead_any s w1 (by omega))
 go_wp2_with fail
 refine HRD.out.mono ?_
 rintro e' w2 ⟨hb2, hrd⟩
 have HGC2' := zh (HGC1.out.below hb2 (by omega))
 have HGF2' := zh (HGF1.out.below hb2 (by omega))
 have HB2 : Hid (Below w.heap.size w w2) := zh (HB1.out.trans (hb2.mono (by omega)))
 have HT2 := zh (HT1.out.low hb2)
 have hz2 : w.heap.size + 1 < w2.heap.size := HGF2'.out.lt
 clear HRD HGC1 HGF1 HB1 HT1 hb2
 cases hsc : scan s 0 [] with
 | error p =>
   rw [hsc] at hrd
   subst hrd
   have HR := zh (readC_scan (D := D) hsc)
   have hb3 : Below w2.heap.size w2 (w2.alloc (.cells #[.int .i64 1, .int .i64 (p : Int)] 39)) := (zB _ _).alloc (zL _) _
   have h5n := RowAt.new w2 39 #[.int .i64 1, .int .i64 (p : Int)]
   have HGC := zh (HGC2'.out.below hb3 (by omega))
   have HGF := zh (HGF2'.out.below hb3 (by omega))
   have HB := zh (HB2.out.trans (hb3.mono (by omega)))
   have H5 := zh h5n
   clear hb3 h5n HGC2' HGF2' HB2 HT2 hsc
   go_upto_region 3 with fail
   generalize hg5 : w2.heap.size = g5 at *
   generalize w2.alloc (.cells #[.int .i64 1, .int .i64 (p : Int)] 39) = w3 at *
   have hz5 : w.heap.size + 1 < g5 := hz2
   clear hg5
   have HGC2 : Hid (RowAt (w3.drew.setRow w.heap.size (cv c0)) w.heap.size 30 (cv c0)) := zh (HGC.out.drew.setRow (cv c0))
   have HGF2 : Hid (RowAt (w3.drew.setRow w.heap.size (cv c0)) (w.heap.size + 1) 39 #[.int .i64 0, .int .i64 0]) := zh ((setRow_other w3.drew w.heap.size (w.heap.size + 1) _ (by omega)).trans HGF.out.drew)
   have HGF3 : Hid (RowAt ((w3.drew.setRow w.heap.size (cv c0)).setRow (w.heap.size + 1) #[.int .i64 1, .int .i64 (p : Int)]) (w.heap.size + 1) 39 #[.int .i64 1, .int .i64 (p : Int)]) := zh (HGF2.out.setRow #[.int .i64 1, .int .i64 (p : Int)])
   have HGC3 : Hid (RowAt ((w3.drew.setRow w.heap.size (cv c0)).setRow (w.heap.size + 1) #[.int .i64 1, .int .i64 (p : Int)]) w.heap.size 30 (cv c0)) := zh ((setRow_other (w3.drew.setRow w.heap.size (cv c0)) (w.heap.size + 1) w.heap.size _ (by omega)).trans HGC2.out)
   have HB3 : Hid (Below w.heap.size w ((w3.drew.setRow w.heap.size (cv c0)).setRow (w.heap.size + 1) #[.int .i64 1, .int .i64 (p : Int)])) := zh ((HB.out.drew.trans (below_setRow (zL _) _)).trans (below_setRow (by omega) _))
   have HGFz : Hid (RowAt (((w3.drew.setRow w.heap.size (cv c0)).setRow (w.heap.size + 1) #[.int .i64 1, .int .i64 (p : Int)])) (w.heap.size + 1) 39 #[.int .i64 1, .int .i64 (p : Int)]) := HGF3
   have HGCz : Hid (RowAt (((w3.drew.setRow w.heap.size (cv c0)).setRow (w.heap.size + 1) #[.int .i64 1, .int .i64 (p : Int)])) w.heap.size 30 (cv c0)) := HGC3
   have HBz : Hid (Below w.heap.size w (((w3.drew.setRow w.heap.size (cv c0)).setRow (w.heap.size + 1) #[.int .i64 1, .int .i64 (p : Int)]))) := HB3
   have HQz : Hid (Q' (.returned (.tuple #[.agg (cv c0), .agg #[.int .i64 1, .int .i64 (p : Int)]])) (((w3.drew.setRow w.heap.size (cv c0)).setRow (w.heap.size + 1) #[.int .i64 1, .int .i64 (p : Int)]))) := zh (HQ.out _ _ ⟨HBz.out, by rw [HR.out]⟩)
   have C0 : ∀ V, RowAt V g5 39 #[.int .i64 1, .int .i64 (p : Int)] → V.cell? ⟨g5, 0, none⟩ = _ := fun V h => (RowAt.cell h 0).trans rfl
   have C1 : ∀ V, RowAt V g5 39 #[.int .i64 1, .int .i64 (p : Int)] → V.cell? ⟨g5, 1, none⟩ = _ := fun V h => (RowAt.cell h 1).trans rfl
   have HS1 : Hid (RowAt (w3.drew.setRow w.heap.size (cv c0)) g5 39 #[.int .i64 1, .int .i64 (p : Int)]) := zh ((setRow_other w3.drew w.heap.size g5 _ (by omega)).trans (H5.out.drew))
   have HS2 : Hid (RowAt ((w3.drew.setRow w.heap.size (cv c0)).setRow (w.heap.size + 1) #[.int .i64 1, .int .i64 (p : Int)]) g5 39 #[.int .i64 1, .int .i64 (p : Int)]) := zh ((setRow_other (w3.drew.setRow w.heap.size (cv c0)) (w.heap.size + 1) g5 _ (by omega)).trans HS1.out)
   have HGC1 := zh HGC.out.drew
   refine wp_region_ot (fun V => RowAt V g5 39 #[.int .i64 1, .int .i64 (p : Int)]) ((.take 0 (.take 1 (.solo 2 (.solo 3 .nil))))) (by kernel_rfl) (by kernel_rfl) rfl (by kernel_rfl) (H5.out.drew) ?_
   iterate 2
    (refine wpOT_step (zO rfl) ?_)
    (first
         | (refine wpOT_skip (by rfl) ?_)
         | (refine wpOT_take (v := ?_) (by rfl) ?_ ?_; rotate_left 1; (intro wx hSx; have hc_0 := C0 wx hSx; have hc_1 := C1 wx hSx; go_simp; try with_reducible rfl)))
    (try simp only [Act.put, zA4, zA5, zA6])
   (refine wpOT_solo (zO rfl) ?_)
   intro K hK
   rw [if_pos (by rfl)]
   refine wp_store_row _ _ _ rfl w.heap.size (cv c0) rfl rfl _ _ HGC1.out (cmd_info c0) rfl (by simp [cv, Value.oneCell']) ?_
   refine hK.out _ _ HS1.out ?_
   clear hK K
   (try simp only [Act.put, zA4, zA5, zA6])
   (refine wpOT_solo (zO rfl) ?_)
   intro K hK
   rw [if_pos (by rfl)]
   refine wp_store_row _ _ _ rfl (w.heap.size + 1) #[.int .i64 1, .int .i64 (p : Int)] rfl rfl _ _ HGF2.out (fault_info _ _) rfl (by simp [Value.oneCell']) ?_
   refine hK.out _ _ HS2.out ?_
   clear hK K
   (try simp only [Act.put, zA4, zA5, zA6])
   refine wpOT_done ?_
   go_wp2_with fail
   exact bodyPost_ret (ret_ccV rfl _ _ w.heap.size (w.heap.size + 1) _ _ _ _ _ _ rfl rfl HGCz.out HGFz.out Tryz.underlying30 rfl (cmd_info c0) Tryz.underlying39 rfl (fault_info _ _)) rfl (HQz.out)
 | ok R =>
   rw [hsc] at hrd
   obtain ⟨A, c, rfl, hown⟩ := hrd
   have HTK := zh (Sl.of_own hown)
   have hb3 : Below w2.heap.size w2 (w2.alloc (.cells #[.int .i64 0, .int .i64 0] 39)) := (zB _ _).alloc (zL _) _
   have h5n := RowAt.new w2 39 #[.int .i64 0, .int .i64 0]
   have HGC := zh (HGC2'.out.below hb3 (by omega))
   have HGF := zh (HGF2'.out.below hb3 (by omega))
   have HB := zh (HB2.out.trans (hb3.mono (by omega)))
   have HTK3 : Hid (Toks (w2.alloc (.cells #[.int .i64 0, .int .i64 0] 39)) A R) := zh (Toks.below HTK.out hb3)
   have H5 := zh h5n
   have HT3 := zh (HT2.out.low hb3)
   have hRl : R.length ≤ s.size := by have := scan_few 0 [] R hsc (Nat.zero_le _); simpa using this
   have HSC := zh hsc
   clear hb3 h5n HGC2' HGF2' HB2 HT2 hsc hown HTK
   go_upto_region 4 with fail
   generalize hg5 : w2.heap.size = g5 at *
   generalize w2.alloc (.cells #[.int .i64 0, .int .i64 0] 39) = w3 at *
   have hz5 : w.heap.size + 1 < g5 := hz2
   clear hg5
   have h53 : g5 < w3.heap.size := H5.out.lt
   have HTR := zh (treeRead_any A c R w3 (by omega) HTK3.out)
   go_wp2_with fail
   refine HTR.out.mono ?_
   rintro e' w4 ⟨hb4, hrt⟩
   have HGC4 := zh (HGC.out.below hb4 (by omega))
   have HGF4 := zh (HGF.out.below hb4 (by omega))
   have HB4 : Hid (Below w.heap.size w w4) := zh (HB.out.trans (hb4.mono (by omega)))
   have HT4 := zh (HT3.out.low hb4)
   have H54 := zh (H5.out.below hb4 h53)
   have h54 : g5 < w4.heap.size := H54.out.lt
   clear HTR HGC HGF HB HT3 H5 hb4 HTK3
   cases hps : parse R with
   | error p =>
     rw [hps] at hrt
     subst hrt
     have HR := zh (readC_parse (D := D) HSC.out hps)
     have HGC : Hid (RowAt (w4.setRow g5 #[.int .i64 2, .int .i64 p]) w.heap.size 30 (cv c0)) := zh ((setRow_other w4 g5 w.heap.size _ (by omega)).trans HGC4.out)
     have HGF : Hid (RowAt (w4.setRow g5 #[.int .i64 2, .int .i64 p]) (w.heap.size + 1) 39 #[.int .i64 0, .int .i64 0]) := zh ((setRow_other w4 g5 (w.heap.size + 1) _ (by omega)).trans HGF4.out)
     have HB : Hid (Below w.heap.size w (w4.setRow g5 #[.int .i64 2, .int .i64 p])) := zh (HB4.out.trans (below_setRow (by omega) _))
     have H5 := zh (H54.out.setRow #[.int .i64 2, .int .i64 p])
     obtain ⟨k0, k1, _, _⟩ := row2 H5.out
     clear HGC4 HGF4 HB4 HT4
     go_upto_region 5 with (first | (refine wpList_store_row rfl _ _ _ rfl g5 #[.int .i64 2, .int .i64 p] rfl rfl _ _ H54.out (fault_info _ _) rfl (by simp [Value.oneCell']) ?_))
     clear H54
     generalize w4.setRow g5 #[.int .i64 2, .int .i64 p] = w5 at *
     go_upto_region 6 with fail
     clear k0 k1
     have HGC2 : Hid (RowAt (w5.drew.setRow w.heap.size (cv c0)) w.heap.size 30 (cv c0)) := zh (HGC.out.drew.setRow (cv c0))
     have HGF2 : Hid (RowAt (w5.drew.setRow w.heap.size (cv c0)) (w.heap.size + 1) 39 #[.int .i64 0, .int .i64 0]) := zh ((setRow_other w5.drew w.heap.size (w.heap.size + 1) _ (by omega)).trans HGF.out.drew)
     have HGF3 : Hid (RowAt ((w5.drew.setRow w.heap.size (cv c0)).setRow (w.heap.size + 1) #[.int .i64 2, .int .i64 p]) (w.heap.size + 1) 39 #[.int .i64 2, .int .i64 p]) := zh (HGF2.out.setRow #[.int .i64 2, .int .i64 p])
     have HGC3 : Hid (RowAt ((w5.drew.setRow w.heap.size (cv c0)).setRow (w.heap.size + 1) #[.int .i64 2, .int .i64 p]) w.heap.size 30 (cv c0)) := zh ((setRow_other (w5.drew.setRow w.heap.size (cv c0)) (w.heap.size + 1) w.heap.size _ (by omega)).trans HGC2.out)
     have HB3 : Hid (Below w.heap.size w ((w5.drew.setRow w.heap.size (cv c0)).setRow (w.heap.size + 1) #[.int .i64 2, .int .i64 p])) := zh ((HB.out.drew.trans (below_setRow (zL _) _)).trans (below_setRow (by omega) _))
     have HGFz : Hid (RowAt (((w5.drew.setRow w.heap.size (cv c0)).setRow (w.heap.size + 1) #[.int .i64 2, .int .i64 p])) (w.heap.size + 1) 39 #[.int .i64 2, .int .i64 p]) := HGF3
     have HGCz : Hid (RowAt (((w5.drew.setRow w.heap.size (cv c0)).setRow (w.heap.size + 1) #[.int .i64 2, .int .i64 p])) w.heap.size 30 (cv c0)) := HGC3
     have HBz : Hid (Below w.heap.size w (((w5.drew.setRow w.heap.size (cv c0)).setRow (w.heap.size + 1) #[.int .i64 2, .int .i64 p]))) := HB3
     have HQz : Hid (Q' (.returned (.tuple #[.agg (cv c0), .agg #[.int .i64 2, .int .i64 p]])) (((w5.drew.setRow w.heap.size (cv c0)).setRow (w.heap.size + 1) #[.int .i64 2, .int .i64 p]))) := zh (HQ.out _ _ ⟨HBz.out, by rw [HR.out]⟩)
     have C0 : ∀ V, RowAt V g5 39 #[.int .i64 2, .int .i64 p] → V.cell? ⟨g5, 0, none⟩ = _ := fun V h => (RowAt.cell h 0).trans rfl
     have C1 : ∀ V, RowAt V g5 39 #[.int .i64 2, .int .i64 p] → V.cell? ⟨g5, 1, none⟩ = _ := fun V h => (RowAt.cell h 1).trans rfl
     have HS1 : Hid (RowAt (w5.drew.setRow w.heap.size (cv c0)) g5 39 #[.int .i64 2, .int .i64 p]) := zh ((setRow_other w5.drew w.heap.size g5 _ (by omega)).trans (H5.out.drew))
     have HS2 : Hid (RowAt ((w5.drew.setRow w.heap.size (cv c0)).setRow (w.heap.size + 1) #[.int .i64 2, .int .i64 p]) g5 39 #[.int .i64 2, .int .i64 p]) := zh ((setRow_other (w5.drew.setRow w.heap.size (cv c0)) (w.heap.size + 1) g5 _ (by omega)).trans HS1.out)
     have HGC1 := zh HGC.out.drew
     refine wp_region_ot (fun V => RowAt V g5 39 #[.int .i64 2, .int .i64 p]) ((.take 0 (.take 1 (.solo 2 (.solo 3 .nil))))) (by kernel_rfl) (by kernel_rfl) rfl (by kernel_rfl) (H5.out.drew) ?_
     iterate 2
        (refine wpOT_step (zO rfl) ?_)
        (first
           | (refine wpOT_skip (by rfl) ?_)
           | (refine wpOT_take (v := ?_) (by rfl) ?_ ?_; rotate_left 1; (intro wx hSx; have hc_0 := C0 wx hSx; have hc_1 := C1 wx hSx; go_simp; try with_reducible rfl)))
        (try simp only [Act.put, zA4, zA5, zA6])
     (refine wpOT_solo (zO rfl) ?_)
     intro K hK
     rw [if_pos (by rfl)]
     refine wp_store_row _ _ _ rfl w.heap.size (cv c0) rfl rfl _ _ HGC1.out (cmd_info c0) rfl (by simp [cv, Value.oneCell']) ?_
     refine hK.out _ _ HS1.out ?_
     clear hK K
     (try simp only [Act.put, zA4, zA5, zA6])
     (refine wpOT_solo (zO rfl) ?_)
     intro K hK
     rw [if_pos (by rfl)]
     refine wp_store_row _ _ _ rfl (w.heap.size + 1) #[.int .i64 2, .int .i64 p] rfl rfl _ _ HGF2.out (fault_info _ _) rfl (by simp [Value.oneCell']) ?_
     refine hK.out _ _ HS2.out ?_
     clear hK K
     (try simp only [Act.put, zA4, zA5, zA6])
     refine wpOT_done ?_
     go_wp2_with fail
     exact bodyPost_ret (ret_ccV rfl _ _ w.heap.size (w.heap.size + 1) _ _ _ _ _ _ rfl rfl HGCz.out HGFz.out Tryz.underlying30 rfl (cmd_info c0) Tryz.underlying39 rfl (fault_info _ _)) rfl (HQz.out)
   | ok ts =>
     rw [hps] at hrt
     obtain ⟨X, d, us, rfl, her, hcap, htrs⟩ := hrt
     have HR := zh (readC_ok (D := D) HSC.out hps)
     have HFEW : (nodes us).length ≤ s.size := by have h := trOf_few s; rw [trOf_ok HSC.out hps, ← her, TR.nodes_er] at h; exact h
     have HER := zh her
     have HTRS := zh htrs
     clear her htrs hps
     obtain ⟨k0, k1, _, _⟩ := row2 H54.out
     go_upto_region 5 with (first | (refine wpList_store_row rfl _ _ _ rfl g5 #[.int .i64 0, .int .i64 0] rfl rfl _ _ H54.out (fault_info _ _) rfl (by simp [Value.oneCell']) ?_))
     rw [setRow_self w4 g5 _ _ _ H54.out]
     cases us with
     | nil =>
       have HR2 : Hid (readC D s = .ok c0) := zh (by rw [HR.out, ← HER.out, cmd_er]; rfl)
       have HGC := HGC4
       have HGF := HGF4
       have HB := HB4
       go_upto_region 8 with fail
       have HGC2 : Hid (RowAt (w4.setRow w.heap.size (cv c0)) w.heap.size 30 (cv c0)) := zh (HGC.out.setRow (cv c0))
       have HGF2 : Hid (RowAt (w4.setRow w.heap.size (cv c0)) (w.heap.size + 1) 39 #[.int .i64 0, .int .i64 0]) := zh ((setRow_other w4 w.heap.size (w.heap.size + 1) _ (by omega)).trans HGF.out)
       have HGF3 : Hid (RowAt ((w4.setRow w.heap.size (cv c0)).setRow (w.heap.size + 1) #[.int .i64 0, .int .i64 0]) (w.heap.size + 1) 39 #[.int .i64 0, .int .i64 0]) := zh (HGF2.out.setRow #[.int .i64 0, .int .i64 0])
       have HGC3 : Hid (RowAt ((w4.setRow w.heap.size (cv c0)).setRow (w.heap.size + 1) #[.int .i64 0, .int .i64 0]) w.heap.size 30 (cv c0)) := zh ((setRow_other (w4.setRow w.heap.size (cv c0)) (w.heap.size + 1) w.heap.size _ (by omega)).trans HGC2.out)
       have HB3 : Hid (Below w.heap.size w ((w4.setRow w.heap.size (cv c0)).setRow (w.heap.size + 1) #[.int .i64 0, .int .i64 0])) := zh ((HB.out.trans (below_setRow (zL _) _)).trans (below_setRow (by omega) _))
       have HGFz : Hid (RowAt (((w4.setRow w.heap.size (cv c0)).setRow (w.heap.size + 1) #[.int .i64 0, .int .i64 0])) (w.heap.size + 1) 39 #[.int .i64 0, .int .i64 0]) := HGF3
       have HGCz : Hid (RowAt (((w4.setRow w.heap.size (cv c0)).setRow (w.heap.size + 1) #[.int .i64 0, .int .i64 0])) w.heap.size 30 (cv c0)) := HGC3
       have HBz : Hid (Below w.heap.size w (((w4.setRow w.heap.size (cv c0)).setRow (w.heap.size + 1) #[.int .i64 0, .int .i64 0]))) := HB3
       have HQz : Hid (Q' (.returned (.tuple #[.agg (cv c0), .agg #[.int .i64 0, .int .i64 0]])) (((w4.setRow w.heap.size (cv c0)).setRow (w.heap.size + 1) #[.int .i64 0, .int .i64 0]))) := zh (HQ.out _ _ ⟨HBz.out, by rw [HR2.out]; exact ⟨c0, rfl, erc_c0, deepC_c0 _ _⟩⟩)
       go_wp2_with (first | (refine wpList_store_row rfl _ _ _ rfl w.heap.size (cv c0) rfl rfl _ _ HGC.out (cmd_info c0) rfl (by simp [cv, Value.oneCell']) ?_) | (refine wpList_store_row rfl _ _ _ rfl (w.heap.size + 1) #[.int .i64 0, .int .i64 0] rfl rfl _ _ HGF2.out (fault_info _ _) rfl (by simp [Value.oneCell']) ?_))
       exact bodyPost_ret (ret_ccV rfl _ _ w.heap.size (w.heap.size + 1) _ _ _ _ _ _ rfl rfl HGCz.out HGFz.out Tryz.underlying30 rfl (cmd_info c0) Tryz.underlying39 rfl (fault_info _ _)) rfl (HQz.out)
     | cons y r =>
       have hlt : ((y :: r).length : Int) = ((r.length + 1 : Nat) : Int) := by simp
       have hne0 : (((y :: r).length : Int) == 0) = false := by rw [beq_eq_false_iff_ne]; simp only [zA8]; omega
       have hFew : Few (y :: r) := few_tr HFEW (by omega)
       have HR2 : Hid (∀ u, cmdR D (y :: r) s.size = u → readC D s = match u with
           | .error p => .error (2, p)
           | .ok c => .ok c) := zh fun u hu => by rw [HR.out, ← HER.out, cmd_er, hu]
       have hb7 : Below w4.heap.size w4 (w4.alloc (.cells (crc X (y :: r).length d s.size 0 0) 84)) := (zB _ _).alloc (zL _) _
       have HCR := zh (Cr.mk (RowAt.new w4 84 (crc X (y :: r).length d s.size 0 0)) (f := none) (HTRS.out.below hb7) hFew hcap)
       have HGC7 := zh (HGC4.out.below hb7 (by omega))
       have HGF7 := zh (HGF4.out.below hb7 (by omega))
       have HB7 := zh (HB4.out.trans (hb7.mono (by omega)))
       have HT7 := zh (HT4.out.low hb7)
       have HT40 := zh HT4.out.pos
       clear hb7 HGC4 HGF4 HB4 HT4 HTRS H54 HR HER
       unfold crc at HCR HGC7 HGF7 HB7 HT7
       generalize hyn : (y :: r).length = yn at *
       go_upto_region 10 with fail
       clear k0 k1
       change Code.wp _ _ _ _ (w4.alloc (.cells #[.slice X yn d, .int .i64 (s.size : Int), .int .i64 0, .int .i64 0] 84))
       generalize w4.alloc (.cells #[.slice X yn d, .int .i64 (s.size : Int), .int .i64 0, .int .i64 0] 84) = w7 at *
       have hCR := HCR.out
       generalize hb : w4.heap.size = b at *
       have HPC := zh (ccommand_any (D := D) hCR HT7.out HT40.out (by simp) (by omega) (by omega) hD2)
       have hbw7 : b < w7.heap.size := HCR.out.lt
       clear hCR
       go_wp2_with fail
       refine HPC.out.mono ?_
       rintro e' w8 ⟨x, A2, c2, l2, f2, rfl, hdx, hcr8, hm8, hres⟩
       have HRES : Hid (match cmdR D (y :: r) s.size with
           | .error p => f2 = some p
           | .ok u => f2 = none ∧ erc x = u) := zh hres
       have HGC8 := zh (HGC7.out.mv hm8 (by omega))
       have HGF8 := zh (HGF7.out.mv hm8 (by omega))
       have HB8 : Hid (Below w.heap.size w w8) := zh (HB7.out.trans (hm8.low.mono (by omega)))
       have HC8 := zh hcr8
       have HD8 := zh hdx
       have hz8 : w7.heap.size ≤ w8.heap.size := hm8.low.size
       clear hres hcr8 hm8 hdx HPC HGC7 HGF7 HB7 HT7 HCR HT40 hyn hlt hFew
       have hb9 : Below w8.heap.size w8 (w8.alloc (.cells (cv c0) 30)) := (zB _ _).alloc (zL _) _
       have HN9 := zh (RowAt.new w8 30 (cv c0))
       have hb10 : Below w8.heap.size w8 ((w8.alloc (.cells (cv c0) 30)).setRow w8.heap.size (cv x)) := hb9.trans (below_setRow (zL _) _)
       have HG10 := zh (HN9.out.setRow (cv x))
       have HGC := zh (HGC8.out.below hb10 (by omega))
       have HGF := zh (HGF8.out.below hb10 (by omega))
       have HB := zh (HB8.out.trans (hb10.mono (by omega)))
       have HC := zh (HC8.out.below hb10)
       have HD : Hid (DeepC ((w8.alloc (.cells (cv c0) 30)).setRow w8.heap.size (cv x)) (fun k => w7.heap.size ≤ k ∧ k < w8.heap.size) x) := zh ((HD8.out.weak (ok' := fun k => w7.heap.size ≤ k ∧ k < w8.heap.size) fun k hk h => ⟨h, hk⟩).keep9 fun k hk _ => hb10.block k hk)
       clear hb9 hb10 HGC8 HGF8 HB8 HC8 HD8
       go_upto_region 11 with (first | (refine wpList_store_row rfl _ _ _ rfl w8.heap.size (cv x) rfl rfl _ _ HN9.out (cmd_info x) rfl (by simp [cv, Value.oneCell']) ?_))
       clear HN9
       change Code.wp _ _ _ _ ((w8.alloc (.cells (cv c0) 30)).setRow w8.heap.size (cv x))
       generalize (w8.alloc (.cells (cv c0) 30)).setRow w8.heap.size (cv x) = w9 at *
       generalize w8.heap.size = g8 at *
       obtain ⟨c0_, c1_, c2_, c3_⟩ := cr_cells HC.out.at_
       cases f2 with
       | some p =>
         have HR3 : Hid (readC D s = .error (2, p)) := by
           have h1 := HRES.out
           have h2 := HR2.out
           cases hq : cmdR D (y :: r) s.size with
           | error q =>
             rw [hq] at h1
             obtain rfl : p = q := by simpa using h1
             exact zh (h2 _ hq)
           | ok u => rw [hq] at h1; cases h1.1
         simp only [fc, fa, Option.isSome_some, if_true, Option.getD_some] at c2_ c3_
         have H5 : Hid (RowAt w9 b 84 (crc A2 l2.length c2 s.size 2 p)) := zh HC.out.at_
         clear HRES HR2 HC HD HG10
         go_upto_region 12 with fail
         clear c0_ c1_ c2_ c3_
         have HGC2 : Hid (RowAt (w9.drew.setRow w.heap.size (cv c0)) w.heap.size 30 (cv c0)) := zh (HGC.out.drew.setRow (cv c0))
         have HGF2 : Hid (RowAt (w9.drew.setRow w.heap.size (cv c0)) (w.heap.size + 1) 39 #[.int .i64 0, .int .i64 0]) := zh ((setRow_other w9.drew w.heap.size (w.heap.size + 1) _ (by omega)).trans HGF.out.drew)
         have HGF3 : Hid (RowAt ((w9.drew.setRow w.heap.size (cv c0)).setRow (w.heap.size + 1) #[.int .i64 2, .int .i64 p]) (w.heap.size + 1) 39 #[.int .i64 2, .int .i64 p]) := zh (HGF2.out.setRow #[.int .i64 2, .int .i64 p])
         have HGC3 : Hid (RowAt ((w9.drew.setRow w.heap.size (cv c0)).setRow (w.heap.size + 1) #[.int .i64 2, .int .i64 p]) w.heap.size 30 (cv c0)) := zh ((setRow_other (w9.drew.setRow w.heap.size (cv c0)) (w.heap.size + 1) w.heap.size _ (by omega)).trans HGC2.out)
         have HB3 : Hid (Below w.heap.size w ((w9.drew.setRow w.heap.size (cv c0)).setRow (w.heap.size + 1) #[.int .i64 2, .int .i64 p])) := zh ((HB.out.drew.trans (below_setRow (zL _) _)).trans (below_setRow (by omega) _))
         have HGFz : Hid (RowAt (((w9.drew.setRow w.heap.size (cv c0)).setRow (w.heap.size + 1) #[.int .i64 2, .int .i64 p])) (w.heap.size + 1) 39 #[.int .i64 2, .int .i64 p]) := HGF3
         have HGCz : Hid (RowAt (((w9.drew.setRow w.heap.size (cv c0)).setRow (w.heap.size + 1) #[.int .i64 2, .int .i64 p])) w.heap.size 30 (cv c0)) := HGC3
         have HBz : Hid (Below w.heap.size w (((w9.drew.setRow w.heap.size (cv c0)).setRow (w.heap.size + 1) #[.int .i64 2, .int .i64 p]))) := HB3
         have HQz : Hid (Q' (.returned (.tuple #[.agg (cv c0), .agg #[.int .i64 2, .int .i64 p]])) (((w9.drew.setRow w.heap.size (cv c0)).setRow (w.heap.size + 1) #[.int .i64 2, .int .i64 p]))) := zh (HQ.out _ _ ⟨HBz.out, by rw [HR3.out]⟩)
         have C0 : ∀ V, RowAt V b 84 (crc A2 l2.length c2 s.size 2 p) → V.cell? ⟨b, 2, none⟩ = some (.int .i64 2) := fun V h => (RowAt.cell h 2).trans rfl
         have C1 : ∀ V, RowAt V b 84 (crc A2 l2.length c2 s.size 2 p) → V.cell? ⟨b, 3, none⟩ = some (.int .i64 p) := fun V h => (RowAt.cell h 3).trans rfl
         have HS1 : Hid (RowAt (w9.drew.setRow w.heap.size (cv c0)) b 84 (crc A2 l2.length c2 s.size 2 p)) := zh ((setRow_other w9.drew w.heap.size b _ (by omega)).trans (H5.out.drew))
         have HS2 : Hid (RowAt ((w9.drew.setRow w.heap.size (cv c0)).setRow (w.heap.size + 1) #[.int .i64 2, .int .i64 p]) b 84 (crc A2 l2.length c2 s.size 2 p)) := zh ((setRow_other (w9.drew.setRow w.heap.size (cv c0)) (w.heap.size + 1) b _ (by omega)).trans HS1.out)
         have HGC1 := zh HGC.out.drew
         refine wp_region_ot (fun V => RowAt V b 84 (crc A2 l2.length c2 s.size 2 p)) ((.take 0 (.take 1 (.take 2 (.take 3 (.take 4 (.solo 5 (.solo 6 .nil)))))))) (by kernel_rfl) (by kernel_rfl) rfl (by kernel_rfl) (H5.out.drew) ?_
         iterate 5
           (refine wpOT_step (zO rfl) ?_)
           (first
            | (refine wpOT_skip (by rfl) ?_)
            | (refine wpOT_take (v := ?_) (by rfl) ?_ ?_; rotate_left 1; (intro wx hSx; have hc_0 := C0 wx hSx; have hc_1 := C1 wx hSx; go_simp; try with_reducible rfl)))
           (try simp only [Act.put, zA4, zA5, zA6])
         (refine wpOT_solo (zO rfl) ?_)
         intro K hK
         rw [if_pos (by rfl)]
         refine wp_store_row _ _ _ rfl w.heap.size (cv c0) rfl rfl _ _ HGC1.out (cmd_info c0) rfl (by simp [cv, Value.oneCell']) ?_
         refine hK.out _ _ HS1.out ?_
         clear hK K
         (try simp only [Act.put, zA4, zA5, zA6])
         (refine wpOT_solo (zO rfl) ?_)
         intro K hK
         rw [if_pos (by rfl)]
         refine wp_store_row _ _ _ rfl (w.heap.size + 1) #[.int .i64 2, .int .i64 p] rfl rfl _ _ HGF2.out (fault_info _ _) rfl (by simp [Value.oneCell']) ?_
         refine hK.out _ _ HS2.out ?_
         clear hK K
         (try simp only [Act.put, zA4, zA5, zA6])
         refine wpOT_done ?_
         go_wp2_with fail
         exact bodyPost_ret (ret_ccV rfl _ _ w.heap.size (w.heap.size + 1) _ _ _ _ _ _ rfl rfl HGCz.out HGFz.out Tryz.underlying30 rfl (cmd_info c0) Tryz.underlying39 rfl (fault_info _ _)) rfl (HQz.out)
       | none =>
         simp only [fc, fa, Option.isSome_none, Bool.false_eq_true, if_false, Option.getD_none] at c2_ c3_
         have HR3 : Hid (∃ u, readC D s = .ok u ∧ erc x = u) := by
           have h1 := HRES.out
           have h2 := HR2.out
           cases hq : cmdR D (y :: r) s.size with
           | error q => rw [hq] at h1; cases h1
           | ok u => rw [hq] at h1; exact zh ⟨u, h2 _ hq, h1.2⟩
         obtain ⟨u, hu1, hu2⟩ := HR3.out
         have HU1 := zh hu1
         have HU2 := zh hu2
         clear hu1 hu2 HR3 HRES HR2 HC
         go_upto_region 13 with fail
         clear c0_ c1_ c2_ c3_
         have HGC2 : Hid (RowAt (w9.setRow w.heap.size (cv x)) w.heap.size 30 (cv x)) := zh (HGC.out.setRow (cv x))
         have HGF2 : Hid (RowAt (w9.setRow w.heap.size (cv x)) (w.heap.size + 1) 39 #[.int .i64 0, .int .i64 0]) := zh ((setRow_other w9 w.heap.size (w.heap.size + 1) _ (by omega)).trans HGF.out)
         have HGF3 : Hid (RowAt ((w9.setRow w.heap.size (cv x)).setRow (w.heap.size + 1) #[.int .i64 0, .int .i64 0]) (w.heap.size + 1) 39 #[.int .i64 0, .int .i64 0]) := zh (HGF2.out.setRow #[.int .i64 0, .int .i64 0])
         have HGC3 : Hid (RowAt ((w9.setRow w.heap.size (cv x)).setRow (w.heap.size + 1) #[.int .i64 0, .int .i64 0]) w.heap.size 30 (cv x)) := zh ((setRow_other (w9.setRow w.heap.size (cv x)) (w.heap.size + 1) w.heap.size _ (by omega)).trans HGC2.out)
         have HB3 : Hid (Below w.heap.size w ((w9.setRow w.heap.size (cv x)).setRow (w.heap.size + 1) #[.int .i64 0, .int .i64 0])) := zh ((HB.out.trans (below_setRow (zL _) _)).trans (below_setRow (by omega) _))
         have HGFz : Hid (RowAt (((w9.setRow w.heap.size (cv x)).setRow (w.heap.size + 1) #[.int .i64 0, .int .i64 0])) (w.heap.size + 1) 39 #[.int .i64 0, .int .i64 0]) := HGF3
         have HGCz : Hid (RowAt (((w9.setRow w.heap.size (cv x)).setRow (w.heap.size + 1) #[.int .i64 0, .int .i64 0])) w.heap.size 30 (cv x)) := HGC3
         have HBz : Hid (Below w.heap.size w (((w9.setRow w.heap.size (cv x)).setRow (w.heap.size + 1) #[.int .i64 0, .int .i64 0]))) := HB3
         have HQz : Hid (Q' (.returned (.tuple #[.agg (cv x), .agg #[.int .i64 0, .int .i64 0]])) (((w9.setRow w.heap.size (cv x)).setRow (w.heap.size + 1) #[.int .i64 0, .int .i64 0]))) := zh (HQ.out _ _ ⟨HBz.out, by rw [HU1.out]; exact ⟨x, rfl, HU2.out, ((HD.out.keep9 fun k _ h => (setRow_other _ _ k _ (by omega)).trans (setRow_other _ _ k _ (by omega))).weak fun k _ h => by omega)⟩⟩)
         go_wp2_with (first | (refine wpList_load_row rfl _ _ rfl g8 rfl _ _ (0, 0) _ HG10.out Tryz.underlying30 rfl (cmd_info x) ?_) | (refine wpList_store_row rfl _ _ _ rfl w.heap.size (cv x) rfl rfl _ _ HGC.out (cmd_info x) rfl (by simp [cv, Value.oneCell']) ?_) | (refine wpList_store_row rfl _ _ _ rfl (w.heap.size + 1) #[.int .i64 0, .int .i64 0] rfl rfl _ _ HGF2.out (fault_info _ _) rfl (by simp [Value.oneCell']) ?_))
         exact bodyPost_ret (ret_ccV rfl _ _ w.heap.size (w.heap.size + 1) _ _ _ _ _ _ rfl rfl HGCz.out HGFz.out Tryz.underlying30 rfl (cmd_info x) Tryz.underlying39 rfl (fault_info _ _)) rfl (HQz.out)
end
end Go.Proofs.YtmffnkfohmbbeaaGreatDoor
