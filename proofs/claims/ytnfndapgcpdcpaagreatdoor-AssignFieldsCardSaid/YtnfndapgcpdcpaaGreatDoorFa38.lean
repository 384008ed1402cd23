/- Texts that all the claims need. Conditions: those that each states. -/

import Derived.Test.YtnfndapgcpdcpaaGreatDoorFa31
import Derived.Test.YtnfndapgcpdcpaaGreatDoorFa34
set_option linter.unusedSimpArgs false
set_option linter.unusedVariables false
set_option maxRecDepth 100000
set_option maxHeartbeats 40000000
namespace Go.Proofs.YtnfndapgcpdcpaaGreatDoor
section
open Go.RowKit RM Go.Maps
theorem least1_any (s : Sc) (gs i : Nat) (hi : i < s.ls.length) (w : World) (hJ : ScJ s gs w) :
 Calls Tryz.prog 37 #[.int .i64 i, .pointer (some ⟨gs, 0, none⟩)] w fun e w' => e = .returned (.agg (elv (botS s i))) ∧ Below w.heap.size w w' := by
 obtain ⟨hS, hT, hg⟩ := hJ
 have r0 := zel_row w
 have hb := zel_below w
 obtain ⟨b, o, hA, hbb, hc⟩ := hS.lats.at 3 (fun _ => rfl) (by omega) lat0 (i := i) hi
 have hsh := hS.sh _ (getD_mem' (d := lat0) hi)
 have HF : Hid (∀ W, Below w.heap.size w W → Calls Tryz.prog 38 #[.agg #[.bool (s.shp i).t, .slice (s.shp i).A (s.shp i).fs.length (s.shp i).c]] W fun x w' => x = .returned (.agg (elv (botS s i))) ∧ Below W.heap.size W w') := fun W h =>
  sbottomE_any (s.shp i).t (s.shp i).A (s.shp i).c (s.shp i).fs W (hT.below h) ((ShOk.facs hsh).below h)
 have HRS : Hid (∀ W, Below w.heap.size w W → W.rangeAt b (o + i * 3 + 1) [.bool (s.shp i).t, .slice (s.shp i).A (s.shp i).fs.length (s.shp i).c]) := fun W h => range_shp (range_below (hc i hi) h hbb)
 have hg1 : ∀ W, Below w.heap.size w W → W.cell? ⟨gs, 0, none⟩ = some (.slice (some ⟨b, o, none⟩) s.ls.length s.lc) := fun W h => by rw [← hA]; exact (hg.below h hg.lt).cell 0
 have HG := zh hg1
 have hsl : s.ls.length ≤ 65536 := hS.lfew
 clear hg1 hg hc hA hsh hS hT hbb
 refine cHid fun Q' hQ => ?_
 have HQ := zh hQ; clear hQ
 have HINF := zh (elv_info (botS s i))
 have HSZ := zh (show (elv el0).size = (elv (botS s i)).size by rw [elv_size, elv_size])
 have HONE := zh (elv_one (botS s i))
 generalize elv (botS s i) = q at *
 generalize s.shp i = sh at *
 generalize s.ls.length = N at *
 generalize s.lc = lc at *
 have hin : (i : Int) < (N : Int) := by omega
 go_enter Tryz.func37, Tryz.ntmps37
 go_upto_region 1 with fail
 change Code.wp _ _ _ _ (w.alloc (.cells #[.int .u64 0, .int .u64 0, .int .u64 0, .int .u64 0, .int .u64 0, .int .u64 0, .int .u64 0, .int .u64 0] 41))
 generalize w.alloc (.cells #[.int .u64 0, .int .u64 0, .int .u64 0, .int .u64 0, .int .u64 0, .int .u64 0, .int .u64 0, .int .u64 0] 41) = w1 at *
 have HB := zh hb
 have HR0 := zh r0
 have c0 := HG.out w1 hb
 have HRS1 := zh (HRS.out w1 hb)
 clear hb r0
 go_wp2_with (first
  | (refine wpList_ldIn (by rfl) _ _ rfl b (o + i * 3 + 1) rfl _ _ HRS1.out Tryz.underlying53 rfl (by kernel_rfl) ?_)
  | (go_at_call 38; refine (HF.out w1 HB.out).mono ?_; rintro x w2 ⟨rfl, hb2⟩; have HB2 := zh (HB.out.trans (hb2.mono HB.out.size)); have HR2 := zh (HR0.out.below hb2 HR0.out.lt); clear hb2)
  | (refine wpList_stRow (by rfl) _ _ _ rfl w.heap.size q rfl rfl _ _ HR2.out HINF.out HSZ.out HONE.out ?_; intro w3 hr3 he3; have HR3 := zh hr3; have HB3 := zh (he3.belowG (zL _) HB2.out); clear hr3 he3))
 exact bodyPost_ret (retRow rfl _ _ w.heap.size _ _ (0, 0) _ rfl HR3.out Tryz.underlying41 rfl HINF.out) rfl (HQ.out _ _ ⟨rfl, HB3.out⟩)
end
section
open Go.RowKit RM Go.Maps
theorem re_call {s : Sc} {gs gm gf B n : Nat} {J : World → Prop} (hJ : ∀ W W', J W → But (fun k => k = B) W W' → J W') (hS : ∀ W, J W → ScJ s gs W) (hfew : s.ls.length ≤ 65536) (i : Nat) (hi : i < s.ls.length) (W : World) (hn : n < maxLen)
 (h : ReI gm gf B 37 #[.pointer (some ⟨gs, 0, none⟩)] (botS s) J n W) :
 Calls Tryz.prog 74 #[.int .i64 i, .pointer (some ⟨gm, 0, none⟩), .pointer (some ⟨gf, 0, none⟩)] W fun e W' => e = .returned (.agg (elv (botS s i))) ∧ ReI gm gf B 37 #[.pointer (some ⟨gs, 0, none⟩)] (botS s) J (n + 1) W' ∧ But (fun k => k = B) W W' :=
 (re1_any (b := botS s) gm gf B n i (by omega) (by omega) W h.mp h.fn h.mm hn (fun _ _ => by kernel_rfl) hJ h.j fun V hV => least1_any s gs i hi V (hS V hV)).mono fun e W' h2 =>
  ⟨h2.1, ⟨h.mp.but h2.2.2.2 (fun e => h.mm.ne h.mp e), h.fn.but h2.2.2.2 (fun e => h.mm.ne h.fn e), h2.2.1, h2.2.2.1⟩, h2.2.2.2⟩
theorem aleast_any (s : Sc) (w : World) (hS : ScOk w s) (hT : Tab w) :
 Calls Tryz.prog 13 #[.agg (scv s)] w fun e w' => ∃ g3 gR, e = .returned (.agg #[.slice (some ⟨g3, 0, none⟩) s.vs.length s.vs.length, .slice (some ⟨gR, 0, none⟩) s.vs.length s.vs.length]) ∧
  RowAt w' g3 41 ((lstL s s.vs.length).flatMap elC).toArray ∧ RowAt w' gR 38 ((List.replicate s.vs.length rw0).flatMap rwC).toArray ∧ Below w.heap.size w w' := by
 obtain ⟨rS, rA, hb⟩ := two_boxes w (scv s) #[.slice none 0 0, .slice none 0 0] 25 29
 have hsz1 : ((w.alloc (.cells (scv s) 25)).alloc (.cells #[.slice none 0 0, .slice none 0 0] 29)).heap.size = w.heap.size + 2 := by simp
 refine cHid fun Q' hQ => ?_
 have HQ := zh hQ; clear hQ
 have hvl : s.vs.length ≤ 65536 := hS.vfew
 have hll : s.ls.length ≤ 65536 := hS.lfew
 have HSOK := zh (fun W (h : Below w.heap.size w W) => hS.below h)
 have HTAB := zh (fun W (h : Below w.heap.size w W) => hT.below h)
 have HVAR := zh (fun W (h : Below w.heap.size w W) => hS.vars.below h)
 clear hS hT
 go_enter Tryz.func13, Tryz.ntmps13
 go_upto_region 1 with fail
 change Code.wp _ _ _ _ ((w.alloc (.cells (scv s) 25)).alloc (.cells #[.slice none 0 0, .slice none 0 0] 29))
 generalize (w.alloc (.cells (scv s) 25)).alloc (.cells #[.slice none 0 0, .slice none 0 0] 29) = w1 at *
 have HB1 := zh hb
 have HRS1 := zh rS
 have HRA1 := zh rA
 have HSZ1 := zh hsz1
 clear rS rA hb hsz1
 generalize hN : s.vs.length = N at *
 have hMD := re_made 37 #[.pointer (some ⟨w.heap.size, 0, none⟩)] w1
 have HMD := zh hMD
 clear hMD
 go_upto_region 2 with (go_at_call 36; refine HMD.out.mono ?_; rintro e w5 hk; obtain ⟨rfl, k1, k2, k3, k4, k5⟩ := hk; have HB5 := zh k5; have HLO := zh k4; have HMP := zh k1; have HFN := zh k2; have HMM0 := zh (k3 3 zEq (f_re (botS s))); clear k1 k2 k3 k4 k5)
 have HRS5 := zh (HRS1.out.below HB5.out HRS1.out.lt)
 have HRA5 := zh (HRA1.out.below HB5.out HRA1.out.lt)
 have HBW5 := zh (HB1.out.trans (HB5.out.mono HB1.out.size))
 generalize hgB : w1.heap.size + 1 = B at *
 generalize hgM : w1.heap.size + 2 = gm at *
 generalize hgF : w1.heap.size = gf at *
 have hsz1 := HSZ1.out
 clear HSZ1
 have HI5 : Hid (ReI gm gf B 37 #[.pointer (some ⟨w.heap.size, 0, none⟩)] (botS s) (fun W => Below w.heap.size w W ∧ RowAt W w.heap.size 25 (scv s)) 0 w5) := ⟨HMP.out, HFN.out, HMM0.out, HBW5.out, HRS5.out⟩
 have hBlo : w.heap.size + 2 ≤ B := by omega
 clear HMP HFN HMM0 HLO HMD HRS1 HRA1 hgB hgM hgF hsz1 HB5 HB1
 generalize hgs : w.heap.size = gs at *
 go_cut [4] from 9 to 17 (fun pv wx => ∃ g3 gR g4 : Nat, pv = .pointer (some ⟨g4, 0, none⟩) ∧ Hid (LsSt s w gs g3 gR g4 0 wx) ∧ Hid (Below w5.heap.size w5 wx) ∧ Hid (w5.heap.size ≤ g3))
 case first =>
        have HPw5 : Hid (RowAt w5.drew gs 25 (scv s)) := HRS5.out.drew
        have hpC : ∀ W, RowAt W gs 25 (scv s) → W.cell? ⟨gs, 1, none⟩ = some (.slice s.VA N s.vc) := fun W h => by rw [← hN]; exact h.cell 1
        have HPC := zh hpC
        clear hpC
        refine wp_region_ou (fun W => RowAt W gs 25 (scv s)) ((.take 0 (.take 1 (.take 2 (.take 4 (.take 5 (.take 6 (.three 3 (.two 7 (.take 8 (.solo 9 (.solo 10 .nil))) 9 (.solo 7 (.take 8 (.solo 10 .nil)))) 7 (.two 3 (.take 8 (.solo 9 (.solo 10 .nil))) 9 (.solo 3 (.take 8 (.solo 10 .nil)))) 9 (.two 3 (.solo 7 (.take 8 (.solo 10 .nil))) 7 (.solo 3 (.take 8 (.solo 10 .nil)))))))))))) (by kernel_rfl) (by kernel_rfl) rfl (by kernel_rfl) HPw5.out ?_
        have HSw5 : Hid (Below w5.heap.size w5 w5.drew) := (zB _ _).drew
        generalize w5.drew = v0 at HPw5 HSw5 ⊢
        have HPv0 := HPw5
        have HSv0 := HSw5
        clear HPw5 HSw5 HI5 HRS5 HRA5 HSOK HTAB HVAR
        iterate 6
         (refine wpOU_step (zO rfl) ?_)
         (first
          | (refine wpOU_skip (by rfl) ?_)
          | (refine wpOU_take (v := ?_) (by rfl) ?_ ?_; rotate_left 1; (intro wx hSx; have hc_0 := HPC.out wx hSx; go_simp; try with_reducible rfl)))
         (try simp only [Act.put, zA4, zA5, zA6])
        refine wpOU_three ?_ ?_ ?_
        ·(refine wpOU_solo (zO rfl) ?_)
         intro K hK
         rw [if_pos (by rfl)]
         refine wp_made v0 (.tmp 11) (.tmp 11) 26 rfl v0.heap.size 41 _ 8 64 Tryz.underlying26 infoElV N rfl rfl (by omega) (by unfold maxLen; omega) (zL _) ?_
         intro v1 hr hg
         have hb : Below v0.heap.size v0 v1 := (zB _ _).grown hg (zL _) (fun k hk => by cases hk)
         have HPv1 := zh (HPv0.out.below hb HPv0.out.lt)
         have HSv1 := zh (HSv0.out.trans (hb.mono HSv0.out.size))
         have HRg3v1 := zh hr
         have HLg3 := zh HSv0.out.size
         clear hr hg hb
         refine hK.out _ _ HPv1.out ?_
         clear hK K
         (try simp only [Act.put, zA4, zA5, zA6])
         generalize v0.heap.size = g3 at *
         refine wpOU_two ?_ ?_
         ·(refine wpOU_solo (zO rfl) ?_)
          intro K hK
          rw [if_pos (by rfl)]
          refine wp_made v1 (.tmp 15) (.tmp 15) 27 rfl v1.heap.size 38 _ 1 24 Tryz.underlying27 infoRwV N rfl rfl (by omega) (by unfold maxLen; omega) (zL _) ?_
          intro v2 hr hg
          have hb : Below v1.heap.size v1 v2 := (zB _ _).grown hg (zL _) (fun k hk => by cases hk)
          have HPv2 := zh (HPv1.out.below hb HPv1.out.lt)
          have HSv2 := zh (HSv1.out.trans (hb.mono HSv1.out.size))
          have HRg3v2 := zh (HRg3v1.out.below hb HRg3v1.out.lt)
          have HRgRv2 := zh hr
          have HLgR := zh HSv1.out.size
          clear hr hg hb
          refine hK.out _ _ HPv2.out ?_
          clear hK K
          (try simp only [Act.put, zA4, zA5, zA6])
          generalize v1.heap.size = gR at *
          iterate 1
           (refine wpOU_step (zO rfl) ?_)
           (first
                 | (refine wpOU_skip (by rfl) ?_)
                 | (refine wpOU_take (v := ?_) (by rfl) ?_ ?_; rotate_left 1; (intro wx hSx; have hc_0 := HPC.out wx hSx; go_simp; try with_reducible rfl)))
           (try simp only [Act.put, zA4, zA5, zA6])
          (refine wpOU_solo (zO rfl) ?_)
          intro K hK
          go_simp
          have hb : Below v2.heap.size v2 (v2.alloc (.cells #[.slice none 0 0, .slice none 0 0] 29)) := (zB _ _).alloc (zL _) _
          have hr := RowAt.new v2 29 #[.slice none 0 0, .slice none 0 0]
          generalize (v2.alloc (.cells #[.slice none 0 0, .slice none 0 0] 29)) = v3 at *
          have HPv3 := zh (HPv2.out.below hb HPv2.out.lt)
          have HSv3 := zh (HSv2.out.trans (hb.mono HSv2.out.size))
          have HRg3v3 := zh (HRg3v2.out.below hb HRg3v2.out.lt)
          have HRgRv3 := zh (HRgRv2.out.below hb HRgRv2.out.lt)
          have HRg4v3 := zh hr
          have HLg4 := zh HSv2.out.size
          clear hr hb
          refine hK.out _ _ HPv3.out ?_
          clear hK K
          (try simp only [Act.put, zA4, zA5, zA6])
          generalize v2.heap.size = g4 at *
          (refine wpOU_solo (zO rfl) ?_)
          intro K hK
          rw [if_pos (by rfl)]
          refine wp_store_row _ _ _ rfl g4 #[.slice (some ⟨g3, 0, none⟩) N N, .slice (some ⟨gR, 0, none⟩) N N] rfl rfl _ _ HRg4v3.out (by kernel_rfl) rfl (by simp [Value.oneCell']) ?_
          have he := Else.setRow v3 g4 #[.slice (some ⟨g3, 0, none⟩) N N, .slice (some ⟨gR, 0, none⟩) N N]
          have HRg4v4 := zh (HRg4v3.out.setRow #[.slice (some ⟨g3, 0, none⟩) N N, .slice (some ⟨gR, 0, none⟩) N N])
          have HRg3v4 := zh (HRg3v3.out.other he (rowT_ne HRg3v3.out HRg4v3.out (by decide)))
          have HRgRv4 := zh (HRgRv3.out.other he (rowT_ne HRgRv3.out HRg4v3.out (by decide)))
          have HPv4 := zh (HPv3.out.other he (rowT_ne HPv3.out HRg4v3.out (by decide)))
          have HSv4 := zh (HSv3.out.trans (he.below HLg4.out))
          clear he
          refine hK.out _ _ HPv4.out ?_
          clear hK K
          (try simp only [Act.put, zA4, zA5, zA6])
          generalize v3.setRow g4 #[.slice (some ⟨g3, 0, none⟩) N N, .slice (some ⟨gR, 0, none⟩) N N] = v4 at *
          refine wpOU_done ?_
          go_wp2
          go_meet
          case rel => exact ⟨g3, gR, g4, rfl, zh ⟨by have := HRg3v4.out; rw [made_el] at this; rw [lstL_zero, hN]; exact this, by have := HRgRv4.out; rw [made_rw] at this; rw [hN]; exact this, by rw [hN]; exact HRg4v4.out, Nat.le_of_eq hgs.symm, HBW5.out.trans (HSv4.out.mono (by have := HBW5.out.size; omega))⟩, HSv4, zh HLg3.out⟩
         ·(refine wpOU_solo (zO rfl) ?_)
          intro K hK
          go_simp
          have hb : Below v1.heap.size v1 (v1.alloc (.cells #[.slice none 0 0, .slice none 0 0] 29)) := (zB _ _).alloc (zL _) _
          have hr := RowAt.new v1 29 #[.slice none 0 0, .slice none 0 0]
          generalize (v1.alloc (.cells #[.slice none 0 0, .slice none 0 0] 29)) = v2 at *
          have HPv2 := zh (HPv1.out.below hb HPv1.out.lt)
          have HSv2 := zh (HSv1.out.trans (hb.mono HSv1.out.size))
          have HRg3v2 := zh (HRg3v1.out.below hb HRg3v1.out.lt)
          have HRg4v2 := zh hr
          have HLg4 := zh HSv1.out.size
          clear hr hb
          refine hK.out _ _ HPv2.out ?_
          clear hK K
          (try simp only [Act.put, zA4, zA5, zA6])
          generalize v1.heap.size = g4 at *
          (refine wpOU_solo (zO rfl) ?_)
          intro K hK
          rw [if_pos (by rfl)]
          refine wp_made v2 (.tmp 15) (.tmp 15) 27 rfl v2.heap.size 38 _ 1 24 Tryz.underlying27 infoRwV N rfl rfl (by omega) (by unfold maxLen; omega) (zL _) ?_
          intro v3 hr hg
          have hb : Below v2.heap.size v2 v3 := (zB _ _).grown hg (zL _) (fun k hk => by cases hk)
          have HPv3 := zh (HPv2.out.below hb HPv2.out.lt)
          have HSv3 := zh (HSv2.out.trans (hb.mono HSv2.out.size))
          have HRg3v3 := zh (HRg3v2.out.below hb HRg3v2.out.lt)
          have HRg4v3 := zh (HRg4v2.out.below hb HRg4v2.out.lt)
          have HRgRv3 := zh hr
          have HLgR := zh HSv2.out.size
          clear hr hg hb
          refine hK.out _ _ HPv3.out ?_
          clear hK K
          (try simp only [Act.put, zA4, zA5, zA6])
          generalize v2.heap.size = gR at *
          iterate 1
           (refine wpOU_step (zO rfl) ?_)
           (first
                 | (refine wpOU_skip (by rfl) ?_)
                 | (refine wpOU_take (v := ?_) (by rfl) ?_ ?_; rotate_left 1; (intro wx hSx; have hc_0 := HPC.out wx hSx; go_simp; try with_reducible rfl)))
           (try simp only [Act.put, zA4, zA5, zA6])
          (refine wpOU_solo (zO rfl) ?_)
          intro K hK
          rw [if_pos (by rfl)]
          refine wp_store_row _ _ _ rfl g4 #[.slice (some ⟨g3, 0, none⟩) N N, .slice (some ⟨gR, 0, none⟩) N N] rfl rfl _ _ HRg4v3.out (by kernel_rfl) rfl (by simp [Value.oneCell']) ?_
          have he := Else.setRow v3 g4 #[.slice (some ⟨g3, 0, none⟩) N N, .slice (some ⟨gR, 0, none⟩) N N]
          have HRg4v4 := zh (HRg4v3.out.setRow #[.slice (some ⟨g3, 0, none⟩) N N, .slice (some ⟨gR, 0, none⟩) N N])
          have HRg3v4 := zh (HRg3v3.out.other he (rowT_ne HRg3v3.out HRg4v3.out (by decide)))
          have HRgRv4 := zh (HRgRv3.out.other he (rowT_ne HRgRv3.out HRg4v3.out (by decide)))
          have HPv4 := zh (HPv3.out.other he (rowT_ne HPv3.out HRg4v3.out (by decide)))
          have HSv4 := zh (HSv3.out.trans (he.below HLg4.out))
          clear he
          refine hK.out _ _ HPv4.out ?_
          clear hK K
          (try simp only [Act.put, zA4, zA5, zA6])
          generalize v3.setRow g4 #[.slice (some ⟨g3, 0, none⟩) N N, .slice (some ⟨gR, 0, none⟩) N N] = v4 at *
          refine wpOU_done ?_
          go_wp2
          go_meet
          case rel => exact ⟨g3, gR, g4, rfl, zh ⟨by have := HRg3v4.out; rw [made_el] at this; rw [lstL_zero, hN]; exact this, by have := HRgRv4.out; rw [made_rw] at this; rw [hN]; exact this, by rw [hN]; exact HRg4v4.out, Nat.le_of_eq hgs.symm, HBW5.out.trans (HSv4.out.mono (by have := HBW5.out.size; omega))⟩, HSv4, zh HLg3.out⟩
        ·(refine wpOU_solo (zO rfl) ?_)
         intro K hK
         rw [if_pos (by rfl)]
         refine wp_made v0 (.tmp 15) (.tmp 15) 27 rfl v0.heap.size 38 _ 1 24 Tryz.underlying27 infoRwV N rfl rfl (by omega) (by unfold maxLen; omega) (zL _) ?_
         intro v1 hr hg
         have hb : Below v0.heap.size v0 v1 := (zB _ _).grown hg (zL _) (fun k hk => by cases hk)
         have HPv1 := zh (HPv0.out.below hb HPv0.out.lt)
         have HSv1 := zh (HSv0.out.trans (hb.mono HSv0.out.size))
         have HRgRv1 := zh hr
         have HLgR := zh HSv0.out.size
         clear hr hg hb
         refine hK.out _ _ HPv1.out ?_
         clear hK K
         (try simp only [Act.put, zA4, zA5, zA6])
         generalize v0.heap.size = gR at *
         refine wpOU_two ?_ ?_
         ·(refine wpOU_solo (zO rfl) ?_)
          intro K hK
          rw [if_pos (by rfl)]
          refine wp_made v1 (.tmp 11) (.tmp 11) 26 rfl v1.heap.size 41 _ 8 64 Tryz.underlying26 infoElV N rfl rfl (by omega) (by unfold maxLen; omega) (zL _) ?_
          intro v2 hr hg
          have hb : Below v1.heap.size v1 v2 := (zB _ _).grown hg (zL _) (fun k hk => by cases hk)
          have HPv2 := zh (HPv1.out.below hb HPv1.out.lt)
          have HSv2 := zh (HSv1.out.trans (hb.mono HSv1.out.size))
          have HRgRv2 := zh (HRgRv1.out.below hb HRgRv1.out.lt)
          have HRg3v2 := zh hr
          have HLg3 := zh HSv1.out.size
          clear hr hg hb
          refine hK.out _ _ HPv2.out ?_
          clear hK K
          (try simp only [Act.put, zA4, zA5, zA6])
          generalize v1.heap.size = g3 at *
          iterate 1
           (refine wpOU_step (zO rfl) ?_)
           (first
                 | (refine wpOU_skip (by rfl) ?_)
                 | (refine wpOU_take (v := ?_) (by rfl) ?_ ?_; rotate_left 1; (intro wx hSx; have hc_0 := HPC.out wx hSx; go_simp; try with_reducible rfl)))
           (try simp only [Act.put, zA4, zA5, zA6])
          (refine wpOU_solo (zO rfl) ?_)
          intro K hK
          go_simp
          have hb : Below v2.heap.size v2 (v2.alloc (.cells #[.slice none 0 0, .slice none 0 0] 29)) := (zB _ _).alloc (zL _) _
          have hr := RowAt.new v2 29 #[.slice none 0 0, .slice none 0 0]
          generalize (v2.alloc (.cells #[.slice none 0 0, .slice none 0 0] 29)) = v3 at *
          have HPv3 := zh (HPv2.out.below hb HPv2.out.lt)
          have HSv3 := zh (HSv2.out.trans (hb.mono HSv2.out.size))
          have HRgRv3 := zh (HRgRv2.out.below hb HRgRv2.out.lt)
          have HRg3v3 := zh (HRg3v2.out.below hb HRg3v2.out.lt)
          have HRg4v3 := zh hr
          have HLg4 := zh HSv2.out.size
          clear hr hb
          refine hK.out _ _ HPv3.out ?_
          clear hK K
          (try simp only [Act.put, zA4, zA5, zA6])
          generalize v2.heap.size = g4 at *
          (refine wpOU_solo (zO rfl) ?_)
          intro K hK
          rw [if_pos (by rfl)]
          refine wp_store_row _ _ _ rfl g4 #[.slice (some ⟨g3, 0, none⟩) N N, .slice (some ⟨gR, 0, none⟩) N N] rfl rfl _ _ HRg4v3.out (by kernel_rfl) rfl (by simp [Value.oneCell']) ?_
          have he := Else.setRow v3 g4 #[.slice (some ⟨g3, 0, none⟩) N N, .slice (some ⟨gR, 0, none⟩) N N]
          have HRg4v4 := zh (HRg4v3.out.setRow #[.slice (some ⟨g3, 0, none⟩) N N, .slice (some ⟨gR, 0, none⟩) N N])
          have HRg3v4 := zh (HRg3v3.out.other he (rowT_ne HRg3v3.out HRg4v3.out (by decide)))
          have HRgRv4 := zh (HRgRv3.out.other he (rowT_ne HRgRv3.out HRg4v3.out (by decide)))
          have HPv4 := zh (HPv3.out.other he (rowT_ne HPv3.out HRg4v3.out (by decide)))
          have HSv4 := zh (HSv3.out.trans (he.below HLg4.out))
          clear he
          refine hK.out _ _ HPv4.out ?_
          clear hK K
          (try simp only [Act.put, zA4, zA5, zA6])
          generalize v3.setRow g4 #[.slice (some ⟨g3, 0, none⟩) N N, .slice (some ⟨gR, 0, none⟩) N N] = v4 at *
          refine wpOU_done ?_
          go_wp2
          go_meet
          case rel => exact ⟨g3, gR, g4, rfl, zh ⟨by have := HRg3v4.out; rw [made_el] at this; rw [lstL_zero, hN]; exact this, by have := HRgRv4.out; rw [made_rw] at this; rw [hN]; exact this, by rw [hN]; exact HRg4v4.out, Nat.le_of_eq hgs.symm, HBW5.out.trans (HSv4.out.mono (by have := HBW5.out.size; omega))⟩, HSv4, zh HLg3.out⟩
         ·(refine wpOU_solo (zO rfl) ?_)
          intro K hK
          go_simp
          have hb : Below v1.heap.size v1 (v1.alloc (.cells #[.slice none 0 0, .slice none 0 0] 29)) := (zB _ _).alloc (zL _) _
          have hr := RowAt.new v1 29 #[.slice none 0 0, .slice none 0 0]
          generalize (v1.alloc (.cells #[.slice none 0 0, .slice none 0 0] 29)) = v2 at *
          have HPv2 := zh (HPv1.out.below hb HPv1.out.lt)
          have HSv2 := zh (HSv1.out.trans (hb.mono HSv1.out.size))
          have HRgRv2 := zh (HRgRv1.out.below hb HRgRv1.out.lt)
          have HRg4v2 := zh hr
          have HLg4 := zh HSv1.out.size
          clear hr hb
          refine hK.out _ _ HPv2.out ?_
          clear hK K
          (try simp only [Act.put, zA4, zA5, zA6])
          generalize v1.heap.size = g4 at *
          (refine wpOU_solo (zO rfl) ?_)
          intro K hK
          rw [if_pos (by rfl)]
          refine wp_made v2 (.tmp 11) (.tmp 11) 26 rfl v2.heap.size 41 _ 8 64 Tryz.underlying26 infoElV N rfl rfl (by omega) (by unfold maxLen; omega) (zL _) ?_
          intro v3 hr hg
          have hb : Below v2.heap.size v2 v3 := (zB _ _).grown hg (zL _) (fun k hk => by cases hk)
          have HPv3 := zh (HPv2.out.below hb HPv2.out.lt)
          have HSv3 := zh (HSv2.out.trans (hb.mono HSv2.out.size))
          have HRgRv3 := zh (HRgRv2.out.below hb HRgRv2.out.lt)
          have HRg4v3 := zh (HRg4v2.out.below hb HRg4v2.out.lt)
          have HRg3v3 := zh hr
          have HLg3 := zh HSv2.out.size
          clear hr hg hb
          refine hK.out _ _ HPv3.out ?_
          clear hK K
          (try simp only [Act.put, zA4, zA5, zA6])
          generalize v2.heap.size = g3 at *
          iterate 1
           (refine wpOU_step (zO rfl) ?_)
           (first
                 | (refine wpOU_skip (by rfl) ?_)
                 | (refine wpOU_take (v := ?_) (by rfl) ?_ ?_; rotate_left 1; (intro wx hSx; have hc_0 := HPC.out wx hSx; go_simp; try with_reducible rfl)))
           (try simp only [Act.put, zA4, zA5, zA6])
          (refine wpOU_solo (zO rfl) ?_)
          intro K hK
          rw [if_pos (by rfl)]
          refine wp_store_row _ _ _ rfl g4 #[.slice (some ⟨g3, 0, none⟩) N N, .slice (some ⟨gR, 0, none⟩) N N] rfl rfl _ _ HRg4v3.out (by kernel_rfl) rfl (by simp [Value.oneCell']) ?_
          have he := Else.setRow v3 g4 #[.slice (some ⟨g3, 0, none⟩) N N, .slice (some ⟨gR, 0, none⟩) N N]
          have HRg4v4 := zh (HRg4v3.out.setRow #[.slice (some ⟨g3, 0, none⟩) N N, .slice (some ⟨gR, 0, none⟩) N N])
          have HRg3v4 := zh (HRg3v3.out.other he (rowT_ne HRg3v3.out HRg4v3.out (by decide)))
          have HRgRv4 := zh (HRgRv3.out.other he (rowT_ne HRgRv3.out HRg4v3.out (by decide)))
          have HPv4 := zh (HPv3.out.other he (rowT_ne HPv3.out HRg4v3.out (by decide)))
          have HSv4 := zh (HSv3.out.trans (he.below HLg4.out))
          clear he
          refine hK.out _ _ HPv4.out ?_
          clear hK K
          (try simp only [Act.put, zA4, zA5, zA6])
          generalize v3.setRow g4 #[.slice (some ⟨g3, 0, none⟩) N N, .slice (some ⟨gR, 0, none⟩) N N] = v4 at *
          refine wpOU_done ?_
          go_wp2
          go_meet
          case rel => exact ⟨g3, gR, g4, rfl, zh ⟨by have := HRg3v4.out; rw [made_el] at this; rw [lstL_zero, hN]; exact this, by have := HRgRv4.out; rw [made_rw] at this; rw [hN]; exact this, by rw [hN]; exact HRg4v4.out, Nat.le_of_eq hgs.symm, HBW5.out.trans (HSv4.out.mono (by have := HBW5.out.size; omega))⟩, HSv4, zh HLg3.out⟩
        ·(refine wpOU_solo (zO rfl) ?_)
         intro K hK
         go_simp
         have hb : Below v0.heap.size v0 (v0.alloc (.cells #[.slice none 0 0, .slice none 0 0] 29)) := (zB _ _).alloc (zL _) _
         have hr := RowAt.new v0 29 #[.slice none 0 0, .slice none 0 0]
         generalize (v0.alloc (.cells #[.slice none 0 0, .slice none 0 0] 29)) = v1 at *
         have HPv1 := zh (HPv0.out.below hb HPv0.out.lt)
         have HSv1 := zh (HSv0.out.trans (hb.mono HSv0.out.size))
         have HRg4v1 := zh hr
         have HLg4 := zh HSv0.out.size
         clear hr hb
         refine hK.out _ _ HPv1.out ?_
         clear hK K
         (try simp only [Act.put, zA4, zA5, zA6])
         generalize v0.heap.size = g4 at *
         refine wpOU_two ?_ ?_
         ·(refine wpOU_solo (zO rfl) ?_)
          intro K hK
          rw [if_pos (by rfl)]
          refine wp_made v1 (.tmp 11) (.tmp 11) 26 rfl v1.heap.size 41 _ 8 64 Tryz.underlying26 infoElV N rfl rfl (by omega) (by unfold maxLen; omega) (zL _) ?_
          intro v2 hr hg
          have hb : Below v1.heap.size v1 v2 := (zB _ _).grown hg (zL _) (fun k hk => by cases hk)
          have HPv2 := zh (HPv1.out.below hb HPv1.out.lt)
          have HSv2 := zh (HSv1.out.trans (hb.mono HSv1.out.size))
          have HRg4v2 := zh (HRg4v1.out.below hb HRg4v1.out.lt)
          have HRg3v2 := zh hr
          have HLg3 := zh HSv1.out.size
          clear hr hg hb
          refine hK.out _ _ HPv2.out ?_
          clear hK K
          (try simp only [Act.put, zA4, zA5, zA6])
          generalize v1.heap.size = g3 at *
          (refine wpOU_solo (zO rfl) ?_)
          intro K hK
          rw [if_pos (by rfl)]
          refine wp_made v2 (.tmp 15) (.tmp 15) 27 rfl v2.heap.size 38 _ 1 24 Tryz.underlying27 infoRwV N rfl rfl (by omega) (by unfold maxLen; omega) (zL _) ?_
          intro v3 hr hg
          have hb : Below v2.heap.size v2 v3 := (zB _ _).grown hg (zL _) (fun k hk => by cases hk)
          have HPv3 := zh (HPv2.out.below hb HPv2.out.lt)
          have HSv3 := zh (HSv2.out.trans (hb.mono HSv2.out.size))
          have HRg4v3 := zh (HRg4v2.out.below hb HRg4v2.out.lt)
          have HRg3v3 := zh (HRg3v2.out.below hb HRg3v2.out.lt)
          have HRgRv3 := zh hr
          have HLgR := zh HSv2.out.size
          clear hr hg hb
          refine hK.out _ _ HPv3.out ?_
          clear hK K
          (try simp only [Act.put, zA4, zA5, zA6])
          generalize v2.heap.size = gR at *
          iterate 1
           (refine wpOU_step (zO rfl) ?_)
           (first
                 | (refine wpOU_skip (by rfl) ?_)
                 | (refine wpOU_take (v := ?_) (by rfl) ?_ ?_; rotate_left 1; (intro wx hSx; have hc_0 := HPC.out wx hSx; go_simp; try with_reducible rfl)))
           (try simp only [Act.put, zA4, zA5, zA6])
          (refine wpOU_solo (zO rfl) ?_)
          intro K hK
          rw [if_pos (by rfl)]
          refine wp_store_row _ _ _ rfl g4 #[.slice (some ⟨g3, 0, none⟩) N N, .slice (some ⟨gR, 0, none⟩) N N] rfl rfl _ _ HRg4v3.out (by kernel_rfl) rfl (by simp [Value.oneCell']) ?_
          have he := Else.setRow v3 g4 #[.slice (some ⟨g3, 0, none⟩) N N, .slice (some ⟨gR, 0, none⟩) N N]
          have HRg4v4 := zh (HRg4v3.out.setRow #[.slice (some ⟨g3, 0, none⟩) N N, .slice (some ⟨gR, 0, none⟩) N N])
          have HRg3v4 := zh (HRg3v3.out.other he (rowT_ne HRg3v3.out HRg4v3.out (by decide)))
          have HRgRv4 := zh (HRgRv3.out.other he (rowT_ne HRgRv3.out HRg4v3.out (by decide)))
          have HPv4 := zh (HPv3.out.other he (rowT_ne HPv3.out HRg4v3.out (by decide)))
          have HSv4 := zh (HSv3.out.trans (he.below HLg4.out))
          clear he
          refine hK.out _ _ HPv4.out ?_
          clear hK K
          (try simp only [Act.put, zA4, zA5, zA6])
          generalize v3.setRow g4 #[.slice (some ⟨g3, 0, none⟩) N N, .slice (some ⟨gR, 0, none⟩) N N] = v4 at *
          refine wpOU_done ?_
          go_wp2
          go_meet
          case rel => exact ⟨g3, gR, g4, rfl, zh ⟨by have := HRg3v4.out; rw [made_el] at this; rw [lstL_zero, hN]; exact this, by have := HRgRv4.out; rw [made_rw] at this; rw [hN]; exact this, by rw [hN]; exact HRg4v4.out, Nat.le_of_eq hgs.symm, HBW5.out.trans (HSv4.out.mono (by have := HBW5.out.size; omega))⟩, HSv4, zh HLg3.out⟩
         ·(refine wpOU_solo (zO rfl) ?_)
          intro K hK
          rw [if_pos (by rfl)]
          refine wp_made v1 (.tmp 15) (.tmp 15) 27 rfl v1.heap.size 38 _ 1 24 Tryz.underlying27 infoRwV N rfl rfl (by omega) (by unfold maxLen; omega) (zL _) ?_
          intro v2 hr hg
          have hb : Below v1.heap.size v1 v2 := (zB _ _).grown hg (zL _) (fun k hk => by cases hk)
          have HPv2 := zh (HPv1.out.below hb HPv1.out.lt)
          have HSv2 := zh (HSv1.out.trans (hb.mono HSv1.out.size))
          have HRg4v2 := zh (HRg4v1.out.below hb HRg4v1.out.lt)
          have HRgRv2 := zh hr
          have HLgR := zh HSv1.out.size
          clear hr hg hb
          refine hK.out _ _ HPv2.out ?_
          clear hK K
          (try simp only [Act.put, zA4, zA5, zA6])
          generalize v1.heap.size = gR at *
          (refine wpOU_solo (zO rfl) ?_)
          intro K hK
          rw [if_pos (by rfl)]
          refine wp_made v2 (.tmp 11) (.tmp 11) 26 rfl v2.heap.size 41 _ 8 64 Tryz.underlying26 infoElV N rfl rfl (by omega) (by unfold maxLen; omega) (zL _) ?_
          intro v3 hr hg
          have hb : Below v2.heap.size v2 v3 := (zB _ _).grown hg (zL _) (fun k hk => by cases hk)
          have HPv3 := zh (HPv2.out.below hb HPv2.out.lt)
          have HSv3 := zh (HSv2.out.trans (hb.mono HSv2.out.size))
          have HRg4v3 := zh (HRg4v2.out.below hb HRg4v2.out.lt)
          have HRgRv3 := zh (HRgRv2.out.below hb HRgRv2.out.lt)
          have HRg3v3 := zh hr
          have HLg3 := zh HSv2.out.size
          clear hr hg hb
          refine hK.out _ _ HPv3.out ?_
          clear hK K
          (try simp only [Act.put, zA4, zA5, zA6])
          generalize v2.heap.size = g3 at *
          iterate 1
           (refine wpOU_step (zO rfl) ?_)
           (first
                 | (refine wpOU_skip (by rfl) ?_)
                 | (refine wpOU_take (v := ?_) (by rfl) ?_ ?_; rotate_left 1; (intro wx hSx; have hc_0 := HPC.out wx hSx; go_simp; try with_reducible rfl)))
           (try simp only [Act.put, zA4, zA5, zA6])
          (refine wpOU_solo (zO rfl) ?_)
          intro K hK
          rw [if_pos (by rfl)]
          refine wp_store_row _ _ _ rfl g4 #[.slice (some ⟨g3, 0, none⟩) N N, .slice (some ⟨gR, 0, none⟩) N N] rfl rfl _ _ HRg4v3.out (by kernel_rfl) rfl (by simp [Value.oneCell']) ?_
          have he := Else.setRow v3 g4 #[.slice (some ⟨g3, 0, none⟩) N N, .slice (some ⟨gR, 0, none⟩) N N]
          have HRg4v4 := zh (HRg4v3.out.setRow #[.slice (some ⟨g3, 0, none⟩) N N, .slice (some ⟨gR, 0, none⟩) N N])
          have HRg3v4 := zh (HRg3v3.out.other he (rowT_ne HRg3v3.out HRg4v3.out (by decide)))
          have HRgRv4 := zh (HRgRv3.out.other he (rowT_ne HRgRv3.out HRg4v3.out (by decide)))
          have HPv4 := zh (HPv3.out.other he (rowT_ne HPv3.out HRg4v3.out (by decide)))
          have HSv4 := zh (HSv3.out.trans (he.below HLg4.out))
          clear he
          refine hK.out _ _ HPv4.out ?_
          clear hK K
          (try simp only [Act.put, zA4, zA5, zA6])
          generalize v3.setRow g4 #[.slice (some ⟨g3, 0, none⟩) N N, .slice (some ⟨gR, 0, none⟩) N N] = v4 at *
          refine wpOU_done ?_
          go_wp2
          go_meet
          case rel => exact ⟨g3, gR, g4, rfl, zh ⟨by have := HRg3v4.out; rw [made_el] at this; rw [lstL_zero, hN]; exact this, by have := HRgRv4.out; rw [made_rw] at this; rw [hN]; exact this, by rw [hN]; exact HRg4v4.out, Nat.le_of_eq hgs.symm, HBW5.out.trans (HSv4.out.mono (by have := HBW5.out.size; omega))⟩, HSv4, zh HLg3.out⟩
 case rest =>
  obtain ⟨g3, gR, g4, rfl, HST, HB5c, HG3⟩ := hcut
  have HIc : Hid (ReI gm gf B 37 #[.pointer (some ⟨gs, 0, none⟩)] (botS s) (fun W => Below gs w W ∧ RowAt W gs 25 (scv s)) 0 wc) := ⟨HI5.out.mp.below HB5c.out HI5.out.mp.lt, HI5.out.fn.below HB5c.out HI5.out.fn.lt, HI5.out.mm.below HB5c.out HI5.out.mm.lt, HST.out.bel, HRS5.out.below HB5c.out HRS5.out.lt⟩
  have HAc : Hid (RowAt wc (gs + 1) 29 #[.slice none 0 0, .slice none 0 0]) := HRA5.out.below HB5c.out HRA5.out.lt
  have hg3 : gs ≤ g3 := by have h1 := HBW5.out.size; have h2 := HG3.out; omega
  have hg41 : gs + 1 < g4 ∨ g4 < gs + 1 ∨ g4 = gs + 1 := by omega
  clear HI5 HRS5 HRA5 HBW5 HB5c HG3 hg41
  have hsc : wc.cell? ⟨gs, 1, none⟩ = some (.slice s.VA N s.vc) := by rw [← hN]; exact HIc.out.j.2.cell 1
  have hJst : ∀ W W', (Below gs w W ∧ RowAt W gs 25 (scv s)) → But (fun k => k = B) W W' → (Below gs w W' ∧ RowAt W' gs 25 (scv s)) := fun W W' h hb => ⟨h.1.trans (hb.below (fun k hk => by omega) (by have := h.1.size; omega)), h.2.but hb (by omega)⟩
  have HJST := zh hJst
  clear hJst
  generalize hVAe : s.VA = VA at *
  go_wp2_with fail
  clear hsc
  go_loopw [21] (fun iv wr => ∃ i n' : Nat, i ≤ N ∧ n' ≤ i ∧ iv = .int .i64 i ∧ Hid (LsSt s w gs g3 gR g4 i wr) ∧ Hid (ReI gm gf B 37 #[.pointer (some ⟨gs, 0, none⟩)] (botS s) (fun W => Below gs w W ∧ RowAt W gs 25 (scv s)) n' wr) ∧ Hid (RowAt wr (gs + 1) 29 #[.slice none 0 0, .slice none 0 0])) (fun iv _ => N - (intOf iv).toNat)
  case atStart => exact ⟨0, 0, by omega, by omega, rfl, HST, HIc, HAc⟩
  case round =>
   clear HST HIc HAc
   obtain ⟨i, n', hi, hn', rfl, HST, HI, HA⟩ := hrel
   by_cases hlt : i < N
   ·obtain ⟨vb, vo, hVA, hvb, hvc⟩ := (HVAR.out wr HI.out.j.1).at 3 (fun _ => rfl) (by omega) var0 (i := i) (by rw [hN]; exact hlt)
    have HVR := zh (hvc i (by rw [hN]; exact hlt))
    have hlst : lstE s i = if (s.vs.getD i var0).2.1 = 1 ∧ hasL s (s.vs.getD i var0) = true then botS s (s.vs.getD i var0).2.2 else el0 := rfl
    have HKEEP := zh (fun h => lstL_keep s (k := i) h)
    have HSET := zh (lstL_set s (k := i) (by omega))
    clear hvc
    generalize lstE s i = le at *
    generalize s.vs.getD i var0 = vv at *
    obtain ⟨vn, kind, lat⟩ := vv
    have hhl : hasL s (vn, kind, lat) = (decide (0 ≤ lat) && decide (lat < (s.ls.length : Int))) := rfl
    rw [hhl] at hlst
    simp only at hlst
    have HVRe : Hid (wr.rangeAt vb (vo + i * 3) [.string vn, .int .i64 kind, .int .i64 lat]) := HVR.out
    clear HVR hhl
    have r9 := RowAt.new wr 58 #[.string vn, .int .i64 kind, .int .i64 lat]
    have hb9 : Below wr.heap.size wr (wr.alloc (.cells #[.string vn, .int .i64 kind, .int .i64 lat] 58)) := (zB _ _).alloc (zL _) _
    subst hVA
    go_upto_region 6 with (refine wpList_ldIn (by rfl) _ _ rfl vb (vo + i * 3) rfl _ _ HVRe.out Tryz.underlying58 rfl (by kernel_rfl) ?_)
    change Code.wp _ _ _ _ (wr.alloc (.cells #[.string vn, .int .i64 kind, .int .i64 lat] 58))
    generalize hgx : wr.heap.size = gx at *
    generalize wr.alloc (.cells #[.string vn, .int .i64 kind, .int .i64 lat] 58) = w9 at *
    have hbw : Below wr.heap.size wr w9 := by rw [hgx]; exact hb9
    have HST9 := zh (HST.out.below hbw)
    have HI9 : Hid (ReI gm gf B 37 #[.pointer (some ⟨gs, 0, none⟩)] (botS s) (fun W => Below gs w W ∧ RowAt W gs 25 (scv s)) n' w9) := ⟨HI.out.mp.below hbw HI.out.mp.lt, HI.out.fn.below hbw HI.out.fn.lt, HI.out.mm.below hbw HI.out.mm.lt, HST9.out.bel, HI.out.j.2.below hbw HI.out.j.2.lt⟩
    have HA9 := zh (HA.out.below hbw HA.out.lt)
    have HX9 := zh r9
    have k1 : w9.cell? ⟨gx, 1, none⟩ = some (.int .i64 kind) := r9.cell 1
    have HHL := zh (fun W => hasLat_any s hll vn kind lat W)
    clear hb9 hbw hgx r9 HVRe HST HI HA
    by_cases hk1 : kind = 1
    ·subst hk1
     by_cases hh : 0 ≤ lat ∧ lat < (s.ls.length : Int)
     ·have hd : (decide (0 ≤ lat) && decide (lat < (s.ls.length : Int))) = true := by rw [zE hh.1, zE hh.2]; rfl
      rw [hd] at HHL hlst
      rw [if_pos ⟨rfl, rfl⟩] at hlst
      obtain ⟨j, rfl⟩ := Int.eq_ofNat_of_zero_le hh.1
      have hj : j < s.ls.length := by omega
      have HLST := zh hlst
      clear hd hlst
      go_upto_region 7 with (first
       | (refine wpList_loadS (by rfl) _ _ rfl gs rfl _ _ _ HI9.out.j.2 Tryz.underlying25 rfl (by kernel_rfl) ?_)
       | (refine wpList_loadS (by rfl) _ _ rfl gx rfl _ _ _ HX9.out Tryz.underlying58 rfl (by kernel_rfl) ?_)
       | (go_at_call 32; refine (HHL.out w9).mono ?_; rintro x w10 ⟨rfl, hb10⟩; have HST10 := zh (HST9.out.below hb10); have HI10 : Hid (ReI gm gf B 37 #[.pointer (some ⟨gs, 0, none⟩)] (botS s) (fun W => Below gs w W ∧ RowAt W gs 25 (scv s)) n' w10) := ⟨HI9.out.mp.below hb10 HI9.out.mp.lt, HI9.out.fn.below hb10 HI9.out.fn.lt, HI9.out.mm.below hb10 HI9.out.mm.lt, HST10.out.bel, HI9.out.j.2.below hb10 HI9.out.j.2.lt⟩; have HA10 := zh (HA9.out.below hb10 HA9.out.lt); have HX10 := zh (HX9.out.below hb10 HX9.out.lt); clear hb10))
      clear k1 HST9 HI9 HA9 HX9
      have hIa : ReI gm gf B 37 #[.pointer (some ⟨gs, 0, none⟩)] (botS s) (fun W => Below gs w W ∧ RowAt W gs 25 (scv s)) n' w10.drew := ⟨HI10.out.mp.drew, HI10.out.fn.drew, HI10.out.mm.same rfl, HI10.out.j.1.drew, HI10.out.j.2.drew⟩
      have HCALL := zh (re_call HJST.out (fun W h => ⟨HSOK.out W h.1, HTAB.out W h.1, h.2⟩) hll j hj w10.drew (by unfold maxLen; omega) hIa)
      have HSd : Hid (RowAt w10.drew g4 29 #[.slice (some ⟨g3, 0, none⟩) N N, .slice (some ⟨gR, 0, none⟩) N N] ∧ RowAt w10.drew gx 58 #[.string vn, .int .i64 1, .int .i64 (j : Int)]) := ⟨by rw [← hN]; exact HST10.out.res.drew, HX10.out.drew⟩
      have HLAB : Hid (RowAt w10.drew g3 41 ((lstL s i).flatMap elC).toArray) := HST10.out.lab.drew
      have HROW : Hid (RowAt w10.drew gR 38 ((List.replicate s.vs.length rw0).flatMap rwC).toArray) := HST10.out.row.drew
      have HA10d : Hid (RowAt w10.drew (gs + 1) 29 #[.slice none 0 0, .slice none 0 0]) := HA10.out.drew
      have HMM10 : Hid (M_re (botS s) w10.drew B n') := hIa.mm
      clear hIa HST10 HI10 HA10 HX10
      have hib : (0 : Int) ≤ (i : Int) := by omega
      have hin : (i : Int) < (N : Int) := by omega
      refine wp_region_ord (fun W : World => RowAt W g4 29 #[.slice (some ⟨g3, 0, none⟩) N N, .slice (some ⟨gR, 0, none⟩) N N] ∧ RowAt W gx 58 #[.string vn, .int .i64 1, .int .i64 (j : Int)]) [(0, true), (1, true), (2, true), (3, true), (4, true), (5, true), (6, false), (7, true), (8, false)] (by kernel_rfl) (by kernel_rfl) rfl (by kernel_rfl) HSd.out ?_
      iterate 6
       (refine wpOrd_step (zO rfl) ?_)
       (first
           | (refine wpOrd_skip (by rfl) ?_)
           | (refine wpOrd_take (v := ?_) (by rfl) ?_ ?_; rotate_left 1; (intro wx hSx; have hc_0 := hSx.1.cell 0; have hc_1 := hSx.2.cell 2; go_simp; try with_reducible rfl)))
       (try simp only [Act.put, zA4, zA5, zA6])
      (refine wpOrd_solo (zO rfl) ?_)
      intro K hK
      go_simp
      refine HCALL.out.mono ?_
      rintro e w11 ⟨rfl, hi11, hb11⟩
      have HI11 := zh hi11
      have hg4B : g4 ≠ B := fun e => (show M_re (botS s) w10.drew B n' from HMM10.out).ne HSd.out.1 e
      have hgxB : gx ≠ B := fun e => (show M_re (botS s) w10.drew B n' from HMM10.out).ne HSd.out.2 e
      have hg3B : g3 ≠ B := fun e => (show M_re (botS s) w10.drew B n' from HMM10.out).ne HLAB.out e
      have hgRB : gR ≠ B := fun e => (show M_re (botS s) w10.drew B n' from HMM10.out).ne HROW.out e
      have hgAB : gs + 1 ≠ B := by omega
      have HS11 : Hid (RowAt w11 g4 29 #[.slice (some ⟨g3, 0, none⟩) N N, .slice (some ⟨gR, 0, none⟩) N N] ∧ RowAt w11 gx 58 #[.string vn, .int .i64 1, .int .i64 (j : Int)]) := ⟨HSd.out.1.but hb11 hg4B, HSd.out.2.but hb11 hgxB⟩
      have HLAB11 := zh (HLAB.out.but hb11 hg3B)
      have HROW11 := zh (HROW.out.but hb11 hgRB)
      have HA11 := zh (HA10d.out.but hb11 hgAB)
      clear hi11 hb11 HSd HLAB HROW HA10d hg4B hgxB hg3B hgRB hgAB HMM10
      refine hK.out _ _ HS11.out ?_
      clear hK K
      (try simp only [Act.put, zA4, zA5, zA6])
      (refine wpOrd_step (zO rfl) ?_)
      (refine wpOrd_take (v := ?_) (by rfl) ?_ ?_; rotate_left 1; (intro wx hSx; go_simp; try with_reducible rfl))
      (try simp only [Act.put, zA4, zA5, zA6])
      (refine wpOrd_solo (zO rfl) ?_)
      intro K hK
      rw [if_pos (by rfl)]
      refine wp_stMid _ _ _ rfl g3 (i * 8) (elC (botS s (j : Int))) rfl rfl ((lstL s i).flatMap elC) 41 HLAB11.out (by rw [elC_len]; kernel_rfl) (by rw [elC_len, elCs_len, lstL_len, hN]; omega) (elC_one _) ?_
      intro w12 hr12 he12
      rw [splice_el _ _ (by rw [lstL_len, hN]; exact hlt), ← HLST.out, ← HSET.out] at hr12
      have h43 : g4 ≠ g3 := rowT_ne HS11.out.1 HLAB11.out (by decide)
      have hx3 : gx ≠ g3 := rowT_ne HS11.out.2 HLAB11.out (by decide)
      have hR3 : gR ≠ g3 := rowT_ne HROW11.out HLAB11.out (by decide)
      have hA3 : gs + 1 ≠ g3 := rowT_ne HA11.out HLAB11.out (by decide)
      have hm3 : gm ≠ g3 := rowT_ne HI11.out.mp HLAB11.out (by decide)
      have hf3 : gf ≠ g3 := rowT_ne HI11.out.fn HLAB11.out (by decide)
      have hs3 : gs ≠ g3 := rowT_ne HI11.out.j.2 HLAB11.out (by decide)
      have hB3 : B ≠ g3 := fun e => HI11.out.mm.ne HLAB11.out e.symm
      have hbel12 : Below gs w w12 := HI11.out.j.1.trans (he12.below hg3)
      have HST12 : Hid (LsSt s w gs g3 gR g4 (i + 1) w12) := ⟨hr12, HROW11.out.other he12 hR3, by rw [hN]; exact HS11.out.1.other he12 h43, Nat.le_of_eq hgs.symm, hbel12⟩
      have HI12 : Hid (ReI gm gf B 37 #[.pointer (some ⟨gs, 0, none⟩)] (botS s) (fun W => Below gs w W ∧ RowAt W gs 25 (scv s)) (n' + 1) w12) := ⟨HI11.out.mp.other he12 hm3, HI11.out.fn.other he12 hf3, HI11.out.mm.same (he12.block B hB3), hbel12, HI11.out.j.2.other he12 hs3⟩
      have HA12 := zh (HA11.out.other he12 hA3)
      have HS12 : Hid (RowAt w12 g4 29 #[.slice (some ⟨g3, 0, none⟩) N N, .slice (some ⟨gR, 0, none⟩) N N] ∧ RowAt w12 gx 58 #[.string vn, .int .i64 1, .int .i64 (j : Int)]) := ⟨HS11.out.1.other he12 h43, HS11.out.2.other he12 hx3⟩
      clear hr12 he12 h43 hx3 hR3 hA3 hm3 hf3 hs3 hB3 hbel12 HI11 HS11 HLAB11 HROW11 HA11
      refine hK.out _ _ HS12.out ?_
      clear hK K
      (try simp only [Act.put, zA4, zA5, zA6])
      refine wpOrd_done ?_
      clear HCALL HS12
      go_wp2_with fail
      go_roundw
      case rel => exact ⟨i + 1, n' + 1, by omega, by omega, by go_num, HST12, HI12, HA12⟩
      case measure => simp [intOf]; omega
     ·have hd : (decide (0 ≤ lat) && decide (lat < (s.ls.length : Int))) = false := by
       rw [Bool.and_eq_false_iff]
       by_cases e : 0 ≤ lat
       ·right; exact zF (fun h => hh ⟨e, h⟩)
       ·left; exact zF e
      rw [hd] at HHL hlst
      rw [if_neg (fun h => by cases h.2)] at hlst
      have HLS := zh (HKEEP.out hlst)
      clear hd hlst HKEEP HSET
      go_wp2_with (first
       | (refine wpList_loadS (by rfl) _ _ rfl gs rfl _ _ _ HI9.out.j.2 Tryz.underlying25 rfl (by kernel_rfl) ?_)
       | (refine wpList_loadS (by rfl) _ _ rfl gx rfl _ _ _ HX9.out Tryz.underlying58 rfl (by kernel_rfl) ?_)
       | (go_at_call 32; refine (HHL.out w9).mono ?_; rintro x w10 ⟨rfl, hb10⟩; have HST10 := zh (HST9.out.below hb10); have HI10 : Hid (ReI gm gf B 37 #[.pointer (some ⟨gs, 0, none⟩)] (botS s) (fun W => Below gs w W ∧ RowAt W gs 25 (scv s)) n' w10) := ⟨HI9.out.mp.below hb10 HI9.out.mp.lt, HI9.out.fn.below hb10 HI9.out.fn.lt, HI9.out.mm.below hb10 HI9.out.mm.lt, HST10.out.bel, HI9.out.j.2.below hb10 HI9.out.j.2.lt⟩; have HA10 := zh (HA9.out.below hb10 HA9.out.lt); clear hb10))
      have HST11 : Hid (LsSt s w gs g3 gR g4 (i + 1) w10) := ⟨by rw [HLS.out]; exact HST10.out.lab, HST10.out.row, HST10.out.res, HST10.out.lo, HST10.out.bel⟩
      go_roundw
      case rel => exact ⟨i + 1, n', by omega, by omega, by go_num, HST11, HI10, HA10⟩
      case measure => simp [intOf]; omega
    ·rw [if_neg (fun h => hk1 h.1)] at hlst
     have hne1 : (kind == 1) = false := by rw [beq_eq_false_iff_ne]; exact hk1
     have HLS := zh (HKEEP.out hlst)
     have HST11 : Hid (LsSt s w gs g3 gR g4 (i + 1) w9) := ⟨by rw [HLS.out]; exact HST9.out.lab, HST9.out.row, HST9.out.res, HST9.out.lo, HST9.out.bel⟩
     clear hlst HKEEP HSET HHL
     go_wp2_with fail
     go_roundw
     case rel => exact ⟨i + 1, n', by omega, by omega, by go_num, HST11, HI9, HA9⟩
     case measure => simp [intOf]; omega
   ·obtain rfl : i = N := by omega
    have r4 : RowAt wr g4 29 #[.slice (some ⟨g3, 0, none⟩) i i, .slice (some ⟨gR, 0, none⟩) i i] := by rw [← hN]; exact HST.out.res
    have c0 := r4.cell 0
    have c1 := r4.cell 1
    have HR4 := zh r4
    clear r4
    go_wp2_with (first
     | (refine wpList_loadS (by rfl) _ _ rfl g4 rfl _ _ _ HR4.out Tryz.underlying29 rfl (by kernel_rfl) ?_)
     | (refine wpList_stRow (by rfl) _ _ _ rfl (gs + 1) #[.slice (some ⟨g3, 0, none⟩) i i, .slice (some ⟨gR, 0, none⟩) i i] rfl rfl _ _ HA.out (by kernel_rfl) rfl (by simp [Value.oneCell']) ?_; intro w12 hr12 he12; have HR12 := zh hr12; have HE12 := zh he12; clear hr12 he12))
    have h3A : g3 ≠ gs + 1 := rowT_ne HST.out.lab HA.out (by decide)
    have hRA : gR ≠ gs + 1 := rowT_ne HST.out.row HA.out (by decide)
    exact bodyPost_ret (retRow rfl _ _ (gs + 1) _ _ (0, 0) _ rfl HR12.out Tryz.underlying29 rfl (by kernel_rfl)) rfl (HQ.out _ _ ⟨g3, gR, rfl, HST.out.lab.other HE12.out h3A, by rw [← hN]; exact HST.out.row.other HE12.out hRA, HST.out.bel.trans (HE12.out.below (by omega))⟩)
end
end Go.Proofs.YtnfndapgcpdcpaaGreatDoor
