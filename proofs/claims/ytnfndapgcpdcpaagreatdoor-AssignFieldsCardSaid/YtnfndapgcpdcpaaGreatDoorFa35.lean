/- Texts that all the claims need. Conditions: those that each states. -/

import Derived.Test.YtnfndapgcpdcpaaGreatDoorFa19
import Derived.Test.YtnfndapgcpdcpaaGreatDoorFa34
set_option linter.unusedSimpArgs false
set_option linter.unusedVariables false
set_option maxRecDepth 100000
set_option maxHeartbeats 40000000
namespace Go.Proofs.YtnfndapgcpdcpaaGreatDoor
section
open Go.RowKit RM Go.Maps
theorem right1_any18 (s : Sc) (gs : Nat) (k : Ky) (h0 : 0 ≤ k.1) (h1 : k.1 < s.ls.length) (w : World) (hJ : ScJ s gs w) :
 Calls Tryz.prog 30 #[kyV k, .pointer (some ⟨gs, 0, none⟩)] w fun e w' => e = .returned (.bool (fitS s k)) ∧ Below w.heap.size w w' := by
 obtain ⟨hS, hT, hg⟩ := hJ
 obtain ⟨a, e⟩ := k
 obtain ⟨i, rfl⟩ := Int.eq_ofNat_of_zero_le h0
 have hi : i < s.ls.length := by simp only at h1; omega
 have r0 := RowAt.new w 68 (kyC (((i : Nat) : Int), e)).toArray
 have hb : Below w.heap.size w (w.alloc (.cells (kyC (((i : Nat) : Int), e)).toArray 68)) := (zB _ _).alloc (zL _) _
 obtain ⟨b, o, hA, hbb, hc⟩ := hS.lats.at 3 (fun _ => rfl) (by omega) lat0 (i := i) hi
 have hsh := hS.sh _ (getD_mem' (d := lat0) hi)
 have HF : Hid (∀ W, Below w.heap.size w W → Calls Tryz.prog 31 #[.agg (sv (s.shp i).t (s.shp i).A (s.shp i).fs.length (s.shp i).c), .agg (uv e.1)] W fun x w' => x = .returned (.bool (fitS s (((i : Nat) : Int), e))) ∧ Below W.heap.size W w') := fun W h =>
  sfitsE_any (s.shp i).t (s.shp i).A (s.shp i).c (s.shp i).fs e.1 e.2 W (hT.below h) ((ShOk.facs hsh).below h)
 have HRS : Hid (∀ W, Below w.heap.size w W → W.rangeAt b (o + i * 3 + 1) [.bool (s.shp i).t, .slice (s.shp i).A (s.shp i).fs.length (s.shp i).c]) := fun W h => range_shp (range_below (hc i hi) h hbb)
 have hg1 : ∀ W, Below w.heap.size w W → W.cell? ⟨gs, 0, none⟩ = some (.slice (some ⟨b, o, none⟩) s.ls.length s.lc) := fun W h => by rw [← hA]; exact (hg.below h hg.lt).cell 0
 have HG := zh hg1
 have hsl : s.ls.length ≤ 65536 := hS.lfew
 clear hg1 hg hc hA hsh hS hT h0 h1 hbb
 refine cHid fun Q' hQ => ?_
 have HQ := zh hQ; clear hQ
 generalize fitS s (((i : Nat) : Int), e) = R at *
 generalize s.shp i = sh at *
 generalize s.ls.length = N at *
 generalize s.lc = lc at *
 have hrk : ((w.alloc (.cells (kyC (((i : Nat) : Int), e)).toArray 68))).rangeAt w.heap.size 1 (elC e) := fun j u hu => (r0.cell (1 + j)).trans (by rw [Nat.add_comm]; unfold kyC; simpa using hu)
 have hk0 : ((w.alloc (.cells (kyC (((i : Nat) : Int), e)).toArray 68))).cell? ⟨w.heap.size, 0, none⟩ = some (.int .i64 i) := r0.cell 0
 have hszk : (w.alloc (.cells (kyC (((i : Nat) : Int), e)).toArray 68)).heap.size = w.heap.size + 1 := by simp
 show Calls Tryz.prog 30 #[.agg (kyC (((i : Nat) : Int), e)).toArray, .pointer (some ⟨gs, 0, none⟩)] w Q'
 clear r0
 generalize (kyC (((i : Nat) : Int), e)).toArray = ka at *
 go_enter Tryz.func30, Tryz.ntmps30
 go_upto_region 1 with fail
 change Code.wp _ _ _ _ (w.alloc (.cells ka 68))
 generalize w.alloc (.cells ka 68) = w1 at *
 have HK : Hid (∀ W, Below w1.heap.size w1 W → W.rangeAt w.heap.size 1 (elC e)) := fun W h => range_below hrk h (by omega)
 have HK0 : Hid (∀ W, Below w1.heap.size w1 W → W.cell? ⟨w.heap.size, 0, none⟩ = some (.int .i64 i)) := fun W h => (h.cell (p := ⟨w.heap.size, 0, none⟩) (by show w.heap.size < w1.heap.size; omega)).trans hk0
 have HB := zh hb
 have HW : Hid (∀ W, Below w1.heap.size w1 W → Below w.heap.size w W) := fun W h => HB.out.trans (h.mono HB.out.size)
 have HZ : Hid ((Tryz.prog.info? 41).map (·.size) = some (elC e).length) := by
  show _ = _
  rw [elC_len]; kernel_rfl
 clear hrk hk0 hszk hb
 have hib : (0 : Int) ≤ (i : Int) := by omega
 have hin : (i : Int) < (N : Int) := by omega
 have HS : Hid ((fun W : World => Below w1.heap.size w1 W) w1.drew) := (zB _ _).drew
 refine wp_region_ord (fun W : World => Below w1.heap.size w1 W) [(0, true), (1, true), (2, true), (3, true), (4, true), (5, true), (6, true), (7, true), (8, true), (9, false), (10, true)] (by kernel_rfl) (by kernel_rfl) rfl (by kernel_rfl) HS.out ?_
 iterate 9
  (refine wpOrd_step (zO rfl) ?_)
  (first
   | (refine wpOrd_skip (by rfl) ?_)
   | (refine wpOrd_take (by rfl) (take_mid _ _ rfl b _ rfl _ _ (fun W h => HRS.out W (HW.out W h)) Tryz.underlying53 rfl (by kernel_rfl)) ?_)
   | (refine wpOrd_take (by rfl) (take_mid _ _ rfl w.heap.size 1 rfl _ _ (fun W h => HK.out W h) Tryz.underlying41 rfl HZ.out) ?_)
   | (refine wpOrd_take (v := ?_) (by rfl) ?_ ?_; rotate_left 1; (intro wx hSx; have hc_0 := HG.out wx (HW.out wx hSx); have hc_1 := HK0.out wx hSx; go_simp; try with_reducible rfl)))
  (try simp only [Act.put, zA4, zA5, zA6])
 (refine wpOrd_solo (zO rfl) ?_)
 intro K hK
 go_simp
 go_at_call 31
 refine (HF.out _ (HW.out _ HS.out)).mono ?_
 rintro x w2 ⟨rfl, hb2⟩
 have HB2 := zh (HS.out.trans (hb2.mono HS.out.size))
 clear hb2
 refine hK.out _ _ HB2.out ?_
 clear hK K
 (try simp only [Act.put, zA4, zA5, zA6])
 (refine wpOrd_step (zO rfl) ?_)
 (refine wpOrd_take (v := ?_) (by rfl) ?_ ?_; rotate_left 1; (intro wx hSx; go_simp; try with_reducible rfl))
 (try simp only [Act.put, zA4, zA5, zA6])
 refine wpOrd_done ?_
 go_wp2_with fail
 exact HQ.out _ _ ⟨rfl, HW.out _ HB2.out⟩
end
section
open Go.RowKit RM Go.Maps
theorem aright_any (s : Sc) (a : As) (w : World) (hS : ScOk w s) (hT : Tab w) (ha : AsIn w a) (hfs : fsum a a.rs.length ≤ 1152921504606846976) (hnm : ∀ r ∈ a.rs, ∀ v ∈ r.l, v.s.size ≤ 4294967296) :
 Calls Tryz.prog 10 #[.agg (scv s), .agg (asv a)] w fun e w' => e = .returned (.bool (rightA s a)) ∧ Below w.heap.size w w' := by
 obtain ⟨rS, rA, hb⟩ := two_boxes w (scv s) (asv a) 25 29
 have hsz1 : ((w.alloc (.cells (scv s) 25)).alloc (.cells (asv a) 29)).heap.size = w.heap.size + 2 := by simp
 refine cHid fun Q' hQ => ?_
 have HQ := zh hQ; clear hQ
 have HNL : Hid (a.ls.length ≠ s.vs.length → rightA s a = false) := fun h => by unfold rightA; rw [zF h]; rfl
 have HNR : Hid (a.rs.length ≠ s.vs.length → rightA s a = false) := fun h => by unfold rightA; rw [zF h, Bool.false_and, Bool.and_false]
 have HBAD : Hid (∀ i, i < s.vs.length → rtT s a i = false → rightA s a = false) := fun i hi h => by unfold rightA; rw [rng_hit hi h, Bool.and_false, Bool.and_false]
 have HOK : Hid (a.ls.length = s.vs.length → a.rs.length = s.vs.length → (∀ i, i < s.vs.length → rtT s a i = true) → rightA s a = true) := fun h1 h2 h => by unfold rightA; rw [zE h1, zE h2, rng_done h]; rfl
 have hvl : s.vs.length ≤ 65536 := hS.vfew
 have hll : s.ls.length ≤ 65536 := hS.lfew
 have HSOK := zh (fun W (h : Below w.heap.size w W) => hS.below h)
 have HTAB := zh (fun W (h : Below w.heap.size w W) => hT.below h)
 have HLAB := zh (fun W (h : Below w.heap.size w W) => ha.lab.below h)
 have HROW := zh (fun W (h : Below w.heap.size w W) => ha.rows.below h)
 have HVAR := zh (fun W (h : Below w.heap.size w W) => hS.vars.below h)
 have HRIN : Hid (∀ i, i < a.rs.length → ∀ W, Below w.heap.size w W → Ls vlC W (a.rs.getD i rw0).A (a.rs.getD i rw0).l) := fun i hi W h => (ha.row _ (getD_mem' hi)).at_.below h
 have HRNM : Hid (∀ i, i < a.rs.length → ∀ v ∈ (a.rs.getD i rw0).l, v.s.size ≤ 4294967296) := fun i hi => hnm _ (getD_mem' hi)
 have HSUC : Hid (∀ i, i < a.rs.length → fsum a (i + 1) = fsum a i + (a.rs.getD i rw0).l.length) := fun i hi => fsum_succ a hi
 have HLE : Hid (∀ i, fsum a i ≤ 1152921504606846976) := fun i => zM (fsum_le a i) hfs
 clear hS hT ha hnm hfs
 go_enter Tryz.func10, Tryz.ntmps10
 go_upto_region 1 with fail
 change Code.wp _ _ _ _ ((w.alloc (.cells (scv s) 25)).alloc (.cells (asv a) 29))
 generalize (w.alloc (.cells (scv s) 25)).alloc (.cells (asv a) 29) = w1 at *
 have HB1 := zh hb
 have HRS1 := zh rS
 have HRA1 := zh rA
 have s1 : w1.cell? ⟨w.heap.size, 1, none⟩ = some (.slice s.VA s.vs.length s.vc) := rS.cell 1
 have a0 : w1.cell? ⟨w.heap.size + 1, 0, none⟩ = some (.slice a.LA a.ls.length a.lc) := rA.cell 0
 have a1 : w1.cell? ⟨w.heap.size + 1, 1, none⟩ = some (.slice a.RA a.rs.length a.rc) := rA.cell 1
 have HSZ1 := zh hsz1
 clear rS rA hb hsz1
 by_cases h1 : a.ls.length = s.vs.length
 ·by_cases h2 : a.rs.length = s.vs.length
  ·clear HNL HNR
   rw [h1] at a0
   rw [h2] at a1
   generalize hN : s.vs.length = N at *
   have hMD := rb_made 30 #[.pointer (some ⟨w.heap.size, 0, none⟩)] w1
   have HMD := zh hMD
   clear hMD
   go_upto_region 4 with (go_at_call 29; refine HMD.out.mono ?_; rintro e w5 hk; obtain ⟨rfl, k1, k2, k3, k4, k5⟩ := hk; have HB5 := zh k5; have HLO := zh k4; have HMP := zh k1; have HFN := zh k2; have HMM0 := zh (k3 68 (.agg #[.bool false]) (f_rb (fitS s))); clear k1 k2 k3 k4 k5)
   have HRS5 := zh (HRS1.out.below HB5.out HRS1.out.lt)
   have HRA5 := zh (HRA1.out.below HB5.out HRA1.out.lt)
   have HBW5 := zh (HB1.out.trans (HB5.out.mono HB1.out.size))
   generalize hgB : w1.heap.size + 1 = B at *
   generalize hgM : w1.heap.size + 2 = gm at *
   generalize hgF : w1.heap.size = gf at *
   have hsz1 := HSZ1.out
   clear HSZ1
   have HMEM : Hid (MemoF (fun x => .bool x) 69 #[.pointer (some ⟨gm, 0, none⟩), .pointer (some ⟨gf, 0, none⟩)] B (fitS s) (RbI gm gf B 30 #[.pointer (some ⟨w.heap.size, 0, none⟩)] (fitS s) (fun W => Below w.heap.size w W ∧ RowAt W w.heap.size 25 (scv s))) (s.ls.length : Int)) :=
        rb_memo (by omega) (fun _ _ => by kernel_rfl) (fun W W' h hb => ⟨h.1.trans (hb.below (fun k hk => by omega) h.1.size), h.2.but hb (by omega)⟩) fun k h0 h1 W h => right1_any18 s w.heap.size k h0 h1 W ⟨HSOK.out W h.1, HTAB.out W h.1, h.2⟩
   have HI5 : Hid (RbI gm gf B 30 #[.pointer (some ⟨w.heap.size, 0, none⟩)] (fitS s) (fun W => Below w.heap.size w W ∧ RowAt W w.heap.size 25 (scv s)) 0 w5) := ⟨HMP.out, HFN.out, HMM0.out, HBW5.out, HRS5.out⟩
   generalize RbI gm gf B 30 #[.pointer (some ⟨w.heap.size, 0, none⟩)] (fitS s) (fun W => Below w.heap.size w W ∧ RowAt W w.heap.size 25 (scv s)) = I at *
   have s5 : w5.cell? ⟨w.heap.size, 1, none⟩ = some (.slice s.VA N s.vc) := by rw [← hN]; exact HRS5.out.cell 1
   have hBlo : w.heap.size + 2 ≤ B := by omega
   generalize hVAe : s.VA = VA at *
   clear hsz1
   have HOK2 := zh (HOK.out h1 h2)
   clear HMP HFN HMM0 HLO HMD s1 a0 a1 HOK HRS1 HRA1 hgB hgM hgF
   go_wp2_with fail
   go_loopw [29] (fun iv wr => ∃ i n' : Nat, i ≤ N ∧ n' ≤ i + fsum a i ∧ iv = .int .i64 i ∧ Hid (∀ j, j < i → rtT s a j = true) ∧ Hid (I n' wr) ∧ Hid (But (fun j => j = B) w5 wr)) (fun iv _ => N - (intOf iv).toNat)
   case atStart => exact ⟨0, 0, by omega, by omega, rfl, fun j hj => by omega, HI5, But.refl _ _⟩
   case round =>
        clear HI5 s5
        obtain ⟨i, n', hi, hn', rfl, HF, HI, HW⟩ := hrel
        have HBWr := zh (HBW5.out.trans (HW.out.below (B := w.heap.size) (fun k hk => by omega) HBW5.out.size))
        by_cases hlt : i < N
        ·obtain ⟨vb, vo, hVA, hvb, hvc⟩ := (HVAR.out wr HBWr.out).at 3 (fun _ => rfl) (by omega) var0 (i := i) (by rw [hN]; exact hlt)
         have HVR := zh (hvc i (by rw [hN]; exact hlt))
         have HBD := zh (HBAD.out i hlt)
         have HNX : Hid (rtT s a i = true → ∀ j, j < i + 1 → rtT s a j = true) := fun h j hj => by
          by_cases e : j = i
          ·rw [e]; exact h
          ·exact HF.out j (by omega)
         have htv : rtT s a i = (hasL s (s.vs.getD i var0) && vlB (fitS s) (s.vs.getD i var0).2.1 (s.vs.getD i var0).2.2 (a.ls.getD i el0) (a.rs.getD i rw0).l) := rfl
         have hsu := HSUC.out i (by omega)
         have hle := HLE.out (i + 1)
         have HRI := zh (HRIN.out i (by omega))
         have HRNi := zh (HRNM.out i (by omega))
         obtain ⟨lb, lo, hLA, hlb, hlc⟩ := (HLAB.out w (zB _ _)).at 8 elC_len (by omega) el0 (i := i) (by omega)
         have HLR : Hid (∀ W, Below w.heap.size w W → W.rangeAt lb (lo + i * 8) (elC (a.ls.getD i el0))) := fun W h => range_below (hlc i (by omega)) h hlb
         obtain ⟨qb, qo, hRA, hqb, hqc⟩ := (HROW.out w (zB _ _)).at 1 rwC_len (by omega) rw0 (i := i) (by omega)
         have HQR : Hid (∀ W, Below w.heap.size w W → W.cell? ⟨qb, qo + i, none⟩ = some (.slice (a.rs.getD i rw0).A (a.rs.getD i rw0).l.length (a.rs.getD i rw0).c)) := fun W h => by
          have := range_below (hqc i (by omega)) h hqb 0 _ rfl
          simpa using this
         clear hvc hlc hqc HF
         generalize rtT s a i = T at *
         generalize a.ls.getD i el0 = le at *
         generalize a.rs.getD i rw0 = rr at *
         generalize s.vs.getD i var0 = vv at *
         obtain ⟨vn, kind, lat⟩ := vv
         obtain ⟨rA, rc, rl⟩ := rr
         simp only at htv hsu HRI HRNi HQR
         generalize hf1 : fsum a (i + 1) = fs1 at *
         generalize hf0 : fsum a i = fs0 at *
         have HVRe : Hid (wr.rangeAt vb (vo + i * 3) [.string vn, .int .i64 kind, .int .i64 lat]) := HVR.out
         clear HVR
         have r9 := RowAt.new wr 58 #[.string vn, .int .i64 kind, .int .i64 lat]
         have hb9 : Below wr.heap.size wr (wr.alloc (.cells #[.string vn, .int .i64 kind, .int .i64 lat] 58)) := (zB _ _).alloc (zL _) _
         subst hVA
         go_upto_region 7 with (refine wpList_ldIn (by rfl) _ _ rfl vb (vo + i * 3) rfl _ _ HVRe.out Tryz.underlying58 rfl (by kernel_rfl) ?_)
         change Code.wp _ _ _ _ (wr.alloc (.cells #[.string vn, .int .i64 kind, .int .i64 lat] 58))
         generalize hgx : wr.heap.size = gx at *
         have hBx : B < gx := by rw [← hgx]; exact HMEM.out.lt _ _ HI.out
         generalize wr.alloc (.cells #[.string vn, .int .i64 kind, .int .i64 lat] 58) = w9 at *
         have HBT : Hid (But (fun _ => False) wr w9) := But.none_of (by rw [hgx]; exact hb9)
         have HI9 := zh (HMEM.out.but _ _ _ HI.out HBT.out)
         have HW9 := zh (HW.out.trans HBT.out.weak)
         have HX9 := zh r9
         have HX : Hid (∀ W, But (fun j => j = B) w9.drew W → RowAt W gx 58 #[.string vn, .int .i64 kind, .int .i64 lat]) := fun W h => HX9.out.drew.but h (by omega)
         have HS9 : Hid (∀ W, But (fun j => j = B) w9.drew W → RowAt W w.heap.size 25 (scv s)) := fun W h => (HRS5.out.but (HW9.out.drew.trans h) (by omega))
         have HA9 : Hid (∀ W, But (fun j => j = B) w9.drew W → RowAt W (w.heap.size + 1) 29 (asv a)) := fun W h => (HRA5.out.but (HW9.out.drew.trans h) (by omega))
         have HBB : Hid (∀ W, But (fun j => j = B) w9.drew W → Below w.heap.size w W) := fun W h => HBW5.out.trans ((HW9.out.drew.trans h).below (fun k hk => by omega) HBW5.out.size)
         have HC0 : Hid (∀ W, But (fun j => j = B) w9.drew W → W.cell? ⟨w.heap.size + 1, 0, none⟩ = some (.slice (some ⟨lb, lo, none⟩) N a.lc)) := fun W h => by rw [← hLA, ← h1]; exact (HA9.out W h).cell 0
         have HC1 : Hid (∀ W, But (fun j => j = B) w9.drew W → W.cell? ⟨w.heap.size + 1, 1, none⟩ = some (.slice (some ⟨qb, qo, none⟩) N a.rc)) := fun W h => by rw [← hRA, ← h2]; exact (HA9.out W h).cell 1
         have HQ9 : Hid (∀ W, But (fun j => j = B) w9.drew W → W.cell? ⟨qb, qo + i, none⟩ = some (.slice rA rl.length rc)) := fun W h => HQR.out W (HBB.out W h)
         have HL9 : Hid (∀ W, But (fun j => j = B) w9.drew W → W.rangeAt lb (lo + i * 8) (elC le)) := fun W h => HLR.out W (HBB.out W h)
         have HI9d := zh (HMEM.out.but _ _ _ HI9.out (But.refl _ _).drew)
         have HZ : Hid ((Tryz.prog.info? 41).map (·.size) = some (elC le).length) := by
          show _ = _
          rw [elC_len]; kernel_rfl
         have HHL := zh (fun W => hasLat_any s hll vn kind lat W)
         have hib : (0 : Int) ≤ (i : Int) := by omega
         have hin : (i : Int) < (N : Int) := by omega
         have hhl : hasL s (vn, kind, lat) = (decide (0 ≤ lat) && decide (lat < (s.ls.length : Int))) := rfl
         have HSd : Hid ((fun W : World => But (fun j => j = B) w9.drew W) w9.drew) := But.refl _ _
         rw [hhl] at htv
         clear hb9 HBT hgx r9 hhl HVRe HX9 HI9 HLR HQR
         by_cases hh : 0 ≤ lat ∧ lat < (s.ls.length : Int)
         ·rw [zE hh.1, zE hh.2, Bool.true_and, Bool.true_and] at htv
          have hd : (decide (0 ≤ lat) && decide (lat < (s.ls.length : Int))) = true := by rw [zE hh.1, zE hh.2]; rfl
          rw [hd] at HHL
          have HVD := zh (fun W (hI : I n' W) (h : But (fun j => j = B) w9.drew W) => avalid_any HMEM.out vn kind lat hh.1 hh.2 le rA rc rl n' W (by unfold maxLen; omega) HRNi.out (fun V hV => HRI.out V (HBB.out V (h.trans hV))) hI)
          unfold elv at HVD
          generalize vlB (fitS s) kind lat le rl = vb9 at *
          have HTV := zh htv
          clear htv hd
          refine wp_region_ord (fun W : World => But (fun j => j = B) w9.drew W) [(0, true), (1, true), (2, false), (3, true), (4, true), (5, true), (6, true), (7, true), (8, true), (9, true), (10, true), (11, true), (12, true), (13, true), (14, true), (15, true), (16, true), (17, false), (18, true), (19, true)] (by kernel_rfl) (by kernel_rfl) rfl (by kernel_rfl) HSd.out ?_
          iterate 2
           (refine wpOrd_step (zO rfl) ?_)
           (first
             | (refine wpOrd_skip (by rfl) ?_)
             | (refine wpOrd_take (by rfl) (take_row _ _ rfl w.heap.size rfl _ _ _ HS9.out Tryz.underlying25 rfl (by kernel_rfl)) ?_)
             | (refine wpOrd_take (by rfl) (take_row _ _ rfl gx rfl _ _ _ HX.out Tryz.underlying58 rfl (by kernel_rfl)) ?_)
             | (refine wpOrd_take (v := ?_) (by rfl) ?_ ?_; rotate_left 1; (intro wx hSx; go_simp; try with_reducible rfl)))
           (try simp only [Act.put, zA4, zA5, zA6])
          (refine wpOrd_solo (zO rfl) ?_)
          intro K hK
          go_simp
          go_at_call 32
          refine (HHL.out w9.drew).mono ?_
          rintro x w10 ⟨rfl, hb10⟩
          have HI10 := zh (HMEM.out.but _ _ _ HI9d.out (But.none_of hb10))
          have HS10 := zh ((But.none_of hb10).weak (B := B))
          clear hb10
          refine hK.out _ _ HS10.out ?_
          clear hK K
          (try simp only [Act.put, zA4, zA5, zA6])
          iterate 14
           (refine wpOrd_step (zO rfl) ?_)
           (first
             | (refine wpOrd_skip (by rfl) ?_)
             | (refine wpOrd_take (by rfl) (take_row _ _ rfl gx rfl _ _ _ HX.out Tryz.underlying58 rfl (by kernel_rfl)) ?_)
             | (refine wpOrd_take (by rfl) (take_mid _ _ rfl lb _ rfl _ _ HL9.out Tryz.underlying41 rfl HZ.out) ?_)
             | (refine wpOrd_take (v := ?_) (by rfl) ?_ ?_; rotate_left 1; (intro wx hSx; have hc_0 := HC0.out wx hSx; have hc_1 := HC1.out wx hSx; have hc_2 := HQ9.out wx hSx; go_simp; try with_reducible rfl)))
           (try simp only [Act.put, zA4, zA5, zA6])
          (refine wpOrd_solo (zO rfl) ?_)
          intro K hK
          go_simp
          go_at_call 33
          refine (HVD.out w10 HI10.out HS10.out).mono ?_
          rintro x w11 ⟨rfl, hI11, hB11⟩
          have HI11 := zh hI11
          have HS11 := zh (HS10.out.trans hB11)
          clear hI11 hB11
          refine hK.out _ _ HS11.out ?_
          clear hK K
          (try simp only [Act.put, zA4, zA5, zA6])
          iterate 2
           (refine wpOrd_step (zO rfl) ?_)
           (first
             | (refine wpOrd_skip (by rfl) ?_)
             | (refine wpOrd_take (v := ?_) (by rfl) ?_ ?_; rotate_left 1; (intro wx hSx; go_simp; try with_reducible rfl)))
           (try simp only [Act.put, zA4, zA5, zA6])
          refine wpOrd_done ?_
          have HW11 := zh (HW9.out.drew.trans HS11.out)
          obtain ⟨n3, hn3, hI3⟩ := HI11.out
          have HI3 := zh hI3
          clear hI3 HI11
          cases vb9
          ·have HFA := zh (HBD.out HTV.out)
           have HBF := zh (HBB.out _ HS11.out)
           clear HX HS9 HA9 HBB HC0 HC1 HQ9 HL9
           go_wp2_with fail
           exact HQ.out _ _ ⟨ret_eq (bool_eq HFA.out.symm), HBF.out⟩
          ·have HTR := zh (HNX.out HTV.out)
           clear HX HS9 HA9 HBB HC0 HC1 HQ9 HL9 HNX
           go_wp2_with fail
           go_roundw
           case rel => exact ⟨_, _, _, _, ⟨i + 1, by omega, n3, by omega, by go_num, HTR, HI3⟩, rfl, rfl, rfl, rfl⟩
           case measure => (try simp [intOf]); omega
         ·have hd : (decide (0 ≤ lat) && decide (lat < (s.ls.length : Int))) = false := by
           rw [Bool.and_eq_false_iff]
           by_cases e : 0 ≤ lat
           ·right; exact zF (fun h => hh ⟨e, h⟩)
           ·left; exact zF e
          rw [hd] at HHL
          rw [hd, Bool.false_and] at htv
          have HFA := zh (HBD.out htv)
          clear htv hd
          refine wp_region_ord (fun W : World => But (fun j => j = B) w9.drew W) [(0, true), (1, true), (2, false), (3, true), (4, true), (5, true), (6, true), (7, true), (8, true), (9, true), (10, true), (11, true), (12, true), (13, true), (14, true), (15, true), (16, true), (17, false), (18, true), (19, true)] (by kernel_rfl) (by kernel_rfl) rfl (by kernel_rfl) HSd.out ?_
          iterate 2
           (refine wpOrd_step (zO rfl) ?_)
           (first
             | (refine wpOrd_skip (by rfl) ?_)
             | (refine wpOrd_take (by rfl) (take_row _ _ rfl w.heap.size rfl _ _ _ HS9.out Tryz.underlying25 rfl (by kernel_rfl)) ?_)
             | (refine wpOrd_take (by rfl) (take_row _ _ rfl gx rfl _ _ _ HX.out Tryz.underlying58 rfl (by kernel_rfl)) ?_)
             | (refine wpOrd_take (v := ?_) (by rfl) ?_ ?_; rotate_left 1; (intro wx hSx; go_simp; try with_reducible rfl)))
           (try simp only [Act.put, zA4, zA5, zA6])
          (refine wpOrd_solo (zO rfl) ?_)
          intro K hK
          go_simp
          go_at_call 32
          refine (HHL.out w9.drew).mono ?_
          rintro x w10 ⟨rfl, hb10⟩
          have HS10 := zh ((But.none_of hb10).weak (B := B))
          clear hb10
          refine hK.out _ _ HS10.out ?_
          clear hK K
          (try simp only [Act.put, zA4, zA5, zA6])
          iterate 14
           (refine wpOrd_step (zO rfl) ?_)
           (first
             | (refine wpOrd_skip (by rfl) ?_)
             | (refine wpOrd_take (v := ?_) (by rfl) ?_ ?_; rotate_left 1; (intro wx hSx; go_simp; try with_reducible rfl)))
           (try simp only [Act.put, zA4, zA5, zA6])
          (refine wpOrd_solo (zO rfl) ?_)
          intro K hK
          go_simp
          refine hK.out _ _ HS10.out ?_
          clear hK K
          (try simp only [Act.put, zA4, zA5, zA6])
          iterate 2
           (refine wpOrd_step (zO rfl) ?_)
           (first
             | (refine wpOrd_skip (by rfl) ?_)
             | (refine wpOrd_take (v := ?_) (by rfl) ?_ ?_; rotate_left 1; (intro wx hSx; go_simp; try with_reducible rfl)))
           (try simp only [Act.put, zA4, zA5, zA6])
          refine wpOrd_done ?_
          have HBF := zh (HBB.out _ HS10.out)
          clear HX HS9 HA9 HBB HC0 HC1 HQ9 HL9
          go_wp2_with fail
          exact HQ.out _ _ ⟨ret_eq (bool_eq HFA.out.symm), HBF.out⟩
        ·obtain rfl : i = N := by omega
         have HFA := zh (HOK2.out HF.out)
         go_wp2_with fail
         exact HQ.out _ _ ⟨ret_eq (bool_eq HFA.out.symm), HBWr.out⟩
  ·have HFA := zh (HNR.out h2)
   have hne : ((a.rs.length : Int) != (s.vs.length : Int)) = true := by rw [bne_iff_ne]; omega
   have heq : ((a.ls.length : Int) != (s.vs.length : Int)) = false := by rw [bne_eq_false_iff_eq]; omega
   clear HBAD HOK HNL HNR
   go_wp2_with fail
   exact HQ.out _ _ ⟨ret_eq (bool_eq HFA.out.symm), HB1.out⟩
 ·have HFA := zh (HNL.out h1)
  have hne : ((a.ls.length : Int) != (s.vs.length : Int)) = true := by rw [bne_iff_ne]; omega
  clear HBAD HOK HNL HNR
  go_wp2_with fail
  exact HQ.out _ _ ⟨ret_eq (bool_eq HFA.out.symm), HB1.out⟩
end
end Go.Proofs.YtnfndapgcpdcpaaGreatDoor
