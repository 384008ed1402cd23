/- Texts that all the claims need. Conditions: those that each states. -/

import Derived.Test.YtnfndapgcpdcpaaGreatDoorFa30
import Derived.Test.YtnfndapgcpdcpaaGreatDoorFa35
import Derived.Test.YtnfndapgcpdcpaaGreatDoorFa36
set_option linter.unusedSimpArgs false
set_option linter.unusedVariables false
set_option maxRecDepth 100000
set_option maxHeartbeats 40000000
namespace Go.Proofs.YtnfndapgcpdcpaaGreatDoor
section
open Go.RowKit RM Go.Maps LX TR TM SP
theorem text1_any18 (s : Sc) (gs : Nat) (k : Ky) (h0 : 0 ≤ k.1) (h1 : k.1 < s.ls.length) (w : World) (hJ : ScJ s gs w) :
 Calls Tryz.prog 41 #[kyV k, .pointer (some ⟨gs, 0, none⟩)] w fun e w' => e = .returned (.string (txS s k)) ∧ Below w.heap.size w w' := by
 obtain ⟨hS, hT, hg⟩ := hJ
 obtain ⟨a, e⟩ := k
 obtain ⟨i, rfl⟩ := Int.eq_ofNat_of_zero_le h0
 have hi : i < s.ls.length := by simp only at h1; omega
 have r0 := RowAt.new w 68 (kyC (((i : Nat) : Int), e)).toArray
 have hb : Below w.heap.size w (w.alloc (.cells (kyC (((i : Nat) : Int), e)).toArray 68)) := (zB _ _).alloc (zL _) _
 obtain ⟨b, o, hA, hbb, hc⟩ := hS.lats.at 3 (fun _ => rfl) (by omega) lat0 (i := i) hi
 have hsh := hS.sh _ (getD_mem' (d := lat0) hi)
 have HF : Hid (∀ W, Below w.heap.size w W → Calls Tryz.prog 42 #[.agg (sv (s.shp i).t (s.shp i).A (s.shp i).fs.length (s.shp i).c), .agg (uv e.1)] W fun x w' => x = .returned (.string (txS s (((i : Nat) : Int), e))) ∧ Below W.heap.size W w') := fun W h =>
  (stext_any (s.shp i).t (s.shp i).A (s.shp i).c (s.shp i).fs e.1 e.2 W (hT.below h) ((ShOk.facs hsh).below h)).mono fun x w' h2 => by
   obtain ⟨⟨str, h3, h4⟩, h5⟩ := h2
   exact ⟨h3.trans (congrArg (fun z => Ending.returned (Value.string z)) (txS_of (k := (((i : Nat) : Int), e)) h4)), h5⟩
 have HRS : Hid (∀ W, Below w.heap.size w W → W.rangeAt b (o + i * 3 + 1) [.bool (s.shp i).t, .slice (s.shp i).A (s.shp i).fs.length (s.shp i).c]) := fun W h => range_shp (range_below (hc i hi) h hbb)
 have hg1 : ∀ W, Below w.heap.size w W → W.cell? ⟨gs, 0, none⟩ = some (.slice (some ⟨b, o, none⟩) s.ls.length s.lc) := fun W h => by rw [← hA]; exact (hg.below h hg.lt).cell 0
 have HG := zh hg1
 have hsl : s.ls.length ≤ 65536 := hS.lfew
 clear hg1 hg hc hA hsh hS hT h0 h1 hbb
 refine cHid fun Q' hQ => ?_
 have HQ := zh hQ; clear hQ
 generalize txS s (((i : Nat) : Int), e) = R at *
 generalize s.shp i = sh at *
 generalize s.ls.length = N at *
 generalize s.lc = lc at *
 have hrk : ((w.alloc (.cells (kyC (((i : Nat) : Int), e)).toArray 68))).rangeAt w.heap.size 1 (elC e) := fun j u hu => (r0.cell (1 + j)).trans (by rw [Nat.add_comm]; unfold kyC; simpa using hu)
 have hk0 : ((w.alloc (.cells (kyC (((i : Nat) : Int), e)).toArray 68))).cell? ⟨w.heap.size, 0, none⟩ = some (.int .i64 i) := r0.cell 0
 have hszk : (w.alloc (.cells (kyC (((i : Nat) : Int), e)).toArray 68)).heap.size = w.heap.size + 1 := by simp
 show Calls Tryz.prog 41 #[.agg (kyC (((i : Nat) : Int), e)).toArray, .pointer (some ⟨gs, 0, none⟩)] w Q'
 clear r0
 generalize (kyC (((i : Nat) : Int), e)).toArray = ka at *
 go_enter Tryz.func41, Tryz.ntmps41
 go_upto_region 1 with fail
 change Code.wp _ _ _ _ (w.alloc (.cells ka 68))
 generalize w.alloc (.cells ka 68) = w1 at *
 have HK : Hid (∀ W, Below w1.heap.size w1 W → W.rangeAt w.heap.size 1 (elC e)) := fun W h => range_below hrk h (by omega)
 have HK0 : Hid (∀ W, Below w1.heap.size w1 W → W.cell? ⟨w.heap.size, 0, none⟩ = some (.int .i64 i)) := fun W h => (h.cell (p := ⟨w.heap.size, 0, none⟩) (by show w.heap.size < w1.heap.size; omega)).trans hk0
 have HB := zh hb
 have HW : Hid (∀ W, Below w1.heap.size w1 W → Below w.heap.size w W) := fun W h => HB.out.trans (h.mono HB.out.size)
 have HZ : Hid ((Tryz.prog.info? 41).map (·.size) = some (elC e).length) := by
  show _ = _
  rw [elC_len]; kernel_rfl
 clear hrk hk0 hszk hb
 have hib : (0 : Int) ≤ (i : Int) := by omega
 have hin : (i : Int) < (N : Int) := by omega
 have HS : Hid ((fun W : World => Below w1.heap.size w1 W) w1.drew) := (zB _ _).drew
 refine wp_region_ord (fun W : World => Below w1.heap.size w1 W) [(0, true), (1, true), (2, true), (3, true), (4, true), (5, true), (6, true), (7, true), (8, true), (9, false), (10, true)] (by kernel_rfl) (by kernel_rfl) rfl (by kernel_rfl) HS.out ?_
 iterate 9
  (refine wpOrd_step (zO rfl) ?_)
  (first
   | (refine wpOrd_skip (by rfl) ?_)
   | (refine wpOrd_take (by rfl) (take_mid _ _ rfl b _ rfl _ _ (fun W h => HRS.out W (HW.out W h)) Tryz.underlying53 rfl (by kernel_rfl)) ?_)
   | (refine wpOrd_take (by rfl) (take_mid _ _ rfl w.heap.size 1 rfl _ _ (fun W h => HK.out W h) Tryz.underlying41 rfl HZ.out) ?_)
   | (refine wpOrd_take (v := ?_) (by rfl) ?_ ?_; rotate_left 1; (intro wx hSx; have hc_0 := HG.out wx (HW.out wx hSx); have hc_1 := HK0.out wx hSx; go_simp; try with_reducible rfl)))
  (try simp only [Act.put, zA4, zA5, zA6])
 (refine wpOrd_solo (zO rfl) ?_)
 intro K hK
 go_simp
 go_at_call 42
 refine (HF.out _ (HW.out _ HS.out)).mono ?_
 rintro x w2 ⟨rfl, hb2⟩
 have HB2 := zh (HS.out.trans (hb2.mono HS.out.size))
 clear hb2
 refine hK.out _ _ HB2.out ?_
 clear hK K
 (try simp only [Act.put, zA4, zA5, zA6])
 (refine wpOrd_step (zO rfl) ?_)
 (refine wpOrd_take (v := ?_) (by rfl) ?_ ?_; rotate_left 1; (intro wx hSx; go_simp; try with_reducible rfl))
 (try simp only [Act.put, zA4, zA5, zA6])
 refine wpOrd_done ?_
 go_wp2_with fail
 exact HQ.out _ _ ⟨rfl, HW.out _ HB2.out⟩
end
section
open Go.RowKit RM Go.Maps LX TR TM SP
theorem atext_any (s : Sc) (a : As) (w : World) (hS : ScOk w s) (hT : Tab w) (ha : AsIn w a) (hfs : fsum a a.rs.length ≤ 1152921504606846976) (hvn : s.vs.length ≤ 1000) (hvs : ∀ v ∈ s.vs, v.1.size ≤ 1000) (hrr : ∀ r ∈ a.rs, r.l.length ≤ 1000 ∧ ∀ v ∈ r.l, v.s.size ≤ 1000) :
 Calls Tryz.prog 15 #[.agg (scv s), .agg (asv a)] w fun e w' => e = .returned (.string (textA s a)) ∧ Below w.heap.size w w' := by
 obtain ⟨rS, rA, hb⟩ := two_boxes w (scv s) (asv a) 25 29
 have hsz1 : ((w.alloc (.cells (scv s) 25)).alloc (.cells (asv a) 29)).heap.size = w.heap.size + 2 := by simp
 refine cHid fun Q' hQ => ?_
 have HQ := zh hQ; clear hQ
 have HNO : Hid (rightA s a = false → textA s a = ⟨#[]⟩) := fun h => by unfold textA; rw [h]; rfl
 have HYES : Hid (rightA s a = true → textA s a = joinB ((List.range s.vs.length).map (varT s a)) ⟨#[32]⟩) := fun h => by unfold textA; rw [if_pos h]
 have HRI : Hid (rightA s a = true → a.ls.length = s.vs.length ∧ a.rs.length = s.vs.length ∧ ∀ i, i < s.vs.length → rtT s a i = true) := fun h => by
  unfold rightA at h
  simp only [Bool.and_eq_true, decide_eq_true_eq, List.all_eq_true, List.mem_range] at h
  exact ⟨h.1, h.2.1, h.2.2⟩
 have HRG := zh (fun W (h : Below w.heap.size w W) => aright_any s a W (hS.below h) (hT.below h) (ha.below h) hfs (fun r hr v hv => by have := (hrr r hr).2 v hv; omega))
 have HJL := zh (varsT_len (s := s) (a := a) hvs hvn hrr)
 have HVLN := zh (fun i => valT_len (s := s) hrr i)
 have hll : s.ls.length ≤ 65536 := hS.lfew
 have HSOK := zh (fun W (h : Below w.heap.size w W) => hS.below h)
 have HTAB := zh (fun W (h : Below w.heap.size w W) => hT.below h)
 have HLAB := zh (fun W (h : Below w.heap.size w W) => ha.lab.below h)
 have HROW := zh (fun W (h : Below w.heap.size w W) => ha.rows.below h)
 have HVAR := zh (fun W (h : Below w.heap.size w W) => hS.vars.below h)
 have HVNM : Hid (∀ i, i < s.vs.length → (s.vs.getD i var0).1.size ≤ 1000) := fun i hi => hvs _ (getD_mem' hi)
 have HRIN : Hid (∀ i, i < a.rs.length → ∀ W, Below w.heap.size w W → Ls vlC W (a.rs.getD i rw0).A (a.rs.getD i rw0).l) := fun i hi W h => (ha.row _ (getD_mem' hi)).at_.below h
 have HRNM : Hid (∀ i, i < a.rs.length → (a.rs.getD i rw0).l.length ≤ 1000 ∧ ∀ v ∈ (a.rs.getD i rw0).l, v.s.size ≤ 1000) := fun i hi => hrr _ (getD_mem' hi)
 have HSUC : Hid (∀ i, i < a.rs.length → fsum a (i + 1) = fsum a i + (a.rs.getD i rw0).l.length) := fun i hi => fsum_succ a hi
 have HLE : Hid (∀ i, fsum a i ≤ 1152921504606846976) := fun i => zM (fsum_le a i) hfs
 clear hS hT ha hfs hvs hrr
 go_enter Tryz.func15, Tryz.ntmps15
 go_upto_region 1 with fail
 change Code.wp _ _ _ _ ((w.alloc (.cells (scv s) 25)).alloc (.cells (asv a) 29))
 generalize (w.alloc (.cells (scv s) 25)).alloc (.cells (asv a) 29) = w0 at *
 have HB0 := zh hb
 have HRS0 := zh rS
 have HRA0 := zh rA
 have HSZ0 := zh hsz1
 clear rS rA hb hsz1
 have HRG0 := zh (HRG.out w0 HB0.out)
 by_cases hra : rightA s a = true
 ·obtain ⟨h1, h2, hrt⟩ := HRI.out hra
  have HTX := zh (HYES.out hra)
  have HRT := zh hrt
  rw [hra] at HRG0
  clear hrt hra HNO HYES HRI HRG
  generalize textA s a = TXT at *
  generalize hN : s.vs.length = N at *
  have hMD := fun W => rs_made 41 #[.pointer (some ⟨w.heap.size, 0, none⟩)] W
  have HMD := zh hMD
  clear hMD
  go_upto_region 3 with (first
   | (refine wpList_loadS (by rfl) _ _ rfl w.heap.size rfl _ _ _ HRS0.out Tryz.underlying25 rfl (by kernel_rfl) ?_)
   | (refine wpList_loadS (by rfl) _ _ rfl (w.heap.size + 1) rfl _ _ _ HRA0.out Tryz.underlying29 rfl (by kernel_rfl) ?_)
   | (go_at_call 10; refine HRG0.out.mono ?_; rintro x w1 ⟨rfl, hb1⟩; have HB1 := zh (HB0.out.trans (hb1.mono HB0.out.size)); have HRS1 := zh (HRS0.out.below hb1 HRS0.out.lt); have HRA1 := zh (HRA0.out.below hb1 HRA0.out.lt); have HSZ1 := zh (zM (Nat.le_of_eq HSZ0.out.symm) hb1.size); clear hb1 HRG0 HRS0 HRA0 HSZ0 HB0))
  go_upto_region 4 with (go_at_call 40; refine (HMD.out w1).mono ?_; rintro e w5 hk; obtain ⟨rfl, k1, k2, k3, k4, k5⟩ := hk; have HB5 := zh k5; have HLO := zh k4; have HMP := zh k1; have HFN := zh k2; have HMM0 := zh (k3 68 (.agg #[.string ⟨#[]⟩]) (f_rs (txS s))); clear k1 k2 k3 k4 k5)
  have HRS5 := zh (HRS1.out.below HB5.out HRS1.out.lt)
  have HRA5 := zh (HRA1.out.below HB5.out HRA1.out.lt)
  have HBW5 := zh (HB1.out.trans (HB5.out.mono HB1.out.size))
  generalize hgB : w1.heap.size + 1 = B at *
  generalize hgM : w1.heap.size + 2 = gm at *
  generalize hgF : w1.heap.size = gf at *
  have hsz1 := HSZ1.out
  clear HSZ1
  have HMEM : Hid (MemoF (fun x => .string x) 81 #[.pointer (some ⟨gm, 0, none⟩), .pointer (some ⟨gf, 0, none⟩)] B (txS s) (RsI gm gf B 41 #[.pointer (some ⟨w.heap.size, 0, none⟩)] (txS s) (fun W => Below w.heap.size w W ∧ RowAt W w.heap.size 25 (scv s))) (s.ls.length : Int)) :=
   rs_memo (by omega) (fun _ _ => by kernel_rfl) (fun W W' h hb => ⟨h.1.trans (hb.below (fun k hk => by omega) h.1.size), h.2.but hb (by omega)⟩) fun k h0 h1 W h => text1_any18 s w.heap.size k h0 h1 W ⟨HSOK.out W h.1, HTAB.out W h.1, h.2⟩
  have HI5 : Hid ((RsI gm gf B 41 #[.pointer (some ⟨w.heap.size, 0, none⟩)] (txS s) (fun W => Below w.heap.size w W ∧ RowAt W w.heap.size 25 (scv s))) 0 w5) := ⟨HMP.out, HFN.out, HMM0.out, HBW5.out, HRS5.out⟩
  have hm5 := HMP.out.lt
  have hf5 := HFN.out.lt
  have hB5 := HMM0.out.lt
  have hs5 := HRS5.out.lt
  have HST : Hid (∀ n W W', (RsI gm gf B 41 #[.pointer (some ⟨w.heap.size, 0, none⟩)] (txS s) (fun W => Below w.heap.size w W ∧ RowAt W w.heap.size 25 (scv s))) n W → w5.heap.size ≤ W.heap.size → Below w5.heap.size W W' → (RsI gm gf B 41 #[.pointer (some ⟨w.heap.size, 0, none⟩)] (txS s) (fun W => Below w.heap.size w W ∧ RowAt W w.heap.size 25 (scv s))) n W') := fun n W W' h h1 h2 =>
   ⟨h.mp.below h2 hm5, h.fn.below h2 hf5, MMap.below h.mm h2 hB5, h.j.1.trans (h2.mono HBW5.out.size), h.j.2.below h2 hs5⟩
  have HST2 : Hid (∀ V, w5.heap.size ≤ V → ∀ n W W', (RsI gm gf B 41 #[.pointer (some ⟨w.heap.size, 0, none⟩)] (txS s) (fun W => Below w.heap.size w W ∧ RowAt W w.heap.size 25 (scv s))) n W → V ≤ W.heap.size → Below V W W' → (RsI gm gf B 41 #[.pointer (some ⟨w.heap.size, 0, none⟩)] (txS s) (fun W => Below w.heap.size w W ∧ RowAt W w.heap.size 25 (scv s))) n W') := fun V hV n W W' h h1 h2 => HST.out n W W' h (zM hV h1) (h2.mono hV)
  have s5 : w5.cell? ⟨w.heap.size, 1, none⟩ = some (.slice s.VA N s.vc) := by rw [← hN]; exact HRS5.out.cell 1
  have hBlo : w.heap.size + 2 ≤ B := by omega
  generalize RsI gm gf B 41 #[.pointer (some ⟨w.heap.size, 0, none⟩)] (txS s) (fun W => Below w.heap.size w W ∧ RowAt W w.heap.size 25 (scv s)) = I at *
  generalize hVAe : s.VA = VA at *
  clear HMP HFN HMM0 HLO HMD HRS1 HRA1 HB5 HB1 hgB hgM hgF hsz1 hm5 hf5 hs5
  go_wp2_with fail
  go_loopw [6, 19] (fun sv iv wr => ∃ i n' d : Nat, ∃ X : Option Addr, i ≤ N ∧ n' ≤ i + fsum a i ∧ i ≤ d ∧ sv = .slice X i d ∧ iv = .int .i64 i ∧ Hid (wr.ownsRow w5.heap.size 9 1 (.slice X i d) i (((List.range i).map (varT s a)).map Value.string)) ∧ Hid (I n' wr) ∧ Hid (But (fun j => j = B) w5 wr)) (fun sv iv _ => N - (intOf iv).toNat)
  case atStart => exact ⟨0, 0, 0, none, by omega, by omega, by omega, rfl, rfl, ⟨rfl, .inl ⟨rfl, rfl⟩⟩, HI5, But.refl _ _⟩
  case round =>
   clear HI5 s5
   obtain ⟨i, n', d, X, hi, hn', hid, rfl, rfl, HO, HI, HW⟩ := hrel
   have HBWr := zh (HBW5.out.trans (HW.out.below (B := w.heap.size) (fun k hk => by omega) HBW5.out.size))
   by_cases hlt : i < N
   ·obtain ⟨vb, vo, hVA, hvb, hvc⟩ := (HVAR.out wr HBWr.out).at 3 (fun _ => rfl) (by omega) var0 (i := i) (by rw [hN]; exact hlt)
    have HVR := zh (hvc i (by rw [hN]; exact hlt))
    have htv : rtT s a i = (hasL s (s.vs.getD i var0) && vlB (fitS s) (s.vs.getD i var0).2.1 (s.vs.getD i var0).2.2 (a.ls.getD i el0) (a.rs.getD i rw0).l) := rfl
    rw [HRT.out i hlt] at htv
    have hvt : varT s a i = (s.vs.getD i var0).1 ++ ⟨#[61]⟩ ++ valT s a i := rfl
    have hvv : valT s a i = if (s.vs.getD i var0).2.1 = 1 then txS s ((s.vs.getD i var0).2.2, a.ls.getD i el0) else rowT (txS s) (s.vs.getD i var0).2.2 (a.rs.getD i rw0).l := rfl
    have hvlen := HVLN.out i
    have hvns := HVNM.out i (by omega)
    have hsu := HSUC.out i (by omega)
    have hle := HLE.out (i + 1)
    have HRIi := zh (HRIN.out i (by omega))
    have HRNi := zh (HRNM.out i (by omega))
    obtain ⟨lb, lo, hLA, hlb, hlc⟩ := (HLAB.out w (zB _ _)).at 8 elC_len (by omega) el0 (i := i) (by omega)
    have HLR : Hid (∀ W, Below w.heap.size w W → W.rangeAt lb (lo + i * 8) (elC (a.ls.getD i el0))) := fun W h => range_below (hlc i (by omega)) h hlb
    obtain ⟨qb, qo, hRA, hqb, hqc⟩ := (HROW.out w (zB _ _)).at 1 rwC_len (by omega) rw0 (i := i) (by omega)
    have HQR : Hid (∀ W, Below w.heap.size w W → W.cell? ⟨qb, qo + i, none⟩ = some (.slice (a.rs.getD i rw0).A (a.rs.getD i rw0).l.length (a.rs.getD i rw0).c)) := fun W h => by
     have := range_below (hqc i (by omega)) h hqb 0 _ rfl
     simpa using this
    clear hvc hlc hqc
    have HCL := zh (fun W hn h0 h1 (hW : I n' W) => HMEM.out.call n' W ((s.vs.getD i var0).2.2, a.ls.getD i el0) hn h0 h1 hW)
    generalize hva9 : valT s a i = va9 at *
    have HVA9 := zh hva9
    clear hva9
    generalize hgt : txS s ((s.vs.getD i var0).2.2, a.ls.getD i el0) = tx9 at *
    clear hgt
    generalize a.ls.getD i el0 = le at *
    generalize a.rs.getD i rw0 = rr at *
    generalize s.vs.getD i var0 = vv at *
    obtain ⟨vn, kind, lat⟩ := vv
    obtain ⟨rA, rc, rl⟩ := rr
    simp only at htv hsu HRIi HRNi HQR hvt hvv hvns
    generalize hf1 : fsum a (i + 1) = fs1 at *
    generalize hf0 : fsum a i = fs0 at *
    have HVRe : Hid (wr.rangeAt vb (vo + i * 3) [.string vn, .int .i64 kind, .int .i64 lat]) := HVR.out
    clear HVR
    have hhl : hasL s (vn, kind, lat) = (decide (0 ≤ lat) && decide (lat < (s.ls.length : Int))) := rfl
    rw [hhl] at htv
    have htv2 := Bool.and_eq_true_iff.1 htv.symm
    have htv3 := Bool.and_eq_true_iff.1 htv2.1
    have hl0 : 0 ≤ lat := of_decide_eq_true htv3.1
    have hl1 : lat < (s.ls.length : Int) := of_decide_eq_true htv3.2
    have hkd : kind = 1 ∨ kind = 2 := by
     have h := htv2.2
     unfold vlB at h
     by_cases e1 : kind = 1
     ·exact .inl e1
     ·by_cases e2 : kind = 2
      ·exact .inr e2
      ·rw [if_neg e1, if_neg e2] at h
       cases h
    have HVT := zh hvt
    have HVV := zh hvv
    clear htv htv2 htv3 hhl hvt hvv
    have r9 := RowAt.new wr 58 #[.string vn, .int .i64 kind, .int .i64 lat]
    have hb9 : Below wr.heap.size wr (wr.alloc (.cells #[.string vn, .int .i64 kind, .int .i64 lat] 58)) := (zB _ _).alloc (zL _) _
    subst hVA
    go_upto_region 9 with (refine wpList_ldIn (by rfl) _ _ rfl vb (vo + i * 3) rfl _ _ HVRe.out Tryz.underlying58 rfl (by kernel_rfl) ?_)
    change Code.wp _ _ _ _ (wr.alloc (.cells #[.string vn, .int .i64 kind, .int .i64 lat] 58))
    generalize hgx : wr.heap.size = gx at *
    have hBx : B < gx := by rw [← hgx]; exact HMEM.out.lt _ _ HI.out
    generalize wr.alloc (.cells #[.string vn, .int .i64 kind, .int .i64 lat] 58) = w9 at *
    have hbw : Below wr.heap.size wr w9 := by rw [hgx]; exact hb9
    have HBT : Hid (But (fun _ => False) wr w9) := But.none_of hbw
    have HI9 := zh (HMEM.out.but _ _ _ HI.out HBT.out)
    have HW9 := zh (HW.out.trans HBT.out.weak)
    have HX9 := zh r9
    have HO9 : Hid (w9.drew.ownsRow w5.heap.size 9 1 (.slice X i d) i (((List.range i).map (varT s a)).map Value.string)) := own_sameV HO.out fun k hk _ => hbw.block k hk
    have k1 : w9.cell? ⟨gx, 1, none⟩ = some (.int .i64 kind) := r9.cell 1
    have HX : Hid (∀ W, But (fun j => j = B) w9.drew W → RowAt W gx 58 #[.string vn, .int .i64 kind, .int .i64 lat]) := fun W h => HX9.out.drew.but h (by omega)
    have HS9 : Hid (∀ W, But (fun j => j = B) w9.drew W → RowAt W w.heap.size 25 (scv s)) := fun W h => (HRS5.out.but (HW9.out.drew.trans h) (by omega))
    have HA9 : Hid (∀ W, But (fun j => j = B) w9.drew W → RowAt W (w.heap.size + 1) 29 (asv a)) := fun W h => (HRA5.out.but (HW9.out.drew.trans h) (by omega))
    have HBB : Hid (∀ W, But (fun j => j = B) w9.drew W → Below w.heap.size w W) := fun W h => HBW5.out.trans ((HW9.out.drew.trans h).below (fun k hk => by omega) HBW5.out.size)
    have HC0 : Hid (∀ W, But (fun j => j = B) w9.drew W → W.cell? ⟨w.heap.size + 1, 0, none⟩ = some (.slice (some ⟨lb, lo, none⟩) N a.lc)) := fun W h => by rw [← hLA, ← h1]; exact (HA9.out W h).cell 0
    have HC1 : Hid (∀ W, But (fun j => j = B) w9.drew W → W.cell? ⟨w.heap.size + 1, 1, none⟩ = some (.slice (some ⟨qb, qo, none⟩) N a.rc)) := fun W h => by rw [← hRA, ← h2]; exact (HA9.out W h).cell 1
    have HQ9 : Hid (∀ W, But (fun j => j = B) w9.drew W → W.cell? ⟨qb, qo + i, none⟩ = some (.slice rA rl.length rc)) := fun W h => HQR.out W (HBB.out W h)
    have HL9 : Hid (∀ W, But (fun j => j = B) w9.drew W → W.rangeAt lb (lo + i * 8) (elC le)) := fun W h => HLR.out W (HBB.out W h)
    have HI9d := zh (HMEM.out.but _ _ _ HI9.out (But.refl _ _).drew)
    have hib : (0 : Int) ≤ (i : Int) := by omega
    have hin : (i : Int) < (N : Int) := by omega
    have hcat1 : ¬ 9223372036854775807 < vn.size + 1 := by omega
    have HSd : Hid ((fun W : World => But (fun j => j = B) w9.drew W) w9.drew) := But.refl _ _
    clear hb9 hbw HBT hgx r9 HVRe HX9 HI9 HLR HQR HI HO
    rcases hkd with rfl | rfl
    ·rw [if_pos rfl] at HVV
     have hvs9 : ¬ 9223372036854775807 < vn.size + 1 + tx9.size := by have h := HVV.out; rw [h] at hvlen; omega
     have hvs9' : ¬ 9223372036854775807 < (vn ++ ⟨#[61]⟩ : ByteArray).size + tx9.size := by rw [ByteArray.size_append]; exact hvs9
     have HCL9 := zh (HCL.out w9.drew (by unfold maxLen; omega) hl0 hl1 HI9d.out)
     obtain ⟨le, hle8⟩ := le
     obtain ⟨e0, e1, e2, e3, e4, e5, e6, e7, rfl⟩ := ew_lit hle8
     have hkv : kyV (lat, ⟨[e0, e1, e2, e3, e4, e5, e6, e7], hle8⟩) = .agg #[.int .i64 lat, .int .u64 e0, .int .u64 e1, .int .u64 e2, .int .u64 e3, .int .u64 e4, .int .u64 e5, .int .u64 e6, .int .u64 e7] := rfl
     rw [hkv] at HCL9
     have HL8 : Hid (∀ W, But (fun j => j = B) w9.drew W → W.rangeAt lb (lo + i * 8) [.int .u64 e0, .int .u64 e1, .int .u64 e2, .int .u64 e3, .int .u64 e4, .int .u64 e5, .int .u64 e6, .int .u64 e7]) := HL9.out
     rw [HVV.out] at HVT
     clear hkv HCL HVV hvlen
     go_upto_region 10 with fail
     refine wp_region_ord (fun W : World => But (fun j => j = B) w9.drew W) [(0, true), (1, true), (2, true), (3, true), (4, true), (5, true), (6, true), (7, true), (8, true), (9, false), (10, true)] (by kernel_rfl) (by kernel_rfl) rfl (by kernel_rfl) HSd.out ?_
     iterate 9
          (refine wpOrd_step (zO rfl) ?_)
          (first
           | (refine wpOrd_skip (by rfl) ?_)
           | (refine wpOrd_take (by rfl) (take_mid _ _ rfl lb _ rfl _ _ HL8.out Tryz.underlying41 rfl (by kernel_rfl)) ?_)
           | (refine wpOrd_take (v := ?_) (by rfl) ?_ ?_; rotate_left 1; (intro wx hSx; have hc_0 := HC0.out wx hSx; have hc_1 := (fun W h => (HX.out W h).cell 2) wx hSx; go_simp; try with_reducible rfl)))
          (try simp only [Act.put, zA4, zA5, zA6])
     (refine wpOrd_solo (zO rfl) ?_)
     intro K hK
     go_simp
     refine HCL9.out.mono ?_
     rintro x w11 ⟨rfl, hI11, hB11⟩
     have HI11 := zh hI11
     have HS11 := zh (HSd.out.trans hB11)
     clear hI11 hB11
     refine hK.out _ _ HS11.out ?_
     clear hK K
     (try simp only [Act.put, zA4, zA5, zA6])
     iterate 1
          (refine wpOrd_step (zO rfl) ?_)
          (first
           | (refine wpOrd_skip (by rfl) ?_)
           | (refine wpOrd_take (v := ?_) (by rfl) ?_ ?_; rotate_left 1; (intro wx hSx; go_simp; try with_reducible rfl)))
          (try simp only [Act.put, zA4, zA5, zA6])
     refine wpOrd_done ?_
     clear HCL9 HL8
     have HW11 := zh (HW9.out.drew.trans HS11.out)
     have kx : w11.cell? ⟨gx, 0, none⟩ = some (.string vn) := (HX.out w11 HS11.out).cell 0
     have HO11 := zh (own_sameV HO9.out fun k hk hv => HS11.out.block k (by simpa using hk) (by have := (HO9.out.lt k hv).1; omega))
     have hb12 : Below w11.heap.size w11 (w11.alloc (.cells #[.string (vn ++ ⟨#[61]⟩ ++ tx9)] 9)) := (zB _ _).alloc (zL _) _
     have HOA : Hid ((w11.alloc (.cells #[.string (vn ++ ⟨#[61]⟩ ++ tx9)] 9)).ownsRow w5.heap.size 9 1 (.slice X i d) i (((List.range i).map (varT s a)).map Value.string)) := own_sameV HO11.out fun k hk _ => hb12.block k hk
     have HRN := zh (RowAt.new w11 9 #[.string (vn ++ ⟨#[61]⟩ ++ tx9)])
     have HB12 := zh hb12
     clear hb12 HX HS9 HA9 HBB HC0 HC1 HQ9 HL9 HO11
     go_wp2_with (refine wpList_moreS _ rfl _ _ 59 rfl 9 (.string ⟨#[]⟩) 1 16 Tryz.underlying59 infoStrV rfl (by decide) w5.heap.size X i d (((List.range i).map (varT s a)).map Value.string) rfl HOA.out w11.heap.size [.string (vn ++ ⟨#[61]⟩ ++ tx9)] rfl rfl (fun j u hu => (HRN.out.cell j).trans (by simpa using hu)) (fun u hu => by rw [List.mem_singleton] at hu; subst hu; rfl) (by unfold maxLen; omega) (by omega) (zM HW11.out.size HB12.out.size) ?_; intro A' c' w12 hown' hbe hgr _; have HWN := zh hown'; have HBE := zh hbe; have HGR := zh hgr; clear hown' hbe hgr)
     have HI12 := zh (HST.out _ _ _ (HMEM.out.but _ _ _ HI11.out (But.none_of HB12.out)) (zM HW11.out.size HB12.out.size) HBE.out)
     have HW12 : Hid (But (fun j => j = B) w5 w12) := by
          have h1 := HW11.out.trans ((But.none_of HB12.out).weak (B := B))
          exact ⟨HBE.out.os.trans h1.os, HBE.out.tape.trans h1.tape, HBE.out.output.trans h1.output, zM h1.size HGR.out.size, fun k hk hne => (HBE.out.block k hk).trans (h1.block k hk hne)⟩
     have HO12 : Hid (w12.ownsRow w5.heap.size 9 1 (.slice A' (i + 1) c') (i + 1) (((List.range (i + 1)).map (varT s a)).map Value.string)) := by
          show World.ownsRow _ _ _ _ _ _ _
          rw [range_mapS, HVT.out, List.map_append]
          exact HWN.out
     have hcap : i + 1 ≤ c' := by
          obtain ⟨A9, c9, hv, hc9, _⟩ := own_form HWN.out
          injection hv with _ _ h3
          omega
     clear HWN HBE HGR HOA HRN HB12 HI11 HW11 HS11 kx
     go_roundw
     case rel => exact ⟨i + 1, n' + 1, c', A', by omega, by omega, hcap, rfl, by go_num, HO12, HI12, HW12⟩
     case measure => (try simp [intOf]); omega
    ·rw [if_neg (by decide)] at HVV
     have HRT9 := zh (rowText_any HMEM.out lat hl0 hl1 rA rc rl n' w9.drew (by unfold maxLen; omega) HRNi.out.1 HRNi.out.2 (fun k => txS_len s k) (fun W hW => HRIi.out W (HBW5.out.trans ((HW9.out.drew.mono fun k hk => (show k = B ∨ w9.drew.heap.size ≤ k from .inl hk)).trans hW |>.below (fun k hk => by have h9 := HW9.out.drew.size; have h8 := HBW5.out.size; omega) HBW5.out.size))) HI9d.out (HST2.out _ HW9.out.drew.size))
     generalize rowT (txS s) lat rl = tx9 at *
     have hvs9 : ¬ 9223372036854775807 < vn.size + 1 + tx9.size := by have h := HVV.out; rw [h] at hvlen; omega
     have hvs9' : ¬ 9223372036854775807 < (vn ++ ⟨#[61]⟩ : ByteArray).size + tx9.size := by rw [ByteArray.size_append]; exact hvs9
     rw [HVV.out] at HVT
     clear HCL HVV hvlen
     go_upto_region 11 with fail
     refine wp_region_ord (fun W : World => But (fun j => j = B) w9.drew W) [(0, true), (1, true), (2, true), (3, true), (4, true), (5, true), (6, true), (7, true), (8, false), (9, true)] (by kernel_rfl) (by kernel_rfl) rfl (by kernel_rfl) HSd.out ?_
     iterate 8
          (refine wpOrd_step (zO rfl) ?_)
          (first
           | (refine wpOrd_skip (by rfl) ?_)
           | (refine wpOrd_take (v := ?_) (by rfl) ?_ ?_; rotate_left 1; (intro wx hSx; have hc_0 := HC1.out wx hSx; have hc_1 := (fun W h => (HX.out W h).cell 2) wx hSx; have hc_2 := HQ9.out wx hSx; go_simp; try with_reducible rfl)))
          (try simp only [Act.put, zA4, zA5, zA6])
     (refine wpOrd_solo (zO rfl) ?_)
     intro K hK
     go_simp
     go_at_call 43
     refine HRT9.out.mono ?_
     rintro x w11 ⟨rfl, ⟨n3, hn3, hI11⟩, hB11⟩
     have HI11 := zh hI11
     have HS11 := zh (HSd.out.trans hB11)
     clear hI11 hB11
     refine hK.out _ _ HS11.out ?_
     clear hK K
     (try simp only [Act.put, zA4, zA5, zA6])
     iterate 1
          (refine wpOrd_step (zO rfl) ?_)
          (first
           | (refine wpOrd_skip (by rfl) ?_)
           | (refine wpOrd_take (v := ?_) (by rfl) ?_ ?_; rotate_left 1; (intro wx hSx; go_simp; try with_reducible rfl)))
          (try simp only [Act.put, zA4, zA5, zA6])
     refine wpOrd_done ?_
     clear HRT9
     have HW11 := zh (HW9.out.drew.trans HS11.out)
     have kx : w11.cell? ⟨gx, 0, none⟩ = some (.string vn) := (HX.out w11 HS11.out).cell 0
     have HO11 := zh (own_sameV HO9.out fun k hk hv => HS11.out.block k (by simpa using hk) (by have := (HO9.out.lt k hv).1; omega))
     have hb12 : Below w11.heap.size w11 (w11.alloc (.cells #[.string (vn ++ ⟨#[61]⟩ ++ tx9)] 9)) := (zB _ _).alloc (zL _) _
     have HOA : Hid ((w11.alloc (.cells #[.string (vn ++ ⟨#[61]⟩ ++ tx9)] 9)).ownsRow w5.heap.size 9 1 (.slice X i d) i (((List.range i).map (varT s a)).map Value.string)) := own_sameV HO11.out fun k hk _ => hb12.block k hk
     have HRN := zh (RowAt.new w11 9 #[.string (vn ++ ⟨#[61]⟩ ++ tx9)])
     have HB12 := zh hb12
     clear hb12 HX HS9 HA9 HBB HC0 HC1 HQ9 HL9 HO11
     go_wp2_with (refine wpList_moreS _ rfl _ _ 59 rfl 9 (.string ⟨#[]⟩) 1 16 Tryz.underlying59 infoStrV rfl (by decide) w5.heap.size X i d (((List.range i).map (varT s a)).map Value.string) rfl HOA.out w11.heap.size [.string (vn ++ ⟨#[61]⟩ ++ tx9)] rfl rfl (fun j u hu => (HRN.out.cell j).trans (by simpa using hu)) (fun u hu => by rw [List.mem_singleton] at hu; subst hu; rfl) (by unfold maxLen; omega) (by omega) (zM HW11.out.size HB12.out.size) ?_; intro A' c' w12 hown' hbe hgr _; have HWN := zh hown'; have HBE := zh hbe; have HGR := zh hgr; clear hown' hbe hgr)
     have HI12 := zh (HST.out _ _ _ (HMEM.out.but _ _ _ HI11.out (But.none_of HB12.out)) (zM HW11.out.size HB12.out.size) HBE.out)
     have HW12 : Hid (But (fun j => j = B) w5 w12) := by
          have h1 := HW11.out.trans ((But.none_of HB12.out).weak (B := B))
          exact ⟨HBE.out.os.trans h1.os, HBE.out.tape.trans h1.tape, HBE.out.output.trans h1.output, zM h1.size HGR.out.size, fun k hk hne => (HBE.out.block k hk).trans (h1.block k hk hne)⟩
     have HO12 : Hid (w12.ownsRow w5.heap.size 9 1 (.slice A' (i + 1) c') (i + 1) (((List.range (i + 1)).map (varT s a)).map Value.string)) := by
          show World.ownsRow _ _ _ _ _ _ _
          rw [range_mapS, HVT.out, List.map_append]
          exact HWN.out
     have hcap : i + 1 ≤ c' := by
          obtain ⟨A9, c9, hv, hc9, _⟩ := own_form HWN.out
          injection hv with _ _ h3
          omega
     clear HWN HBE HGR HOA HRN HB12 HI11 HW11 HS11 kx
     go_roundw
     case rel => exact ⟨i + 1, n3, c', A', by omega, by omega, hcap, rfl, by go_num, HO12, HI12, HW12⟩
     case measure => (try simp [intOf]); omega
   ·obtain rfl : i = N := by omega
    have HSL : Hid (Sl wr wr.heap.size X (((List.range i).map (varT s a)).map Value.string)) := Sl.of_own HO.out
    have hlm : ((List.range i).map (varT s a)).length = i := by simp
    have HJN := zh (njoin_any X d ((List.range i).map (varT s a)) ⟨#[32]⟩ wr (by rw [hlm]; exact hid) (by rw [hlm]; omega) HJL.out HSL.out)
    rw [hlm] at HJN
    clear HSL HO hlm
    rw [← HTX.out] at HJN
    go_wp2_with (go_at_call 44; refine HJN.out.mono ?_; rintro e w2 ⟨rfl, hb2⟩; have HB2 := zh (HBWr.out.trans (hb2.mono HBWr.out.size)); clear hb2)
    exact HQ.out _ _ ⟨rfl, HB2.out⟩
 ·have hrf : rightA s a = false := by cases h : rightA s a; rfl; exact absurd h hra
  rw [hrf] at HRG0
  rw [HNO.out hrf] at HQ
  go_wp2_with (first
   | (refine wpList_loadS (by rfl) _ _ rfl w.heap.size rfl _ _ _ HRS0.out Tryz.underlying25 rfl (by kernel_rfl) ?_)
   | (refine wpList_loadS (by rfl) _ _ rfl (w.heap.size + 1) rfl _ _ _ HRA0.out Tryz.underlying29 rfl (by kernel_rfl) ?_)
   | (go_at_call 10; refine HRG0.out.mono ?_; rintro x w1 ⟨rfl, hb1⟩; have HB1 := zh (HB0.out.trans (hb1.mono HB0.out.size)); clear hb1))
  exact HQ.out _ _ ⟨rfl, HB1.out⟩
end
end Go.Proofs.YtnfndapgcpdcpaaGreatDoor
