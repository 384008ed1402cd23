/- Texts that all the claims need. Conditions: those that each states. -/

import Derived.Test.YtnfndapgcpdcpaaGreatDoorFa18
set_option linter.unusedSimpArgs false
set_option linter.unusedVariables false
set_option maxRecDepth 100000
set_option maxHeartbeats 40000000
namespace Go.Proofs.YtnfndapgcpdcpaaGreatDoor
section
open Go.RowKit RM Go.Maps
def vlB (b : Ky → Bool) (kind lat : Int) (e : El) (l : List Vl) : Bool := if kind = 1 then decide (l.length = 0) && b (lat, e) else if kind = 2 then decide (e = el0) && rvB b lat l else false
theorem two_boxes (w : World) (a b : Array Value) (t u : TypeId) :
 RowAt ((w.alloc (.cells a t)).alloc (.cells b u)) w.heap.size t a ∧ RowAt ((w.alloc (.cells a t)).alloc (.cells b u)) (w.heap.size + 1) u b ∧ Below w.heap.size w ((w.alloc (.cells a t)).alloc (.cells b u)) := by
 refine ⟨(RowAt.new w _ _).alloc _, ?_, ((zB _ _).alloc (zL _) _).alloc (by simp) _⟩
 have := RowAt.new (w.alloc (.cells a t)) u b
 rwa [show (w.alloc (.cells a t)).heap.size = w.heap.size + 1 by simp] at this
theorem avalid_any {G : FuncId} {gc : Array Value} {B : Nat} {b : Ky → Bool} {I : Nat → World → Prop} {L : Int} (hM : MemoF (fun x => .bool x) G gc B b I L) (vn : ByteArray) (kind lat : Int) (h0 : 0 ≤ lat) (h1 : lat < L) (e : El) (A : Option Addr) (c : Nat) (l : List Vl) (n : Nat) (w : World) (hn : n + l.length + 1 < maxLen) (hs : ∀ v ∈ l, v.s.size ≤ 4294967296)
 (hA : ∀ W, But (fun j => j = B) w W → Ls vlC W A l) (hI : I n w) :
 Calls Tryz.prog 33 #[.agg #[.string vn, .int .i64 kind, .int .i64 lat], .agg (elv e), .slice A l.length c, .func (.func G) #[] gc] w fun x w' => x = .returned (.bool (vlB b kind lat e l)) ∧ (∃ n', n' ≤ n + l.length + 1 ∧ I n' w') ∧ But (fun j => j = B) w w' := by
 refine cHid fun Q' hQ => ?_
 have HQ := zh hQ; clear hQ
 have HMM := zh hM; clear hM
 have hf := HMM.out.eq
 have HCL := zh (fun W (hW : I n W) => HMM.out.call n W (lat, e) (by omega) h0 h1 hW)
 have HRV := zh (fun W (hW : I n W) hB => rowValid_any HMM.out lat h0 h1 A c l n W (by omega) hs hB hW)
 have HA := zh hA
 have hvl : vlB b kind lat e l = if kind = 1 then decide (l.length = 0) && b (lat, e) else if kind = 2 then decide (e = el0) && rvB b lat l else false := rfl
 generalize vlB b kind lat e l = R at *
 generalize rvB b lat l = rv at *
 have heq : ∀ W, (binOp .eql 41 (.agg (uv e.1)) (.agg (uv el0.1))).run Tryz.prog W = .ok (.bool (decide (e = el0))) W := fun W => by
  rw [run_eql_elem e.2 el0.2, show decide (e = el0) = decide (e.1 = el0.1) by rw [Bool.eq_iff_iff]; simp only [decide_eq_true_eq]; exact el_ext]
 generalize decide (e = el0) = ez at *
 generalize hbk : b (lat, e) = bk at *
 clear hbk hA
 obtain ⟨e, he⟩ := e
 obtain ⟨e0, e1, e2, e3, e4, e5, e6, e7, rfl⟩ := ew_lit he
 have heq' : ∀ W, (binOp .eql 41 (.agg #[.int .u64 e0, .int .u64 e1, .int .u64 e2, .int .u64 e3, .int .u64 e4, .int .u64 e5, .int .u64 e6, .int .u64 e7]) (.agg #[.int .u64 0, .int .u64 0, .int .u64 0, .int .u64 0, .int .u64 0, .int .u64 0, .int .u64 0, .int .u64 0])).run Tryz.prog W = .ok (.bool ez) W := heq
 have hkv : kyV (lat, ⟨[e0, e1, e2, e3, e4, e5, e6, e7], he⟩) = .agg #[.int .i64 lat, .int .u64 e0, .int .u64 e1, .int .u64 e2, .int .u64 e3, .int .u64 e4, .int .u64 e5, .int .u64 e6, .int .u64 e7] := rfl
 rw [hkv] at HCL
 clear hkv heq
 show Calls Tryz.prog 33 #[.agg #[.string vn, .int .i64 kind, .int .i64 lat], .agg #[.int .u64 e0, .int .u64 e1, .int .u64 e2, .int .u64 e3, .int .u64 e4, .int .u64 e5, .int .u64 e6, .int .u64 e7], .slice A l.length c, .func (.func G) #[] gc] w Q'
 have HVL := zh hvl
 clear hvl hs hn
 generalize l.length = m at *
 obtain ⟨rV, rE, hb⟩ := two_boxes w #[.string vn, .int .i64 kind, .int .i64 lat] #[.int .u64 e0, .int .u64 e1, .int .u64 e2, .int .u64 e3, .int .u64 e4, .int .u64 e5, .int .u64 e6, .int .u64 e7] 58 41
 go_enter Tryz.func33, Tryz.ntmps33
 go_upto_region 1 with fail
 change Code.wp _ _ _ _ ((w.alloc (.cells #[.string vn, .int .i64 kind, .int .i64 lat] 58)).alloc (.cells #[.int .u64 e0, .int .u64 e1, .int .u64 e2, .int .u64 e3, .int .u64 e4, .int .u64 e5, .int .u64 e6, .int .u64 e7] 41))
 generalize (w.alloc (.cells #[.string vn, .int .i64 kind, .int .i64 lat] 58)).alloc (.cells #[.int .u64 e0, .int .u64 e1, .int .u64 e2, .int .u64 e3, .int .u64 e4, .int .u64 e5, .int .u64 e6, .int .u64 e7] 41) = w1 at *
 have k0 := rV.cell 1
 have k1 := rV.cell 2
 have HE := zh rE
 have HI1 := zh (HMM.out.but _ _ _ hI (But.none_of hb))
 have HB1 := zh ((But.none_of hb).weak (B := B))
 have HA1 := zh (fun W (h : But (fun j => j = B) w1 W) => HA.out W (HB1.out.trans h))
 clear rV rE hb HA hI
 by_cases hk1 : kind = 1
 ·subst hk1
  rw [if_pos rfl] at HVL
  by_cases hm0 : m = 0
  ·have hml : ((m : Int) == 0) = true := by rw [beq_iff_eq]; omega
   have HVB : Hid (R = bk) := by have := HVL.out; rw [this, zE hm0]; exact Bool.true_and _
   have HM0 := zh hm0
   clear HVL hm0
   go_wp2_with (refine wpList_loadS (by rfl) _ _ rfl (w.heap.size + 1) rfl _ _ _ HE.out Tryz.underlying41 rfl (by kernel_rfl) ?_)
   refine (HCL.out _ HI1.out).mono ?_
   rintro e w3 ⟨rfl, hI3, hB3⟩
   have HI3 := zh hI3
   have HB3 := zh (HB1.out.trans hB3)
   clear hI3 hB3
   go_wp2_with fail
   exact HQ.out _ _ ⟨by rw [HVB.out]; rfl, ⟨n + 1, by omega, HI3.out⟩, HB3.out⟩
  ·have hml : ((m : Int) == 0) = false := by rw [beq_eq_false_iff_ne]; omega
   have HVB : Hid (R = false) := by have := HVL.out; rw [this, zF hm0]; exact Bool.false_and _
   have HM0 := zh hm0
   clear HVL hm0
   go_wp2_with fail
   exact HQ.out _ _ ⟨by rw [HVB.out]; rfl, ⟨n, by omega, HI1.out⟩, HB1.out⟩
 ·rw [if_neg hk1] at HVL
  have hne1 : (kind == 1) = false := by rw [beq_eq_false_iff_ne]; exact hk1
  by_cases hk2 : kind = 2
  ·subst hk2
   rw [if_pos rfl] at HVL
   clear hne1 hk1
   cases ez
   ·have HVB : Hid (R = false) := HVL.out
    go_wp2_with (refine wpList_loadS (by rfl) _ _ rfl (w.heap.size + 1) rfl _ _ _ HE.out Tryz.underlying41 rfl (by kernel_rfl) ?_)
    exact HQ.out _ _ ⟨by rw [HVB.out]; rfl, ⟨n, by omega, HI1.out⟩, HB1.out⟩
   ·have HVB : Hid (R = rv) := HVL.out.trans (Bool.true_and _)
    go_wp2_with (first
     | (refine wpList_loadS (by rfl) _ _ rfl (w.heap.size + 1) rfl _ _ _ HE.out Tryz.underlying41 rfl (by kernel_rfl) ?_)
     | (go_at_call 72; refine (HRV.out w1 HI1.out HA1.out).mono ?_; rintro e w3 ⟨rfl, hI3, hB3⟩; have HI3 := zh hI3; have HB3 := zh (HB1.out.trans hB3); clear hI3 hB3))
    obtain ⟨n3, h3, hI3⟩ := HI3.out
    exact HQ.out _ _ ⟨by rw [HVB.out]; rfl, ⟨n3, by omega, hI3⟩, HB3.out⟩
  ·rw [if_neg hk2] at HVL
   have hne2 : (kind == 2) = false := by rw [beq_eq_false_iff_ne]; exact hk2
   have HVB := HVL
   go_wp2_with fail
   exact HQ.out _ _ ⟨by rw [HVB.out]; rfl, ⟨n, by omega, HI1.out⟩, HB1.out⟩
def Sc.shp (s : Sc) (i : Int) : Shp := (s.ls.getD i.toNat lat0).2
def fitS (s : Sc) (k : Ky) : Bool := fitsE (s.shp k.1).t (s.shp k.1).fs k.2.1
def ScJ (s : Sc) (gs : Nat) (W : World) : Prop := ScOk W s ∧ Tab W ∧ RowAt W gs 25 (scv s)
theorem range_shp {w : World} {b k : Nat} {x : ByteArray × Shp} (h : w.rangeAt b k (latC x)) : w.rangeAt b (k + 1) [.bool x.2.t, .slice x.2.A x.2.fs.length x.2.c] := fun j u hu => by
 have := h (j + 1) u (by unfold latC; rw [zA2]; exact hu)
 rw [← this]
 congr 2
 omega
end
section
open Go.RowKit RM Go.Maps
theorem zel_below (w : World) : Below w.heap.size w (w.alloc (.cells #[.int .u64 0, .int .u64 0, .int .u64 0, .int .u64 0, .int .u64 0, .int .u64 0, .int .u64 0, .int .u64 0] 41)) := (zB _ _).alloc (zL _) _
theorem zel_row (w : World) : RowAt (w.alloc (.cells #[.int .u64 0, .int .u64 0, .int .u64 0, .int .u64 0, .int .u64 0, .int .u64 0, .int .u64 0, .int .u64 0] 41)) w.heap.size 41 (elv el0) := by
 rw [elv_zero]
 exact RowAt.new w _ _
theorem Else.belowG {B g : Nat} {w0 w w' : World} (h : Else g w w') (hB : B ≤ g) (hb : Below B w0 w) : Below B w0 w' := hb.trans (h.below hB)
theorem get_any (A : Option Addr) (c : Nat) (xs : List Vl) (s : ByteArray) (w : World) (hl : xs.length ≤ maxLen) (hA : Ls vlC w A xs) :
 Calls Tryz.prog 22 #[.slice A xs.length c, .string s] w fun e w' => e = .returned (getR (getV xs s)) ∧ Below w.heap.size w w' := by
 have r0 := zel_row w
 have hb := zel_below w
 refine cHid fun Q' hQ => ?_
 have HQ := zh hQ; clear hQ
 have HI := zh (index_any A c xs s (w.alloc (.cells #[.int .u64 0, .int .u64 0, .int .u64 0, .int .u64 0, .int .u64 0, .int .u64 0, .int .u64 0, .int .u64 0] 41)) hl (hA.below hb))
 have hbd := ixV_lt xs s
 have hl' : xs.length ≤ 9223372036854775807 := hl
 clear hl
 by_cases h0 : 0 ≤ ixV xs s
 ·obtain ⟨k, hk⟩ := Int.eq_ofNat_of_zero_le h0
  have hv : getV xs s = ((xs.getD k vl0).e, true) := by rw [getV_hit h0, hk]; rfl
  rw [hv] at HQ
  rw [hk] at HI hbd
  have hkn : k < xs.length := by omega
  obtain ⟨b, o, rfl, hbb, hc⟩ := hA.at 9 vlC_len (by omega) vl0 (i := k) hkn
  have HE : Hid (∀ W, Below w.heap.size w W → W.rangeAt b (o + k * 9 + 1) (elC (xs.getD k vl0).e)) := fun W h => range_el (range_below (hc k hkn) h hbb)
  clear hc hA hv h0 hk
  generalize (xs.getD k vl0).e = q at *
  have HZ : Hid ((Tryz.prog.info? 41).map (·.size) = some (elC q).length) := by
   show _ = _
   rw [elC_len]; kernel_rfl
  have HINF := zh (elv_info q)
  have HSZ := zh (show (elv el0).size = (elv q).size by rw [elv_size, elv_size])
  have HONE := zh (elv_one q)
  generalize xs.length = n at *
  go_enter Tryz.func22, Tryz.ntmps22
  go_upto_region 1 with fail
  change Code.wp _ _ _ _ (w.alloc (.cells #[.int .u64 0, .int .u64 0, .int .u64 0, .int .u64 0, .int .u64 0, .int .u64 0, .int .u64 0, .int .u64 0] 41))
  generalize w.alloc (.cells #[.int .u64 0, .int .u64 0, .int .u64 0, .int .u64 0, .int .u64 0, .int .u64 0, .int .u64 0, .int .u64 0] 41) = w1 at *
  have HB := zh hb
  have HR0 := zh r0
  clear hb r0
  go_wp2_with (first
   | (go_at_call 61; refine HI.out.mono ?_; rintro e w2 ⟨rfl, hb2⟩; have HB2 := zh (HB.out.trans (hb2.mono HB.out.size)); have HR2 := zh (HR0.out.below hb2 HR0.out.lt); have HE2 := zh (HE.out w2 HB2.out); clear hb2 HE)
   | (refine wpList_ldIn (by rfl) _ _ rfl b (o + k * 9 + 1) rfl _ _ HE2.out Tryz.underlying41 rfl HZ.out ?_)
   | (refine wpList_stRow (by rfl) _ _ _ rfl w.heap.size (elv q) rfl rfl _ _ HR2.out HINF.out HSZ.out HONE.out ?_; intro w3 hr3 he3; have HR3 := zh hr3; have HB3 := zh (he3.belowG (zL _) HB2.out); clear hr3 he3))
  (try rw [Exit.noGoto_ret])
  exact bodyPost_ret (ret_cell_slot rfl _ _ (.bool true) w.heap.size _ _ (0, 0) _ rfl rfl HR3.out Tryz.underlying41 rfl HINF.out) rfl (HQ.out _ _ ⟨rfl, HB3.out⟩)
 ·obtain hk : ixV xs s = -1 := by omega
  have hv : getV xs s = (el0, false) := getV_miss (by omega)
  rw [hv] at HQ
  rw [hk] at HI
  clear hv hk h0 hA hbd
  have HINF := zh (elv_info el0)
  have HONE := zh (elv_one el0)
  have HZV : Hid ((Value.agg #[.int .u64 0, .int .u64 0, .int .u64 0, .int .u64 0, .int .u64 0, .int .u64 0, .int .u64 0, .int .u64 0]) = .agg (elv el0)) := by
   show _ = _
   rw [elv_zero]
  generalize xs.length = n at *
  go_enter Tryz.func22, Tryz.ntmps22
  go_upto_region 1 with fail
  change Code.wp _ _ _ _ (w.alloc (.cells #[.int .u64 0, .int .u64 0, .int .u64 0, .int .u64 0, .int .u64 0, .int .u64 0, .int .u64 0, .int .u64 0] 41))
  generalize w.alloc (.cells #[.int .u64 0, .int .u64 0, .int .u64 0, .int .u64 0, .int .u64 0, .int .u64 0, .int .u64 0, .int .u64 0] 41) = w1 at *
  have HB := zh hb
  have HR0 := zh r0
  clear hb r0
  go_wp2_with (first
   | (go_at_call 61; refine HI.out.mono ?_; rintro e w2 ⟨rfl, hb2⟩; have HB2 := zh (HB.out.trans (hb2.mono HB.out.size)); have HR2 := zh (HR0.out.below hb2 HR0.out.lt); clear hb2)
   | (refine wpList_stRow (by rfl) _ _ _ rfl w.heap.size (elv el0) rfl HZV.out _ _ HR2.out HINF.out rfl HONE.out ?_; intro w3 hr3 he3; have HR3 := zh hr3; have HB3 := zh (he3.belowG (zL _) HB2.out); clear hr3 he3))
  (try rw [Exit.noGoto_ret])
  exact bodyPost_ret (ret_cell_slot rfl _ _ (.bool false) w.heap.size _ _ (0, 0) _ rfl rfl HR3.out Tryz.underlying41 rfl HINF.out) rfl (HQ.out _ _ ⟨rfl, HB3.out⟩)
theorem qget18_any (A : Option Addr) (c : Nat) (xs : List Vl) (s : ByteArray) (w : World) (hl : xs.length ≤ maxLen) (hA : Ls vlC w A xs) :
 Calls Tryz.prog 23 #[.slice A xs.length c, .string s] w fun e w' => e = .returned (getR (getV xs s)) ∧ Below w.heap.size w w' := by
 have r0 := zel_row w
 have hb := zel_below w
 refine cHid fun Q' hQ => ?_
 have HQ := zh hQ; clear hQ
 have HHIT : Hid (∀ k, k < xs.length → (xs.getD k vl0).s = s → (∀ j, j < k → (xs.getD j vl0).s ≠ s) → getV xs s = ((xs.getD k vl0).e, true)) := fun k hk h1 h2 => by
  have : ixV xs s = k := NM.fst_hit hk (zE h1) fun j hj => zF (h2 j hj)
  rw [getV_hit (by omega), this]; rfl
 have HMISS : Hid ((∀ j, j < xs.length → (xs.getD j vl0).s ≠ s) → getV xs s = (el0, false)) := fun h2 => by
  have : ixV xs s = -1 := NM.fst_miss fun j hj => zF (h2 j hj)
  exact getV_miss (by omega)
 have hl' : xs.length ≤ 9223372036854775807 := hl
 clear hl
 have HA := zh (hA.below hb)
 clear hA
 have HZV : Hid ((Value.agg #[.int .u64 0, .int .u64 0, .int .u64 0, .int .u64 0, .int .u64 0, .int .u64 0, .int .u64 0, .int .u64 0]) = .agg (elv el0)) := by
  show _ = _
  rw [elv_zero]
 have HINF0 := zh (elv_info el0)
 have HONE0 := zh (elv_one el0)
 generalize getV xs s = G at *
 generalize hn : xs.length = n at *
 have HN := zh hn; clear hn
 go_enter Tryz.func23, Tryz.ntmps23
 go_upto_region 1 with fail
 change Code.wp _ _ _ _ (w.alloc (.cells #[.int .u64 0, .int .u64 0, .int .u64 0, .int .u64 0, .int .u64 0, .int .u64 0, .int .u64 0, .int .u64 0] 41))
 generalize w.alloc (.cells #[.int .u64 0, .int .u64 0, .int .u64 0, .int .u64 0, .int .u64 0, .int .u64 0, .int .u64 0, .int .u64 0] 41) = w1 at *
 have HB := zh hb
 have HR0 := zh r0
 clear hb r0
 go_wp2_with fail
 go_loop [6] (fun iv => ∃ i : Nat, i ≤ n ∧ iv = .int .i64 i ∧ Hid (∀ j, j < i → (xs.getD j vl0).s ≠ s)) (fun iv => n - (intOf iv).toNat)
 case atStart => exact ⟨0, by omega, rfl, fun j hj => by omega⟩
 case round =>
  obtain ⟨i, hi, rfl, HF⟩ := hrel
  by_cases hlt : i < n
  ·obtain ⟨b, o, rfl, hbb, hc⟩ := HA.out.at 9 vlC_len (by omega) vl0 (i := i) (by rw [HN.out]; exact hlt)
   have hr := hc i (by rw [HN.out]; exact hlt)
   have hs := range_s hr
   have HE := zh (range_el hr)
   clear hc hr
   have heq := NM.str_eq (xs.getD i vl0).s s
   have HH := zh (HHIT.out i hlt)
   have HNX : Hid ((xs.getD i vl0).s ≠ s → ∀ j, j < i + 1 → (xs.getD j vl0).s ≠ s) := fun h j hj => by
        by_cases e : j = i
        ·rw [e]; exact h
        ·exact HF.out j (by omega)
   generalize xs.getD i vl0 = x at *
   by_cases hx : x.s = s
   ·have HG := zh (HH.out hx HF.out)
    rw [show decide (x.s = s) = true from zE hx] at heq
    clear HH HF HNX hx
    generalize x.e = q at *
    generalize x.s = t at *
    have HZ : Hid ((Tryz.prog.info? 41).map (·.size) = some (elC q).length) := by
     show _ = _
     rw [elC_len]; kernel_rfl
    have HINF := zh (elv_info q)
    have HSZ := zh (show (elv el0).size = (elv q).size by rw [elv_size, elv_size])
    have HONE := zh (elv_one q)
    go_wp2_with (first
     | (refine wpList_ldIn (by rfl) _ _ rfl b (o + i * 9 + 1) rfl _ _ HE.out Tryz.underlying41 rfl HZ.out ?_)
     | (refine wpList_stRow (by rfl) _ _ _ rfl w.heap.size (elv q) rfl rfl _ _ HR0.out HINF.out HSZ.out HONE.out ?_; intro w3 hr3 he3; have HR3 := zh hr3; have HB3 := zh (he3.belowG (zL _) HB.out); clear hr3 he3))
    (try rw [Exit.noGoto_ret])
    exact bodyPost_ret (ret_cell_slot rfl _ _ (.bool true) w.heap.size _ _ (0, 0) _ rfl rfl HR3.out Tryz.underlying41 rfl HINF.out) rfl (HQ.out _ _ ⟨by rw [HG.out]; rfl, HB3.out⟩)
   ·have HNX2 := zh (HNX.out hx)
    rw [show decide (x.s = s) = false from zF hx] at heq
    clear HH HF HNX hx HE
    generalize x.s = t at *
    go_wp2_with fail
    go_round
    case rel => exact ⟨i + 1, by omega, by go_num, HNX2⟩
    case measure => simp [intOf]; omega
  ·obtain rfl : i = n := by omega
   have HG := zh (HMISS.out HF.out)
   go_wp2_with (first
        | (refine wpList_stRow (by rfl) _ _ _ rfl w.heap.size (elv el0) rfl HZV.out _ _ HR0.out HINF0.out rfl HONE0.out ?_; intro w3 hr3 he3; have HR3 := zh hr3; have HB3 := zh (he3.belowG (zL _) HB.out); clear hr3 he3))
   (try rw [Exit.noGoto_ret])
   exact bodyPost_ret (ret_cell_slot rfl _ _ (.bool false) w.heap.size _ _ (0, 0) _ rfl rfl HR3.out Tryz.underlying41 rfl HINF0.out) rfl (HQ.out _ _ ⟨by rw [HG.out]; rfl, HB3.out⟩)
end
section
open Go.RowKit RM Go.Maps
theorem int_law : Keyed Tryz.prog 3 := int_keyed Tryz.underlying3
theorem int_of (a : Int) (h0 : 0 ≤ a) (h1 : a ≤ 4611686018427387904) : keyOf Tryz.prog 3 (.int .i64 a) = some (.int .i64 a) := keyOf_int_mk Tryz.underlying3 (WalkArith.wf_i64 (by omega))
def zEq : Value := .agg #[.int .u64 0, .int .u64 0, .int .u64 0, .int .u64 0, .int .u64 0, .int .u64 0, .int .u64 0, .int .u64 0]
noncomputable def f_re (b : Int → El) : Value → Value := liftV (fun a : Int => Value.int .i64 a) fun a => .agg (elv (b a))
def M_re (b : Int → El) (W : World) (B n : Nat) : Prop := MMap 3 zEq (f_re b) W B n
theorem re1_any {F : FuncId} {caps : Array Value} {b : Int → El} {J : World → Prop} (gm gf B n : Nat) (k : Int) (h0 : 0 ≤ k) (h1 : k ≤ 4611686018427387904) (w : World) (hgm : RowAt w gm 103 #[.map (some B)]) (hgf : RowAt w gf 73 #[.func (.func F) #[] caps])
 (hM : M_re b w B n) (hn : n < maxLen) (hf : ∀ args w, (callFunc F args).run Tryz.prog w = .ok (.enter F args) w) (hJ : ∀ W W', J W → But (fun k => k = B) W W' → J W') (hj : J w)
 (H : ∀ W, J W → Calls Tryz.prog F (#[.int .i64 k] ++ caps) W fun e W' => e = .returned (.agg (elv (b k))) ∧ Below W.heap.size W W') :
 Calls Tryz.prog 74 #[.int .i64 k, .pointer (some ⟨gm, 0, none⟩), .pointer (some ⟨gf, 0, none⟩)] w fun e w' => e = .returned (.agg (elv (b k))) ∧ M_re b w' B (n + 1) ∧ J w' ∧ But (fun k => k = B) w w' := by
 have r0 := zel_row w
 have hb := zel_below w
 have hsz : (w.alloc (.cells #[.int .u64 0, .int .u64 0, .int .u64 0, .int .u64 0, .int .u64 0, .int .u64 0, .int .u64 0, .int .u64 0] 41)).heap.size = w.heap.size + 1 := by simp
 have HL := zh (int_of k h0 h1)
 have HFV : Hid (f_re b (.int .i64 k) = .agg (elv (b k))) := liftV_at (fun {a b} h => by injection h) _ k
 have HINF := zh (elv_info (b k))
 have HINF2 : Hid ((Tryz.prog.info? 104).map (·.size) = some (elv (b k)).size) := by
  show _ = _
  rw [elv_size]; kernel_rfl
 have HES := zh (elv_size (b k))
 have HE0 := zh (elv_size el0)
 have HONE := zh (elv_one (b k))
 refine cHid fun Q' hQ => ?_
 have HQ := zh hQ; clear hQ
 have HJ := zh hJ; clear hJ
 have HH := zh H; clear H
 have HM1 : Hid (M_re b (w.alloc (.cells #[.int .u64 0, .int .u64 0, .int .u64 0, .int .u64 0, .int .u64 0, .int .u64 0, .int .u64 0, .int .u64 0] 41)) B n) := MMap.below hM hb hM.lt
 have hB := hM.lt
 have HM0 := zh hM
 have HJ0 := zh hj
 have hj1 := HJ.out _ _ hj (But.of_below hb _)
 have hbut : But (fun k => k = B) w (w.alloc (.cells #[.int .u64 0, .int .u64 0, .int .u64 0, .int .u64 0, .int .u64 0, .int .u64 0, .int .u64 0, .int .u64 0] 41)) := But.of_below hb _
 have hz : ∀ W : World, (zeroValue 104).run Tryz.prog W = .ok zEq W := fun W => by kernel_rfl
 have hlook := MMap.look HM1.out int_law Tryz.underlying103 (hz _) HL.out
 rw [HFV.out] at hlook
 unfold zEq at hlook
 generalize elv (b k) = qa at *
 generalize hz0 : elv el0 = z0 at *
 clear hM hz hz0
 go_enter Tryz.func74, Tryz.ntmps74
 go_upto_region 1 with fail
 change Code.wp _ _ _ _ (w.alloc (.cells #[.int .u64 0, .int .u64 0, .int .u64 0, .int .u64 0, .int .u64 0, .int .u64 0, .int .u64 0, .int .u64 0] 41))
 generalize w.alloc (.cells #[.int .u64 0, .int .u64 0, .int .u64 0, .int .u64 0, .int .u64 0, .int .u64 0, .int .u64 0, .int .u64 0] 41) = w1 at *
 have HBUT := zh hbut
 have HB1 := zh hb
 have HR1 := zh r0
 have HGM1 := zh (hgm.below hb hgm.lt)
 have HGF1 := zh (hgf.below hb hgf.lt)
 have HSZ1 := zh hsz
 have HGMW := zh (show gm < w1.heap.size from (hgm.below hb hgm.lt).lt)
 have HJ1 := zh hj1
 have cm1 := HGM1.out.cell 0
 clear hb r0 hgm hgf hsz hbut hj hj1
 rcases hlook with hlook | hlook
 ·go_wp2_with (first
   | (refine wpList_stRow (by rfl) _ _ _ rfl w1.heap.size qa rfl rfl _ _ (RowAt.new w1 _ _) HINF2.out (by rw [HES.out]; rfl) HONE.out ?_; intro w2 hr2 he2; have HR2 := zh hr2; have HB2 := zh (he2.belowG (zL _) ((zB _ _).alloc (zL _) _)); have HRR := zh (HR1.out.below HB2.out HR1.out.lt); clear hr2 he2)
   | (refine wpList_loadS (by rfl) _ _ rfl w1.heap.size rfl _ _ _ HR2.out Tryz.underlying41 rfl HINF.out ?_)
   | (refine wpList_stRow (by rfl) _ _ _ rfl w.heap.size qa rfl rfl _ _ HRR.out HINF.out (by rw [HES.out, HE0.out]) HONE.out ?_; intro w3 hr3 he3; have HR3 := zh hr3; have HB3 := zh (he3.belowG (zL _) ((HB1.out).trans (HB2.out.mono HB1.out.size))); clear hr3 he3))
  exact bodyPost_ret (retRow rfl _ _ w.heap.size _ _ (0, 0) _ rfl HR3.out Tryz.underlying41 rfl HINF.out) rfl (HQ.out _ _ ⟨rfl, (MMap.below HM0.out HB3.out hB).more (Nat.le_succ _), HJ.out _ _ HJ0.out (But.of_below HB3.out _), But.of_below HB3.out _⟩)
 ·go_upto_region 2 with fail
  have r5 := RowAt.new w1 104 #[.int .u64 0, .int .u64 0, .int .u64 0, .int .u64 0, .int .u64 0, .int .u64 0, .int .u64 0, .int .u64 0]
  have hb2 : Below w1.heap.size w1 (w1.alloc (.cells #[.int .u64 0, .int .u64 0, .int .u64 0, .int .u64 0, .int .u64 0, .int .u64 0, .int .u64 0, .int .u64 0] 104)) := (zB _ _).alloc (zL _) _
  change Code.wp _ _ _ _ (w1.alloc (.cells #[.int .u64 0, .int .u64 0, .int .u64 0, .int .u64 0, .int .u64 0, .int .u64 0, .int .u64 0, .int .u64 0] 104))
  generalize w1.alloc (.cells #[.int .u64 0, .int .u64 0, .int .u64 0, .int .u64 0, .int .u64 0, .int .u64 0, .int .u64 0, .int .u64 0] 104) = w2 at *
  have HB2 := zh hb2
  have HR5 := zh r5
  have HR2 := zh (HR1.out.below hb2 HR1.out.lt)
  have HGM2 := zh (HGM1.out.below hb2 HGM1.out.lt)
  have HGF2 := zh (HGF1.out.below hb2 HGF1.out.lt)
  have cf2 := HGF2.out.cell 0
  have HJ2 := zh (HJ.out _ _ HJ1.out (But.of_below hb2 _))
  have HC := zh (HH.out w2 HJ2.out)
  clear hb2 r5 HR1 HGM1 HGF1 hlook cm1
  go_wp2_with fail
  refine HC.out.mono ?_
  rintro e w3 ⟨rfl, hb3⟩
  have HB3 := zh (HB2.out.trans (hb3.mono HB2.out.size))
  have HR3 := zh (HR2.out.below hb3 HR2.out.lt)
  have HR53 := zh (HR5.out.below hb3 HR5.out.lt)
  have HGM3 := zh (HGM2.out.below hb3 HGM2.out.lt)
  clear hb3 HR2 HGM2 HGF2 cf2 HC HR5
  go_upto_region 4 with (refine wpList_stRow (by rfl) _ _ _ rfl w1.heap.size qa rfl rfl _ _ HR53.out HINF.out (by rw [HES.out]; rfl) HONE.out ?_; intro w4 hr4 he4; have HR54 := zh hr4; have HB4 := zh (he4.belowG (zL _) HB3.out); have HR4 := zh (HR3.out.other he4 (by have := HSZ1.out; omega)); have cm4 := (HGM3.out.other he4 (by have := HGMW.out; omega)).cell 0; clear hr4 he4)
  have HBW4 := zh (HB1.out.trans (HB4.out.mono HB1.out.size))
  have HM4 : Hid (M_re b w4 B n) := MMap.below HM0.out HBW4.out hB
  have HJ4 := zh (HJ.out _ _ HJ0.out (But.of_below HBW4.out _))
  clear HR53 HR3 HGM3
  go_wp2_with (first
   | (refine wpList_loadS (by rfl) _ _ rfl w1.heap.size rfl _ _ _ HR54.out Tryz.underlying104 rfl HINF2.out ?_)
   | (refine wpList_mmap rfl _ _ _ rfl int_law Tryz.underlying103 B n rfl HM4.out hn (.int .i64 k) _ HL.out rfl HFV.out.symm ?_; intro w5 hm5 hb5; have HM5 : Hid (M_re b w5 B (n + 1)) := hm5; have HB5 := zh hb5; have HR55 := zh (HR54.out.but hb5 (fun e => HM4.out.ne HR54.out e)); have HR5 := zh (HR4.out.but hb5 (fun e => HM4.out.ne HR4.out e)); clear hm5 hb5 HR54)
   | (refine wpList_loadS (by rfl) _ _ rfl w1.heap.size rfl _ _ _ HR55.out Tryz.underlying41 rfl HINF.out ?_)
   | (refine wpList_stRow (by rfl) _ _ _ rfl w.heap.size qa rfl rfl _ _ HR5.out HINF.out (by rw [HES.out, HE0.out]) HONE.out ?_; intro w6 hr6 he6; have HR6 := zh hr6; have HE6 := zh he6; clear hr6 he6))
  have hbt : But (fun k => k = B) w w5 := (But.of_below HBW4.out _).trans HB5.out
  have hbt6 : But (fun k => k = B) w w6 := ⟨HE6.out.os.trans hbt.os, HE6.out.tape.trans hbt.tape, HE6.out.output.trans hbt.output, by rw [HE6.out.size]; exact hbt.size, fun j hj hne => (HE6.out.block j (by omega)).trans (hbt.block j hj hne)⟩
  exact bodyPost_ret (retRow rfl _ _ w.heap.size _ _ (0, 0) _ rfl HR6.out Tryz.underlying41 rfl HINF.out) rfl (HQ.out _ _ ⟨rfl, HM5.out.same (HE6.out.block B (by omega)), HJ.out _ _ HJ0.out hbt6, hbt6⟩)
end
section
open Go.RowKit RM Go.Maps
structure Kept (F : FuncId) (caps : Array Value) (Mt Ft : TypeId) (G : FuncId) (w : World) (B gm gf : Nat) (e : Ending) (w' : World) : Prop where
 ret : e = .returned (.func (.func G) #[] #[.pointer (some ⟨gm, 0, none⟩), .pointer (some ⟨gf, 0, none⟩)])
 mp : RowAt w' gm Mt #[.map (some B)]
 fn : RowAt w' gf Ft #[.func (.func F) #[] caps]
 new : ∀ kt z f, MMap kt z f w' B 0
 lo : w.heap.size ≤ B ∧ w.heap.size ≤ gm ∧ w.heap.size ≤ gf
 bel : Below w.heap.size w w'
theorem rb_made (F : FuncId) (caps : Array Value) (w : World) :
 Calls Tryz.prog 29 #[.func (.func F) #[] caps] w fun e w' => Kept F caps 98 65 69 w (w.heap.size + 1) (w.heap.size + 2) w.heap.size e w' := by
 have hmm : ∀ W : World, (Instr.makeMap 98 none).run Tryz.prog W = .ok (.map (some W.heap.size)) (W.alloc (.map #[] 0)) := fun W => by
  simp [Instr.makeMap, run_underlying Tryz.underlying98, Result.andThen]
 have r0 := RowAt.new w 65 #[.func (.func F) #[] caps]
 have s1 : (w.alloc (.cells #[.func (.func F) #[] caps] 65)).heap.size = w.heap.size + 1 := by simp
 have m1 : ∀ kt z f, MMap kt z f ((w.alloc (.cells #[.func (.func F) #[] caps] 65)).alloc (.map #[] 0)) (w.heap.size + 1) 0 := fun kt z f => by
  have := MMap.new kt z f (w.alloc (.cells #[.func (.func F) #[] caps] 65))
  rwa [s1] at this
 have s2 : ((w.alloc (.cells #[.func (.func F) #[] caps] 65)).alloc (.map #[] 0)).heap.size = w.heap.size + 2 := by simp
 have r2 : RowAt (((w.alloc (.cells #[.func (.func F) #[] caps] 65)).alloc (.map #[] 0)).alloc (.cells #[.map (some (w.heap.size + 1))] 98)) (w.heap.size + 2) 98 #[.map (some (w.heap.size + 1))] := by
  have := RowAt.new ((w.alloc (.cells #[.func (.func F) #[] caps] 65)).alloc (.map #[] 0)) 98 #[.map (some (w.heap.size + 1))]
  rwa [s2] at this
 have hb : Below w.heap.size w (((w.alloc (.cells #[.func (.func F) #[] caps] 65)).alloc (.map #[] 0)).alloc (.cells #[.map (some (w.heap.size + 1))] 98)) := (((zB _ _).alloc (zL _) _).alloc (by simp) _).alloc (by simp; omega) _
 have hf : ∀ kt z f, MMap kt z f (((w.alloc (.cells #[.func (.func F) #[] caps] 65)).alloc (.map #[] 0)).alloc (.cells #[.map (some (w.heap.size + 1))] 98)) (w.heap.size + 1) 0 := fun kt z f =>
  (m1 kt z f).below (b := w.heap.size + 2) (by rw [← s2]; exact (zB _ _).alloc (zL _) _) (by omega)
 refine cHid fun Q' hQ => ?_
 have HQ : Hid (∀ e w', Kept F caps 98 65 69 w (w.heap.size + 1) (w.heap.size + 2) w.heap.size e w' → Q' e w') := zh fun e w' h => hQ e w' h
 clear hQ
 have HFIN : Hid (Q' (.returned (.func (.func 69) #[] #[.pointer (some ⟨w.heap.size + 2, 0, none⟩), .pointer (some ⟨w.heap.size, 0, none⟩)])) (((w.alloc (.cells #[.func (.func F) #[] caps] 65)).alloc (.map #[] 0)).alloc (.cells #[.map (some (w.heap.size + 1))] 98))) :=
  HQ.out _ _ ⟨rfl, r2, (r0.alloc _).alloc _, hf, by omega, hb⟩
 clear r0 s1 m1 s2 r2 hb hf HQ
 go_enter Tryz.func29, Tryz.ntmps29
 go_wp2_with fail
 exact HFIN.out
theorem rs_made (F : FuncId) (caps : Array Value) (w : World) :
 Calls Tryz.prog 40 #[.func (.func F) #[] caps] w fun e w' => Kept F caps 113 77 81 w (w.heap.size + 1) (w.heap.size + 2) w.heap.size e w' := by
 have hmm : ∀ W : World, (Instr.makeMap 113 none).run Tryz.prog W = .ok (.map (some W.heap.size)) (W.alloc (.map #[] 0)) := fun W => by
  simp [Instr.makeMap, run_underlying Tryz.underlying113, Result.andThen]
 have r0 := RowAt.new w 77 #[.func (.func F) #[] caps]
 have s1 : (w.alloc (.cells #[.func (.func F) #[] caps] 77)).heap.size = w.heap.size + 1 := by simp
 have m1 : ∀ kt z f, MMap kt z f ((w.alloc (.cells #[.func (.func F) #[] caps] 77)).alloc (.map #[] 0)) (w.heap.size + 1) 0 := fun kt z f => by
  have := MMap.new kt z f (w.alloc (.cells #[.func (.func F) #[] caps] 77))
  rwa [s1] at this
 have s2 : ((w.alloc (.cells #[.func (.func F) #[] caps] 77)).alloc (.map #[] 0)).heap.size = w.heap.size + 2 := by simp
 have r2 : RowAt (((w.alloc (.cells #[.func (.func F) #[] caps] 77)).alloc (.map #[] 0)).alloc (.cells #[.map (some (w.heap.size + 1))] 113)) (w.heap.size + 2) 113 #[.map (some (w.heap.size + 1))] := by
  have := RowAt.new ((w.alloc (.cells #[.func (.func F) #[] caps] 77)).alloc (.map #[] 0)) 113 #[.map (some (w.heap.size + 1))]
  rwa [s2] at this
 have hb : Below w.heap.size w (((w.alloc (.cells #[.func (.func F) #[] caps] 77)).alloc (.map #[] 0)).alloc (.cells #[.map (some (w.heap.size + 1))] 113)) := (((zB _ _).alloc (zL _) _).alloc (by simp) _).alloc (by simp; omega) _
 have hf : ∀ kt z f, MMap kt z f (((w.alloc (.cells #[.func (.func F) #[] caps] 77)).alloc (.map #[] 0)).alloc (.cells #[.map (some (w.heap.size + 1))] 113)) (w.heap.size + 1) 0 := fun kt z f =>
  (m1 kt z f).below (b := w.heap.size + 2) (by rw [← s2]; exact (zB _ _).alloc (zL _) _) (by omega)
 refine cHid fun Q' hQ => ?_
 have HQ : Hid (∀ e w', Kept F caps 113 77 81 w (w.heap.size + 1) (w.heap.size + 2) w.heap.size e w' → Q' e w') := zh fun e w' h => hQ e w' h
 clear hQ
 have HFIN : Hid (Q' (.returned (.func (.func 81) #[] #[.pointer (some ⟨w.heap.size + 2, 0, none⟩), .pointer (some ⟨w.heap.size, 0, none⟩)])) (((w.alloc (.cells #[.func (.func F) #[] caps] 77)).alloc (.map #[] 0)).alloc (.cells #[.map (some (w.heap.size + 1))] 113))) :=
  HQ.out _ _ ⟨rfl, r2, (r0.alloc _).alloc _, hf, by omega, hb⟩
 clear r0 s1 m1 s2 r2 hb hf HQ
 go_enter Tryz.func40, Tryz.ntmps40
 go_wp2_with fail
 exact HFIN.out
theorem re_made (F : FuncId) (caps : Array Value) (w : World) :
 Calls Tryz.prog 36 #[.func (.func F) #[] caps] w fun e w' => Kept F caps 103 73 74 w (w.heap.size + 1) (w.heap.size + 2) w.heap.size e w' := by
 have hmm : ∀ W : World, (Instr.makeMap 103 none).run Tryz.prog W = .ok (.map (some W.heap.size)) (W.alloc (.map #[] 0)) := fun W => by
  simp [Instr.makeMap, run_underlying Tryz.underlying103, Result.andThen]
 have r0 := RowAt.new w 73 #[.func (.func F) #[] caps]
 have s1 : (w.alloc (.cells #[.func (.func F) #[] caps] 73)).heap.size = w.heap.size + 1 := by simp
 have m1 : ∀ kt z f, MMap kt z f ((w.alloc (.cells #[.func (.func F) #[] caps] 73)).alloc (.map #[] 0)) (w.heap.size + 1) 0 := fun kt z f => by
  have := MMap.new kt z f (w.alloc (.cells #[.func (.func F) #[] caps] 73))
  rwa [s1] at this
 have s2 : ((w.alloc (.cells #[.func (.func F) #[] caps] 73)).alloc (.map #[] 0)).heap.size = w.heap.size + 2 := by simp
 have r2 : RowAt (((w.alloc (.cells #[.func (.func F) #[] caps] 73)).alloc (.map #[] 0)).alloc (.cells #[.map (some (w.heap.size + 1))] 103)) (w.heap.size + 2) 103 #[.map (some (w.heap.size + 1))] := by
  have := RowAt.new ((w.alloc (.cells #[.func (.func F) #[] caps] 73)).alloc (.map #[] 0)) 103 #[.map (some (w.heap.size + 1))]
  rwa [s2] at this
 have hb : Below w.heap.size w (((w.alloc (.cells #[.func (.func F) #[] caps] 73)).alloc (.map #[] 0)).alloc (.cells #[.map (some (w.heap.size + 1))] 103)) := (((zB _ _).alloc (zL _) _).alloc (by simp) _).alloc (by simp; omega) _
 have hf : ∀ kt z f, MMap kt z f (((w.alloc (.cells #[.func (.func F) #[] caps] 73)).alloc (.map #[] 0)).alloc (.cells #[.map (some (w.heap.size + 1))] 103)) (w.heap.size + 1) 0 := fun kt z f =>
  (m1 kt z f).below (b := w.heap.size + 2) (by rw [← s2]; exact (zB _ _).alloc (zL _) _) (by omega)
 refine cHid fun Q' hQ => ?_
 have HQ : Hid (∀ e w', Kept F caps 103 73 74 w (w.heap.size + 1) (w.heap.size + 2) w.heap.size e w' → Q' e w') := zh fun e w' h => hQ e w' h
 clear hQ
 have HFIN : Hid (Q' (.returned (.func (.func 74) #[] #[.pointer (some ⟨w.heap.size + 2, 0, none⟩), .pointer (some ⟨w.heap.size, 0, none⟩)])) (((w.alloc (.cells #[.func (.func F) #[] caps] 73)).alloc (.map #[] 0)).alloc (.cells #[.map (some (w.heap.size + 1))] 103))) :=
  HQ.out _ _ ⟨rfl, r2, (r0.alloc _).alloc _, hf, by omega, hb⟩
 clear r0 s1 m1 s2 r2 hb hf HQ
 go_enter Tryz.func36, Tryz.ntmps36
 go_wp2_with fail
 exact HFIN.out
theorem hasLat_any (s : Sc) (hfew : s.ls.length ≤ 65536) (vn : ByteArray) (kind lat : Int) (w : World) :
 Calls Tryz.prog 32 #[.agg (scv s), .agg #[.string vn, .int .i64 kind, .int .i64 lat]] w fun e w' => e = .returned (.bool (decide (0 ≤ lat) && decide (lat < s.ls.length))) ∧ Below w.heap.size w w' := by
 obtain ⟨rS, rV, hb⟩ := two_boxes w (scv s) #[.string vn, .int .i64 kind, .int .i64 lat] 25 58
 refine cHid fun Q' hQ => ?_
 have HQ := zh hQ; clear hQ
 go_enter Tryz.func32, Tryz.ntmps32
 go_upto_region 1 with fail
 change Code.wp _ _ _ _ ((w.alloc (.cells (scv s) 25)).alloc (.cells #[.string vn, .int .i64 kind, .int .i64 lat] 58))
 generalize (w.alloc (.cells (scv s) 25)).alloc (.cells #[.string vn, .int .i64 kind, .int .i64 lat] 58) = w1 at *
 have c1 : w1.cell? ⟨w.heap.size, 0, none⟩ = some (.slice s.LA s.ls.length s.lc) := rS.cell 0
 have c2 := rV.cell 2
 have HB := zh hb
 clear rS rV hb
 generalize s.ls.length = N at *
 by_cases h0 : 0 ≤ lat
 ·rw [zE h0, Bool.true_and] at HQ
  go_wp2_with fail
  exact HQ.out _ _ ⟨rfl, HB.out⟩
 ·rw [zF h0, Bool.false_and] at HQ
  have hd : decide (0 ≤ lat) = false := zF h0
  go_wp2_with fail
  exact HQ.out _ _ ⟨rfl, HB.out⟩
structure RbI (gm gf B : Nat) (F : FuncId) (caps : Array Value) (b : Ky → Bool) (J : World → Prop) (n : Nat) (W : World) : Prop where
 mp : RowAt W gm 98 #[.map (some B)]
 fn : RowAt W gf 65 #[.func (.func F) #[] caps]
 mm : M_rb b W B n
 j : J W
theorem rb_memo {F : FuncId} {caps : Array Value} {b : Ky → Bool} {J : World → Prop} {gm gf B : Nat} {L : Int} (hL : L ≤ 4611686018427387904) (hf : ∀ args w, (callFunc F args).run Tryz.prog w = .ok (.enter F args) w) (hJ : ∀ W W', J W → But (fun k => k = B) W W' → J W')
 (H : ∀ k : Ky, 0 ≤ k.1 → k.1 < L → ∀ W, J W → Calls Tryz.prog F (#[kyV k] ++ caps) W fun e W' => e = .returned (.bool (b k)) ∧ Below W.heap.size W W') :
 MemoF (fun x => .bool x) 69 #[.pointer (some ⟨gm, 0, none⟩), .pointer (some ⟨gf, 0, none⟩)] B b (RbI gm gf B F caps b J) L where
 eq := fun _ _ => by kernel_rfl
 but := fun n W W' h hb => ⟨h.mp.but hb (fun h => h), h.fn.but hb (fun h => h), h.mm.but hb (fun h => h), hJ _ _ h.j hb.weak⟩
 lt := fun n W h => h.mm.lt
 call := fun n W k hn h0 h1 h => (rb1_any (b := b) gm gf B n k h0 (by omega) W h.mp h.fn h.mm hn hf hJ h.j (H k h0 h1)).mono fun e W' h2 => ⟨h2.1, ⟨h.mp.but h2.2.2.2 (fun e => h.mm.ne h.mp e), h.fn.but h2.2.2.2 (fun e => h.mm.ne h.fn e), h2.2.1, h2.2.2.1⟩, h2.2.2.2⟩
structure RsI (gm gf B : Nat) (F : FuncId) (caps : Array Value) (b : Ky → ByteArray) (J : World → Prop) (n : Nat) (W : World) : Prop where
 mp : RowAt W gm 113 #[.map (some B)]
 fn : RowAt W gf 77 #[.func (.func F) #[] caps]
 mm : M_rs b W B n
 j : J W
theorem rs_memo {F : FuncId} {caps : Array Value} {b : Ky → ByteArray} {J : World → Prop} {gm gf B : Nat} {L : Int} (hL : L ≤ 4611686018427387904) (hf : ∀ args w, (callFunc F args).run Tryz.prog w = .ok (.enter F args) w) (hJ : ∀ W W', J W → But (fun k => k = B) W W' → J W')
 (H : ∀ k : Ky, 0 ≤ k.1 → k.1 < L → ∀ W, J W → Calls Tryz.prog F (#[kyV k] ++ caps) W fun e W' => e = .returned (.string (b k)) ∧ Below W.heap.size W W') :
 MemoF (fun x => .string x) 81 #[.pointer (some ⟨gm, 0, none⟩), .pointer (some ⟨gf, 0, none⟩)] B b (RsI gm gf B F caps b J) L where
 eq := fun _ _ => by kernel_rfl
 but := fun n W W' h hb => ⟨h.mp.but hb (fun h => h), h.fn.but hb (fun h => h), h.mm.but hb (fun h => h), hJ _ _ h.j hb.weak⟩
 lt := fun n W h => h.mm.lt
 call := fun n W k hn h0 h1 h => (rs1_any (b := b) gm gf B n k h0 (by omega) W h.mp h.fn h.mm hn hf hJ h.j (H k h0 h1)).mono fun e W' h2 => ⟨h2.1, ⟨h.mp.but h2.2.2.2 (fun e => h.mm.ne h.mp e), h.fn.but h2.2.2.2 (fun e => h.mm.ne h.fn e), h2.2.1, h2.2.2.1⟩, h2.2.2.2⟩
end
section
open Go.RowKit RM Go.Maps
def hasL (s : Sc) (v : ByteArray × Int × Int) : Bool := decide (0 ≤ v.2.2) && decide (v.2.2 < s.ls.length)
def rtT (s : Sc) (a : As) (i : Nat) : Bool := hasL s (s.vs.getD i var0) && vlB (fitS s) (s.vs.getD i var0).2.1 (s.vs.getD i var0).2.2 (a.ls.getD i el0) (a.rs.getD i rw0).l
def rightA (s : Sc) (a : As) : Bool := decide (a.ls.length = s.vs.length) && (decide (a.rs.length = s.vs.length) && (List.range s.vs.length).all (rtT s a))
def fsum (a : As) (i : Nat) : Nat := ((a.rs.take i).map fun r => r.l.length).sum
theorem fsum_succ (a : As) {i : Nat} (h : i < a.rs.length) : fsum a (i + 1) = fsum a i + (a.rs.getD i rw0).l.length := by
 unfold fsum
 rw [List.take_add_one, List.getElem?_eq_getElem h, getD_lt rw0 h, Option.toList_some, List.map_append, List.sum_append]
 rfl
theorem fsum_le (a : As) (i : Nat) : fsum a i ≤ fsum a a.rs.length := by
 unfold fsum
 rw [List.take_length]
 have : ∀ (l : List Rw) (i : Nat), ((l.take i).map fun r => r.l.length).sum ≤ (l.map fun r => r.l.length).sum := fun l => by
  induction l with
  | nil => intro i; simp
  | cons x l ih =>
    intro i
    cases i with
    | zero => simp
    | succ i => simp only [List.take_succ_cons, List.map_cons, List.sum_cons]; have := ih i; omega
 exact this _ _
theorem ScOk.but {w w' : World} {s : Sc} {b0 B : Nat} {w0 : World} (h : ScOk w0 s) (hb : Below w0.heap.size w0 w') : ScOk w' s := h.below hb
end
section
open Go.RowKit RM Go.Maps
def vvBig (v : Vl) : Bool := decide (40 < v.s.size)
def rwBig (r : Rw) : Bool := r.l.any vvBig
def bigAs (a : As) : Bool := decide (100 < a.ls.length) || (decide (100 < a.rs.length) || (a.rs.any rwBig || decide (200 < fsum a a.rs.length)))
theorem bigAs_any (a : As) (w : World) (hl : a.ls.length ≤ maxLen) (hr : a.rs.length ≤ maxLen) (hR : Ls rwC w a.RA a.rs) (hI : ∀ r ∈ a.rs, Ls vlC w r.A r.l) (hs : fsum a a.rs.length ≤ maxLen) :
 Calls Tryz.prog 8 #[.agg (asv a)] w fun e w' => e = .returned (.bool (bigAs a)) ∧ Below w.heap.size w w' := by
 have r0 := RowAt.new w 29 (asv a)
 have hb : Below w.heap.size w (w.alloc (.cells (asv a) 29)) := (zB _ _).alloc (zL _) _
 refine cHid fun Q' hQ => ?_
 have HQ := zh hQ; clear hQ
 have HD : Hid (bigAs a = (decide (100 < a.ls.length) || (decide (100 < a.rs.length) || (a.rs.any rwBig || decide (200 < fsum a a.rs.length))))) := zh rfl
 have HY1 : Hid (∀ k i, k < a.rs.length → i < (a.rs.getD k rw0).l.length → vvBig ((a.rs.getD k rw0).l.getD i vl0) = true → bigAs a = true) := zh fun k i hk hi h => by
  have h2 : rwBig (a.rs.getD k rw0) = true := by unfold rwBig; exact any_yes hi h
  unfold bigAs; rw [any_yes hk h2]; simp
 have HNO : Hid (a.ls.length ≤ 100 → a.rs.length ≤ 100 → (∀ k, k < a.rs.length → rwBig (a.rs.getD k rw0) = false) → bigAs a = decide (200 < fsum a a.rs.length)) := zh fun h1 h2 h3 => by
  unfold bigAs
  rw [any_no rw0 h3, zF (by omega), zF (by omega)]; rfl
 have HSUC : Hid (∀ i, i < a.rs.length → fsum a (i + 1) = fsum a i + (a.rs.getD i rw0).l.length) := fun i hi => fsum_succ a hi
 have HLE : Hid (∀ i, fsum a i ≤ 9223372036854775807) := fun i => zM (fsum_le a i) hs
 have HROW := zh (fun W (h : Below w.heap.size w W) => hR.below h)
 have HRIN : Hid (∀ i, i < a.rs.length → ∀ W, Below w.heap.size w W → Ls vlC W (a.rs.getD i rw0).A (a.rs.getD i rw0).l) := fun i hi W h => (hI _ (getD_mem' hi)).below h
 have hl' : a.ls.length ≤ 9223372036854775807 := hl
 have hr' : a.rs.length ≤ 9223372036854775807 := hr
 have hf0 : fsum a 0 = 0 := rfl
 go_enter Tryz.func8, Tryz.ntmps8
 go_upto_region 1 with fail
 change Code.wp _ _ _ _ (w.alloc (.cells (asv a) 29))
 generalize w.alloc (.cells (asv a) 29) = w1 at *
 have HB := zh hb
 have c0 : w1.cell? ⟨w.heap.size, 0, none⟩ = some (.slice a.LA a.ls.length a.lc) := r0.cell 0
 have c1 : w1.cell? ⟨w.heap.size, 1, none⟩ = some (.slice a.RA a.rs.length a.rc) := r0.cell 1
 clear hb r0 hR hI hs hl hr
 generalize hln : a.ls.length = ln at *
 generalize hm : a.rs.length = m at *
 have HM := zh hm; clear hm hln
 by_cases h1 : 100 < ln
 ·have hr : bigAs a = true := by rw [HD.out, zE h1]; simp
  rw [hr] at HQ
  clear HD hr
  go_wp2_with fail
  exact HQ.out _ _ ⟨rfl, HB.out⟩
 by_cases h2 : 100 < m
 ·have hr : bigAs a = true := by rw [HD.out, zE h2]; simp
  rw [hr] at HQ
  clear HD hr
  go_wp2_with fail
  exact HQ.out _ _ ⟨rfl, HB.out⟩
 clear HD
 go_upto_region 3 with fail
 go_wp2_with fail
 go_loopw [3, 21] (fun nv kv wr => ∃ k : Nat, k ≤ m ∧ nv = .int .i64 (fsum a k : Nat) ∧ kv = .int .i64 k ∧ Hid (Below w.heap.size w wr) ∧ Hid (∀ j, j < k → rwBig (a.rs.getD j rw0) = false)) (fun _ kv _ => m - (intOf kv).toNat)
 case atStart => exact ⟨0, by omega, by rw [hf0]; rfl, rfl, HB, zh fun j hj => by omega⟩
 case round =>
  obtain ⟨k, hk, rfl, rfl, HW, HG⟩ := hrel
  by_cases hlt : k < m
  ·have HLT := zh hlt
   obtain ⟨qb, qo, hA, _, hqc⟩ := (HROW.out wr HW.out).at 1 rwC_len (by omega) rw0 (i := k) (by rw [HM.out]; exact hlt)
   have hq1 := hqc k (by rw [HM.out]; exact hlt) 0 _ rfl
   have q0 : wr.cell? ⟨qb, qo + k, none⟩ = some (.slice (a.rs.getD k rw0).A (a.rs.getD k rw0).l.length (a.rs.getD k rw0).c) := by simpa using hq1
   clear hq1 hqc
   have HRI := zh (HRIN.out k hlt)
   have HYk := zh (fun i => HY1.out k i hlt)
   have hsu := HSUC.out k hlt
   have hle := HLE.out (k + 1)
   have HGk : Hid ((∀ i, i < (a.rs.getD k rw0).l.length → vvBig ((a.rs.getD k rw0).l.getD i vl0) = false) → ∀ j, j < k + 1 → rwBig (a.rs.getD j rw0) = false) := zh fun h j hj => by
        by_cases e : j = k
        ·rw [e]; unfold rwBig; exact any_no vl0 h
        ·exact HG.out j (by omega)
   generalize a.RA = RA at *
   subst hA
   generalize a.rs.getD k rw0 = r at *
   obtain ⟨rA, rc, rl⟩ := r
   simp only at q0 HRI HYk hsu HGk
   generalize hF1 : fsum a (k + 1) = F1 at *
   generalize fsum a k = F0 at *
   generalize hL : rl.length = L at *
   have HL := zh hL; clear hL
   have hsum : IntKind.i64.wrap ((F0 : Int) + (L : Int)) = (F1 : Int) := by rw [IntKind.wrap_i64]; omega
   have hl2 : L ≤ 9223372036854775807 := by omega
   have HF1 := zh hF1
   clear hF1 hsu
   go_wp2_with fail
   go_loopw [31] (fun jv wx => ∃ j : Nat, j ≤ L ∧ jv = .int .i64 j ∧ Hid (Below w.heap.size w wx) ∧ Hid (∀ i, i < j → vvBig (rl.getD i vl0) = false)) (fun jv _ => L - (intOf jv).toNat)
   case atStart => exact ⟨0, by omega, rfl, HW, zh fun j hj => by omega⟩
   case round =>
        clear q0
        obtain ⟨j, hj, rfl, HX, HN⟩ := hrel
        by_cases hjl : j < L
        ·obtain ⟨bk, o, hrA, hbk, hc⟩ := (HRI.out wr HX.out).at 9 vlC_len (by omega) vl0 (i := j) (by rw [HL.out]; exact hjl)
         subst hrA
         have hr := hc j (by rw [HL.out]; exact hjl)
         have HYj := zh (HYk.out j hjl)
         have HNj : Hid (vvBig (rl.getD j vl0) = false → ∀ i, i < j + 1 → vvBig (rl.getD i vl0) = false) := zh fun h i hi => by
          by_cases e : i = j
          ·rw [e]; exact h
          ·exact HN.out i (by omega)
         have hvb : vvBig (rl.getD j vl0) = decide (40 < (rl.getD j vl0).s.size) := rfl
         clear hc HN
         generalize vvBig (rl.getD j vl0) = vb at *
         generalize rl.getD j vl0 = x at *
         obtain ⟨s, e, he⟩ := x
         obtain ⟨e0, e1, e2, e3, e4, e5, e6, e7, rfl⟩ := ew_lit he
         have hr2 : wr.rangeAt bk (o + j * 9) [.string s, .int .u64 e0, .int .u64 e1, .int .u64 e2, .int .u64 e3, .int .u64 e4, .int .u64 e5, .int .u64 e6, .int .u64 e7] := hr
         have HR := zh hr2
         clear hr hr2
         simp only at hvb
         have r9 := RowAt.new wr 43 #[.string s, .int .u64 e0, .int .u64 e1, .int .u64 e2, .int .u64 e3, .int .u64 e4, .int .u64 e5, .int .u64 e6, .int .u64 e7]
         have hb9 : Below wr.heap.size wr (wr.alloc (.cells #[.string s, .int .u64 e0, .int .u64 e1, .int .u64 e2, .int .u64 e3, .int .u64 e4, .int .u64 e5, .int .u64 e6, .int .u64 e7] 43)) := (zB _ _).alloc (zL _) _
         go_upto_region 11 with (refine wpList_ldIn (by rfl) _ _ rfl bk (o + j * 9) rfl _ _ HR.out Tryz.underlying43 rfl (by kernel_rfl) ?_)
         change Code.wp _ _ _ _ (wr.alloc (.cells #[.string s, .int .u64 e0, .int .u64 e1, .int .u64 e2, .int .u64 e3, .int .u64 e4, .int .u64 e5, .int .u64 e6, .int .u64 e7] 43))
         have HX9 := zh (HX.out.trans (hb9.mono HX.out.size))
         generalize hgx : wr.heap.size = gx at *
         generalize wr.alloc (.cells #[.string s, .int .u64 e0, .int .u64 e1, .int .u64 e2, .int .u64 e3, .int .u64 e4, .int .u64 e5, .int .u64 e6, .int .u64 e7] 43) = w9 at *
         have k0 : w9.cell? ⟨gx, 0, none⟩ = some (.string s) := r9.cell 0
         clear hb9 hgx r9
         by_cases h40 : 40 < s.size
         ·rw [zE h40] at hvb
          have hy := HYj.out hvb
          rw [hy] at HQ
          clear hvb hy
          go_wp2_with fail
          exact HQ.out _ _ ⟨rfl, HX9.out⟩
         ·rw [zF h40] at hvb
          have HN1 := zh (HNj.out hvb)
          clear hvb
          go_wp2_with fail
          go_roundw
          case rel => exact ⟨j + 1, by omega, by go_num, HX9, HN1⟩
          case measure => simp [intOf]; omega
        ·obtain rfl : j = L := by omega
         have HGn := zh (HGk.out fun i hi => HN.out i hi)
         go_wp2_with fail
         go_roundw
         case rel => exact ⟨k + 1, by have := HLT.out; omega, by rw [HF1.out], by go_num, HX, HGn⟩
         case measure => have := HLT.out; simp [intOf]; omega
  ·obtain rfl : k = m := by omega
   have hn := HNO.out (by omega) (by omega) (fun j hj => HG.out j hj)
   have hle := HLE.out k
   generalize fsum a k = F at *
   rw [hn] at HQ
   clear hn
   by_cases h200 : 200 < F
   ·rw [zE h200] at HQ
    have hi : decide ((200 : Int) < (F : Int)) = true := zE (by omega)
    go_wp2_with fail
    exact HQ.out _ _ ⟨rfl, HW.out⟩
   ·rw [zF h200] at HQ
    have hi : decide ((200 : Int) < (F : Int)) = false := zF (by omega)
    go_wp2_with fail
    exact HQ.out _ _ ⟨rfl, HW.out⟩
end
section
namespace LX
structure Tk where
 k : Nat
 s : ByteArray
 p : Int
deriving DecidableEq
def t0 : Tk := ⟨0, ⟨#[]⟩, 0⟩
def lst (s : ByteArray) : List UInt8 := s.data.toList
theorem lst_length (s : ByteArray) : (lst s).length = s.size := by unfold lst; rw [Array.length_toList]; rfl
end LX
end
section
open Go.RowKit LX
end
section
open Go.RowKit LX
def tcells (t : Tk) : List Value := [.int .u8 (t.k : Int), .string t.s, .int .i64 t.p]
theorem tcells_length (t : Tk) : (tcells t).length = 3 := rfl
def tkcells (l : List Tk) : List Value := l.flatMap tcells
theorem tkcells_length : ∀ l : List Tk, (tkcells l).length = l.length * 3
 | [] => rfl
 | t :: l => by
   have := tkcells_length l
   unfold tkcells at this ⊢
   rw [List.flatMap_cons, zA7, this, tcells_length, zA8]; omega
theorem tkcells_at : ∀ (l : List Tk) (i j : Nat), i < l.length → j < 3 → (tkcells l)[i * 3 + j]? = (tcells (l.getD i t0))[j]?
 | [], i, j, hi, _ => by simp at hi
 | t :: l, 0, j, _, hj => by
   unfold tkcells
   rw [List.flatMap_cons, List.getElem?_append_left (by rw [tcells_length]; omega)]
   simp
 | t :: l, i + 1, j, hi, hj => by
   have := tkcells_at l i j (by simpa using hi) hj
   unfold tkcells at this ⊢
   rw [List.flatMap_cons, List.getElem?_append_right (by rw [tcells_length]; omega), tcells_length, show (i + 1) * 3 + j - 3 = i * 3 + j by omega, this]
   simp
def Toks (w : World) (A : Option Addr) (l : List Tk) : Prop := Sl w w.heap.size A (tkcells l)
section
variable {w w' : World} {A : Option Addr} {l : List Tk}
theorem Toks.below (h : Toks w A l) (hb : Below w.heap.size w w') : Toks w' A l := (Sl.below h hb).mono hb.size
theorem Toks.alloc (h : Toks w A l) (o : Obj) : Toks (w.alloc o) A l := h.below ((zB _ _).alloc (zL _) _)
theorem Toks.nil (w : World) (A : Option Addr) : Toks w A [] := Sl.nil _ _ _
theorem Toks.at (h : Toks w A l) {k : Nat} (hk : k < l.length) : ∃ b o, A = some ⟨b, o, none⟩ ∧ b < w.heap.size ∧ ∀ i, i < l.length →
 w.cell? ⟨b, o + i * 3, none⟩ = some (.int .u8 ((l.getD i t0).k : Int)) ∧ w.cell? ⟨b, o + i * 3 + 1, none⟩ = some (.string (l.getD i t0).s) ∧ w.cell? ⟨b, o + i * 3 + 2, none⟩ = some (.int .i64 (l.getD i t0).p) := by
 obtain ⟨b, o, hA, hb, hc⟩ := Sl.at_ h (fun e => by
  have := congrArg List.length e
  rw [tkcells_length] at this
  simp only [zA9] at this
  omega)
 refine ⟨b, o, hA, hb, fun i hi => ⟨?_, ?_, ?_⟩⟩
 ·exact hc (i * 3) _ (by have := tkcells_at l i 0 hi (by omega); rw [Nat.add_zero] at this; rw [this]; rfl)
 ·rw [Nat.add_assoc]; exact hc (i * 3 + 1) _ (by rw [tkcells_at l i 1 hi (by omega)]; rfl)
 ·rw [Nat.add_assoc]; exact hc (i * 3 + 2) _ (by rw [tkcells_at l i 2 hi (by omega)]; rfl)
end
end
section
open Go.RowKit LX
end
section
open Go.RowKit LX
end
end Go.Proofs.YtnfndapgcpdcpaaGreatDoor
