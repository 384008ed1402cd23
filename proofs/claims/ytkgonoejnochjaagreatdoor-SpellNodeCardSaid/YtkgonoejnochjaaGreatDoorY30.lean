/- Texts that all the claims need. Conditions: those that each states. -/

import Derived.Test.YtkgonoejnochjaaGreatDoorY19
import Derived.Test.YtkgonoejnochjaaGreatDoorY24
import Derived.Test.YtkgonoejnochjaaGreatDoorY29
set_option linter.unusedSimpArgs false
set_option linter.unusedVariables false
set_option maxRecDepth 8000
namespace Go.Proofs.YtkgonoejnochjaaGreatDoor
namespace SP
open TM RM
end SP
open Go.RowKit LX TR TM SP RM
set_option maxRecDepth 100000 in
set_option maxHeartbeats 3200000 in
theorem ssplit_any (t : Bool) (A : Option Addr) (c : Nat) (fs : List Fac) (x : Nd) (w : World) (hT : Tab w) (hF : Facs w A fs) (hx : Nods w w.heap.size [x]) (hc : TM.cnt [x] ≤ 4294967296) :
 Calls Tryz.prog 22 #[.agg (sv t A fs.length c), .agg (nv x)] w fun e w' => (∃ Y m d, e = .returned (.tuple #[.slice Y m d, .bool (ptsN t fs x).isSome]) ∧ ∀ xs, ptsN t fs x = some xs → m = xs.length ∧ Sl w' w'.heap.size Y (ncs xs) ∧ ∀ z ∈ xs, Nods w' w'.heap.size [z] ∧ TM.cnt [z] ≤ 4294967296) ∧ Below w.heap.size w w' := by
 have HRI : Hid (∀ W, Below w.heap.size w W → Calls Tryz.prog 32 #[.agg (sv t A fs.length c)] W fun e w' => e = .returned (.bool (rightS t fs)) ∧ Below W.heap.size W w') := fun W h => sright_any t A c fs W (hT.below h) (hF.below h)
 have HIC : Hid (∀ W, Below w.heap.size w W → Calls Tryz.prog 18 #[.agg (nv x)] W fun e w' => e = .returned (.bool (fl x).c) ∧ Below W.heap.size W w') := fun W h => isConst_any 4294967296 (Nat.le_refl _) x hc W ((hx.below h).mono h.size)
 have HN1 : Hid (∀ W, Below w.heap.size w W → Nods W W.heap.size [x]) := fun W h => (hx.below h).mono h.size
 have HC1 := Lib.hid hc
 have HKS : Hid (∀ W, Below w.heap.size w W → Sl W W.heap.size x.B (ncs x.ks)) := fun W h => ((hx.at.2.1).below h).mono h.size
 have HKN : Hid (∀ W, Below w.heap.size w W → ∀ z ∈ x.ks, Nods W W.heap.size [z] ∧ TM.cnt [z] ≤ 4294967296) := fun W h z hz => ⟨((hx.kids.mem hz).below h).mono h.size, by
  have h1 := cnt_mem hz
  obtain ⟨k, p, s, A, c, ws, B, d, ks⟩ := x
  rw [TM.cnt_cons] at hc
  simp only [TM.cnt] at hc
  have hc2 : 1 + ws.length + TM.cnt ks + 0 ≤ 4294967296 := hc
  have h2 : TM.cnt [z] ≤ TM.cnt ks := by
   rw [TM.cnt_cons]
   simp only [TM.cnt, Nat.add_zero]
   exact h1
  omega⟩
 obtain ⟨P, hP⟩ : ∃ P, P = ptsN t fs x := ⟨_, rfl⟩
 have P1 : Hid (rightS t fs = false → P = none) := fun h => hP.trans (pts_1 h)
 have P2 : Hid ((fl x).c = false → P = none) := fun h => hP.trans (pts_2 h)
 have P3 : Hid (rightS t fs = true → (fl x).c = true → t = false → P = some [x]) := fun h h2 h3 => hP.trans (pts_3 h h2 h3)
 have P4 : Hid (rightS t fs = true → (fl x).c = true → t = true → (x.k ≠ 4 ∨ x.ks.length ≠ fs.length) → P = none) := fun h h2 h3 h4 => hP.trans (pts_4 h h2 h3 h4)
 have P5 : Hid (rightS t fs = true → (fl x).c = true → t = true → ¬(x.k ≠ 4 ∨ x.ks.length ≠ fs.length) → P = some x.ks) := fun h h2 h3 h4 => hP.trans (pts_5 h h2 h3 h4)
 rw [← hP]
 clear hP hx hc
 obtain ⟨xk, xp, xs, xA, xc, xw, xB, xd, xz⟩ := x
 unfold nv at HIC ⊢
 simp only [Nd.k, Nd.p, Nd.s, Nd.A, Nd.c, Nd.ws, Nd.B, Nd.d, Nd.ks] at HIC HKS HKN P4 P5 ⊢
 have hs0 := (RowAt.new w 24 (sv t A fs.length c)).alloc (.cells #[.int .i64 xk, .int .i64 xp, .string xs, .slice xA xw.length xc, .slice xB xz.length xd] 28)
 have hx0 := RowAt.new (w.alloc (.cells (sv t A fs.length c) 24)) 28 #[.int .i64 xk, .int .i64 xp, .string xs, .slice xA xw.length xc, .slice xB xz.length xd]
 rw [show (w.alloc (.cells (sv t A fs.length c) 24)).heap.size = w.heap.size + 1 by simp] at hx0
 have HS1 := Lib.hid hs0
 have HX1 := Lib.hid hx0
 have HB1 : Hid (Below w.heap.size w ((w.alloc (.cells (sv t A fs.length c) 24)).alloc (.cells #[.int .i64 xk, .int .i64 xp, .string xs, .slice xA xw.length xc, .slice xB xz.length xd] 28))) := ((Below.refl _ _).alloc (Nat.le_refl _) _).alloc (by simp) _
 have HSH : Hid (∀ W, RowAt W w.heap.size 24 (sv t A fs.length c) → W.cell? ⟨w.heap.size, 0, none⟩ = some (.bool t) ∧ W.cell? ⟨w.heap.size, 1, none⟩ = some (.slice A fs.length c)) := fun W h => shape_cells h
 clear hs0 hx0 hF hT
 generalize hnf : fs.length = nf at *
 clear hnf
 generalize (fl (.mk xk xp xs xA xc xw xB xd xz)).c = qc at *
 generalize rightS t fs = qr at *
 go_enter Tryz.func22, Tryz.ntmps22
 go_upto_region 1 with fail
 generalize (w.alloc (.cells (sv t A nf c) 24)).alloc (.cells #[.int .i64 xk, .int .i64 xp, .string xs, .slice xA xw.length xc, .slice xB xz.length xd] 28) = w1 at *
 obtain ⟨x0, x1, x2, x3, x4, _, _, _, _, _⟩ := row5 HX1.out
 go_wp2_with (refine wpList_loadShape (by rfl) _ rfl w.heap.size rfl t A nf c HS1.out ?_)
 refine (HRI.out w1 HB1.out).mono ?_
 rintro e w2 ⟨rfl, hb⟩
 have HS2 := Lib.hid (HS1.out.below hb HS1.out.lt)
 have HX2 := Lib.hid (HX1.out.below hb HX1.out.lt)
 have HB2 := Lib.hid (HB1.out.trans (hb.mono HB1.out.size))
 clear hb x0 x1 x2 x3 x4 HS1 HX1 HB1 HRI
 obtain ⟨x0, x1, x2, x3, x4, _, _, _, _, _⟩ := row5 HX2.out
 cases qr
 case' false =>
  have HE : Hid (P = none) := P1.out (by first | rfl | trivial)
  go_wp2_with fail
  go_ret2
  exact ⟨⟨none, 0, 0, by rw [HE.out]; rfl, fun xs h => by rw [HE.out] at h; cases h⟩, HB2.out⟩
 case' true =>
  go_wp2_with fail
  refine (HIC.out w2 HB2.out).mono ?_
  rintro e w3 ⟨rfl, hb⟩
  have HS3 := Lib.hid (HS2.out.below hb HS2.out.lt)
  have HX3 := Lib.hid (HX2.out.below hb HX2.out.lt)
  have HB3 := Lib.hid (HB2.out.trans (hb.mono HB2.out.size))
  clear hb x0 x1 x2 x3 x4 HS2 HX2 HB2 HIC
  obtain ⟨x0, x1, x2, x3, x4, _, _, _, _, _⟩ := row5 HX3.out
  obtain ⟨c0, c1⟩ := HSH.out _ HS3.out
  cases qc
  case' false =>
   have HE : Hid (P = none) := P2.out (by first | rfl | trivial)
   go_wp2_with fail
   go_ret2
   exact ⟨⟨none, 0, 0, by rw [HE.out]; rfl, fun xs h => by rw [HE.out] at h; cases h⟩, HB3.out⟩
  case' true =>
   cases t
   case' false =>
       have HE : Hid (P = some [(Nd.mk xk xp xs xA xc xw xB xd xz)]) := P3.out (by first | rfl | trivial) (by first | rfl | trivial) (by first | rfl | trivial)
       go_wp2_with (refine wpList_nodes1 (by rfl) _ rfl (.mk xk xp xs xA xc xw xB xd xz) rfl ?_; intro w4 hsl hb4)
       go_ret2
       exact ⟨⟨_, 1, _, by rw [HE.out]; rfl, fun xs h => by
        rw [HE.out] at h
        injection h with h
        subst h
        exact ⟨rfl, hsl, fun z hz => by
         obtain rfl := List.mem_singleton.1 hz
         exact ⟨HN1.out _ (HB3.out.trans (hb4.mono HB3.out.size)), HC1.out⟩⟩⟩, HB3.out.trans (hb4.mono HB3.out.size)⟩
   case' true =>
       by_cases h4 : xk = 4
       ·by_cases hn : xz.length = nf
        ·have HE : Hid (P = some xz) := P5.out (by first | rfl | trivial) (by first | rfl | trivial) (by first | rfl | trivial) (by omega)
         have t4 : (xk == 4) = true := by simp [h4]
         have tn : (((xz.length : Nat) : Int) == ((nf : Nat) : Int)) = true := by simp; omega
         have HXZ : Hid (∃ m, m = xz.length) := ⟨_, rfl⟩
         clear h4 hn
         go_wp2_with fail
         go_ret2
         exact ⟨⟨xB, xz.length, xd, by rw [HE.out]; rfl, fun xs h => by
          rw [HE.out] at h
          injection h with h
          subst h
          exact ⟨rfl, HKS.out _ HB3.out, HKN.out _ HB3.out⟩⟩, HB3.out⟩
        ·have HE : Hid (P = none) := P4.out (by first | rfl | trivial) (by first | rfl | trivial) (by first | rfl | trivial) (.inr hn)
         have t4 : (xk == 4) = true := by simp [h4]
         have tn : (((xz.length : Nat) : Int) == ((nf : Nat) : Int)) = false := by simp; omega
         clear h4 hn
         go_wp2_with fail
         go_ret2
         exact ⟨⟨none, 0, 0, by rw [HE.out]; rfl, fun xs h => by rw [HE.out] at h; cases h⟩, HB3.out⟩
       ·have HE : Hid (P = none) := P4.out (by first | rfl | trivial) (by first | rfl | trivial) (by first | rfl | trivial) (.inl h4)
        have t4 : (xk == 4) = false := by simp [h4]
        clear h4
        go_wp2_with fail
        go_ret2
        exact ⟨⟨none, 0, 0, by rw [HE.out]; rfl, fun xs h => by rw [HE.out] at h; cases h⟩, HB3.out⟩
end Go.Proofs.YtkgonoejnochjaaGreatDoor
namespace Go.Proofs.YtkgonoejnochjaaGreatDoor
open Go.RowKit LX TR TM SP RM
set_option maxRecDepth 100000 in
set_option maxHeartbeats 6400000 in
theorem selem_any (t : Bool) (A : Option Addr) (c : Nat) (fs : List Fac) (x : Nd) (w : World) (hT : Tab w) (hF : Facs w A fs) (hx : Nods w w.heap.size [x]) (hc : TM.cnt [x] ≤ 4294967296) :
 Calls Tryz.prog 10 #[.agg (sv t A fs.length c), .agg (nv x)] w fun e w' => e = .returned (evV (elemR t fs x)) ∧ Below w.heap.size w w' := by
 have z8 := EW.zeros
 have HSP := Lib.hid (fun W (h : Below w.heap.size w W) => ssplit_any t A c fs x W (hT.below h) (hF.below h) ((hx.below h).mono h.size) hc)
 obtain ⟨hP0, hP1⟩ := elem_pts t fs x
 have HP0 := Lib.hid hP0
 have HP1 := Lib.hid hP1
 have HTB : Hid (∀ W, Below w.heap.size w W → Tab W) := fun W h => hT.below h
 have HFB : Hid (∀ W, Below w.heap.size w W → Facs W A fs) := fun W h => hF.below h
 clear hP0 hP1 hx hc hT
 generalize ptsN t fs x = P at *
 obtain ⟨RES, hRES⟩ : ∃ RES, RES = elemR t fs x := ⟨_, rfl⟩
 rw [← hRES] at HP0 HP1 ⊢
 clear hRES
 obtain ⟨xk, xp, xs, xA, xc, xw, xB, xd, xz⟩ := x
 unfold nv at HSP ⊢
 simp only [Nd.k, Nd.p, Nd.s, Nd.A, Nd.c, Nd.ws, Nd.B, Nd.d, Nd.ks] at HSP HP0 ⊢
 generalize hnf : fs.length = nf at *
 have HNF := Lib.hid hnf; clear hnf
 obtain ⟨r0, r1, r2, r3, hb⟩ := four_rows w (sv t A nf c) #[.int .i64 xk, .int .i64 xp, .string xs, .slice xA xw.length xc, .slice xB xz.length xd] (uv (List.replicate 8 0)) #[.int .i64 0, .int .i64 0] 24 28 34 36
 have HSH : Hid (∀ W, RowAt W w.heap.size 24 (sv t A nf c) → W.cell? ⟨w.heap.size, 0, none⟩ = some (.bool t) ∧ W.cell? ⟨w.heap.size, 1, none⟩ = some (.slice A nf c)) := fun W h => shape_cells h
 rw [← zero_elem] at r0 r1 r2 r3 hb
 go_enter Tryz.func10, Tryz.ntmps10
 go_upto_region 1 with fail
 rw [zero_elem] at r0 r1 r2 r3 hb ⊢
 generalize ((((w.alloc (.cells (sv t A nf c) 24)).alloc (.cells #[.int .i64 xk, .int .i64 xp, .string xs, .slice xA xw.length xc, .slice xB xz.length xd] 28)).alloc (.cells (uv (List.replicate 8 0)) 34)).alloc (.cells #[.int .i64 0, .int .i64 0] 36)) = w1 at *
 obtain ⟨x0, x1, x2, x3, x4, _, _, _, _, _⟩ := row5 r1
 go_wp2_with (refine wpList_loadShape (by rfl) _ rfl w.heap.size rfl t A nf c r0 ?_)
 refine (HSP.out w1 hb).mono ?_
 rintro e w2 ⟨⟨Y, m, d, rfl, hp⟩, hb2⟩
 have HSo := Lib.hid (r0.below hb2 r0.lt)
 have HXo := Lib.hid (r1.below hb2 r1.lt)
 have HEo := Lib.hid (r2.below hb2 r2.lt)
 have HFo := Lib.hid (r3.below hb2 r3.lt)
 have HB2 := Lib.hid (hb.trans (hb2.mono hb.size))
 have HPP := Lib.hid hp
 clear r0 r1 r2 r3 hb hb2 hp x0 x1 x2 x3 x4 HSP
 cases P
 case' none =>
  have HE := Lib.hid (HP0.out rfl)
  obtain ⟨x0, x1, x2, x3, x4, _, _, _, _, _⟩ := row5 HXo.out
  have HWR := Lib.hid (swrong_any xp w2)
  clear HP0 HP1 HPP
  go_wp2_with fail
  refine HWR.out.mono ?_
  rintro e w3 ⟨rfl, hb⟩
  have q2 := HEo.out.below hb HEo.out.lt
  have q3 := HFo.out.below hb HFo.out.lt
  have HB3 := Lib.hid (HB2.out.trans (hb.mono HB2.out.size))
  clear hb x0 x1 x2 x3 x4
  obtain ⟨m0, m1, v0, v1⟩ := row2 q3
  go_wp2_with (refine wpList_storeElem (by rfl) _ _ rfl (w.heap.size + 2) rfl _ z8 (by rw [← zero_elem]; rfl) _ z8 q2 ?_; intro w4 q4 he; have q5 := q3.other he (by omega); have HB4 := Lib.hid (HB3.out.trans (he.below (by omega))); clear he m0 m1 v0 v1; obtain ⟨m0, m1, v0, v1⟩ := row2 q5)
  have hrf := (q5.put 0 (.int .i64 4)).put 1 (.int .i64 xp)
  have hre := (q4.far (p := ⟨w.heap.size + 3, 0, none⟩) (by show w.heap.size + 3 ≠ w.heap.size + 2; omega) (.int .i64 4)).far (p := ⟨w.heap.size + 3, 1, none⟩) (by show w.heap.size + 3 ≠ w.heap.size + 2; omega) (.int .i64 xp)
  exact bodyPost_ret (ret_cc rfl _ _ (w.heap.size + 2) (w.heap.size + 3) _ _ _ _ _ _ rfl rfl hre hrf Tryz.underlying34 rfl (einfo z8) Tryz.underlying36 rfl (fault_info _ _)) rfl ⟨by rw [HE.out]; rfl, (HB4.out.setCell (p := ⟨w.heap.size + 3, 0, none⟩) (by show w.heap.size ≤ w.heap.size + 3; omega) _).setCell (p := ⟨w.heap.size + 3, 1, none⟩) (by show w.heap.size ≤ w.heap.size + 3; omega) _⟩
 case' some zs =>
  obtain ⟨hres, hright, hzl⟩ := HP1.out zs rfl
  obtain ⟨hm, hsl, hnd⟩ := HPP.out zs rfl
  have hln := right_len hright
  rw [HNF.out] at hln
  have HRES := Lib.hid hres
  have HSL := Lib.hid hsl
  have HND := Lib.hid hnd
  have HZN : Hid (zs.length = nf) := hzl
  have HV : Hid (∀ k, k < nf → facB (fs.getD k f0) = true) := fun k hk => right_fac hright (by rw [HNF.out]; exact hk)
  obtain rfl : m = nf := by omega
  have HBAD0 : Hid (∀ i p, i < m → (∀ j, j < i → erW (wordC (fs.getD j f0) (zs.getD j n0)) = none) → erW (wordC (fs.getD i f0) (zs.getD i n0)) = some p → elw fs zs = .error p) := fun i p hi h0 h => elw_bad (by rw [HZN.out]; exact hi) h0 h
  obtain ⟨G, hG⟩ : ∃ G : Nat → List Nat, G = fun i => sdTo (fun j => okW (wordC (fs.getD j f0) (zs.getD j n0))) 8 i := ⟨_, rfl⟩
  have HEND : Hid ((∀ j, j < m → erW (wordC (fs.getD j f0) (zs.getD j n0)) = none) → elw fs zs = .ok (G m)) := fun h => by
   rw [hG]
   have := elw_good (fs := fs) (xs := zs) (fun j hj => h j (by rw [← HZN.out]; exact hj))
   rw [HZN.out] at this
   exact this
  have HEW : Hid (∀ k, EW (G k)) := fun k => by rw [hG]; exact sdTo_ew (fun j => okW_lt _ _) k
  have HZ : Hid (G 0 = List.replicate 8 0) := by show G 0 = _; rw [hG]; exact sdTo_zero _ 8
  have HNX0 : Hid (∀ k, (uv (G k)).setIfInBounds k (.int .u64 ((okW (wordC (fs.getD k f0) (zs.getD k n0)) : Nat) : Int)) = uv (G (k + 1))) := fun k => by
   rw [hG]
   show (uv (sdTo (fun j => okW (wordC (fs.getD j f0) (zs.getD j n0))) 8 k)).setIfInBounds k (.int .u64 ((okW (wordC (fs.getD k f0) (zs.getD k n0)) : Nat) : Int)) = uv (sdTo (fun j => okW (wordC (fs.getD j f0) (zs.getD j n0))) 8 (k + 1))
   rw [uv_set, ← sdTo_set]
  clear hres hsl hnd hzl hright HP0 HP1 HPP hG HXo
  obtain ⟨c0, c1⟩ := HSH.out _ HSo.out
  go_upto_region 5 with fail
  rw [zero_elem]
  have hw0 : RowAt (w2.alloc (.cells (uv (List.replicate 8 0)) 33)) w2.heap.size 33 (uv (G 0)) := by rw [HZ.out]; exact RowAt.new _ _ _
  have HB0 : Hid (Below w2.heap.size w2 (w2.alloc (.cells (uv (List.replicate 8 0)) 33))) := (Below.refl _ _).alloc (Nat.le_refl _) _
  have HW0 := Lib.hid hw0
  have hlt2 : w.heap.size + 3 < w2.heap.size := HFo.out.lt
  clear c0 c1 hw0
  obtain ⟨c0, c1⟩ := HSH.out _ (HSo.out.alloc (.cells (uv (List.replicate 8 0)) 33))
  generalize w2.alloc (.cells (uv (List.replicate 8 0)) 33) = wo at *
  generalize hgW : w2.heap.size = gW at HW0 ⊢
  have HGW := Lib.hid hgW; clear hgW
  go_wp2_with fail
  clear c0 c1
  go_loopw [9, 11, 28] (fun _ _ kv wr => ∃ i : Nat, i ≤ m ∧ kv = .int .i64 i ∧ Hid (RowAt wr gW 33 (uv (G i))) ∧ Hid (∀ j, j < i → erW (wordC (fs.getD j f0) (zs.getD j n0)) = none) ∧ Hid (Below w2.heap.size w2 wr)) (fun _ _ kv _ => m - (intOf kv).toNat)
  case atStart => exact ⟨0, by omega, rfl, HW0, fun j hj => by omega, HB0⟩
  case round =>
   obtain ⟨i, hi, rfl, HWr, HZr, HBr⟩ := hrel
   by_cases hlt : i < m
   ·have hin : (i : Int) < (m : Int) := by omega
    have hi8 : (i : Int) < 8 := by omega
    have hbw := HB2.out.trans (HBr.out.mono HB2.out.size)
    have hFk := HFB.out wr hbw
    obtain ⟨b, o, rfl, _, hr⟩ := hFk.at (k := i) (by rw [HNF.out]; exact hlt)
    have hrg := hr i (by rw [HNF.out]; exact hlt)
    have hl := (hFk.okAt (i := i) (by rw [HNF.out]; exact hlt)).rows
    obtain ⟨bb, o2, rfl, hbb, hc⟩ := sl_at (z := n0) ncells_length HSL.out (k := i) (by rw [HZN.out]; exact hlt) (by omega)
    have k0 := hc i 0 _ (by rw [HZN.out]; exact hlt) (by omega) rfl
    have k1 := hc i 1 _ (by rw [HZN.out]; exact hlt) (by omega) rfl
    have k2 := hc i 2 _ (by rw [HZN.out]; exact hlt) (by omega) rfl
    have k3 := hc i 3 _ (by rw [HZN.out]; exact hlt) (by omega) rfl
    have k4 := hc i 4 _ (by rw [HZN.out]; exact hlt) (by omega) rfl
    rw [Nat.add_zero] at k0
    rw [← Nat.add_assoc] at k1 k2 k3 k4
    have hmem : zs.getD i n0 ∈ zs := getD_memL (by rw [HZN.out]; exact hlt)
    have HWC : Hid (∀ W, Below w2.heap.size w2 W → Calls Tryz.prog 24 #[.agg (fv (fs.getD i f0)), .agg (nv (zs.getD i n0))] W fun e w' => e = .returned (.tuple #[.int .u64 (((wdP (fs.getD i f0) (zs.getD i n0)).2 : Nat) : Int), .agg (fcs (wdP (fs.getD i f0) (zs.getD i n0)).1)]) ∧ Below W.heap.size W w') := fun W h =>
     sword_any _ _ W (HTB.out W (HB2.out.trans (h.mono HB2.out.size))) (HV.out i hlt) ((HFB.out W (HB2.out.trans (h.mono HB2.out.size))).okAt (by rw [HNF.out]; exact hlt)) (((HND.out _ hmem).1.below h).mono h.size) (HND.out _ hmem).2
    have her := wdP_er (fs.getD i f0) (zs.getD i n0)
    have hok := wdP_ok (fs.getD i f0) (zs.getD i n0)
    obtain ⟨q, hq⟩ : ∃ q, q = (wdP (fs.getD i f0) (zs.getD i n0)).1 := ⟨_, rfl⟩
    obtain ⟨a, ha⟩ : ∃ a, a = (wdP (fs.getD i f0) (zs.getD i n0)).2 := ⟨_, rfl⟩
    rw [← hq, ← ha] at HWC
    rw [← hq] at her hok
    rw [← ha] at hok
    have HBAD : Hid (∀ p, q = some p → elw fs zs = .error p) := fun p h => HBAD0.out i p hlt HZr.out (her.trans h)
    have HGOOD : Hid (q = none → ∀ j, j < i + 1 → erW (wordC (fs.getD j f0) (zs.getD j n0)) = none) := fun h j hj => by
     by_cases e : j = i
     ·subst e; exact her.trans h
     ·exact HZr.out j (by omega)
    have HNX : Hid (q = none → (uv (G i)).setIfInBounds i (.int .u64 (a : Int)) = uv (G (i + 1))) := fun h => by
     rw [← hok h]
     exact HNX0.out i
    obtain ⟨fa, fb, hfc⟩ : ∃ fa fb : Int, fcs q = #[.int .i64 fa, .int .i64 fb] := ⟨_, _, rfl⟩
    rw [hfc] at HWC
    have HFA : Hid (∀ p, q = some p → fa = 4 ∧ fb = p) := fun p h => by
     subst h
     have e : (#[.int .i64 4, .int .i64 p] : Array Value) = #[.int .i64 fa, .int .i64 fb] := hfc
     simp at e
     exact ⟨e.1.symm, e.2.symm⟩
    have HFN : Hid (q = none → fa = 0) := fun h => by
     subst h
     have e : (#[.int .i64 0, .int .i64 0] : Array Value) = #[.int .i64 fa, .int .i64 fb] := hfc
     simp at e
     exact e.1.symm
    have HX0 := Lib.hid (ev_at (HEW.out i) i (by omega))
    have hszr := HBr.out.size
    have hgr := HWr.out.lt
    clear hc hr hFk hmem her hok hq ha hfc hbw
    generalize (G i).getD i 0 = x0 at *
    generalize fs.getD i f0 = f at *
    generalize zs.getD i n0 = y at *
    obtain ⟨yk, yp, ys, yA, yc, yw, yB, yd, yz⟩ := y
    unfold nv at HWC
    simp only [Nd.k, Nd.p, Nd.s, Nd.A, Nd.c, Nd.ws, Nd.B, Nd.d, Nd.ks] at k0 k1 k2 k3 k4 HWC
    go_upto_region 8 with (first | (refine wpList_loadFacIn (by rfl) _ rfl b (o + i * 67) rfl f hl hrg ?_) | (refine wpList_storeFac (by rfl) _ _ rfl wr.heap.size rfl f hl rfl _ zero_fac_size (RowAt.new _ _ _) ?_; intro w6 r6 he6; have HW6 := Lib.hid ((HWr.out.alloc (.cells Tryz.zeroCells51 51)).other he6 (Nat.ne_of_lt HWr.out.lt)); have HB6 : Hid (Below w2.heap.size w2 w6) := (HBr.out.alloc HBr.out.size _).trans (he6.below (by omega)); clear he6))
    have HR6 := Lib.hid r6
    have hlt6 : wr.heap.size < w6.heap.size := r6.lt
    clear r6 hrg HWr HBr
    generalize wr.heap.size = g6 at *
    obtain ⟨S, hSe⟩ : ∃ S : World → Prop, S = fun W => Below w6.heap.size w6 W := ⟨_, rfl⟩
    have SI : Hid (∀ W, Below w6.heap.size w6 W → S W) := fun W h => by rw [hSe]; exact h
    have pF : ∀ W, S W → RowAt W g6 51 (fv f) := fun W h => by rw [hSe] at h; exact HR6.out.below h hlt6
    have KK : ∀ W j u, S W → w2.cell? ⟨bb, o2 + i * 5 + j, none⟩ = some u → W.cell? ⟨bb, o2 + i * 5 + j, none⟩ = some u := fun W j u h hu => by
     rw [hSe] at h
     exact (below_cell (HB6.out.trans (h.mono HB6.out.size)) hbb).trans hu
    have K0 : ∀ W, S W → W.cell? ⟨bb, o2 + i * 5, none⟩ = some (.int .i64 yk) := fun W h => KK W 0 _ h k0
    have K1 : ∀ W, S W → W.cell? ⟨bb, o2 + i * 5 + 1, none⟩ = some (.int .i64 yp) := fun W h => KK W 1 _ h k1
    have K2 : ∀ W, S W → W.cell? ⟨bb, o2 + i * 5 + 2, none⟩ = some (.string ys) := fun W h => KK W 2 _ h k2
    have K3 : ∀ W, S W → W.cell? ⟨bb, o2 + i * 5 + 3, none⟩ = some (.slice yA yw.length yc) := fun W h => KK W 3 _ h k3
    have K4 : ∀ W, S W → W.cell? ⟨bb, o2 + i * 5 + 4, none⟩ = some (.slice yB yz.length yd) := fun W h => KK W 4 _ h k4
    clear hSe KK k0 k1 k2 k3 k4
    have HSV : Hid (Below w6.heap.size w6 w6.drew) := (Below.refl _ _).drew
    refine wp_region_ot S (.take 0 (.take 1 (.take 2 (.take 3 (.take 4 (.two 5 (.take 6 (.take 7 (.take 8 (.solo 9 (.take 10 (.solo 11 .nil)))))) 9 (.solo 5 (.take 6 (.take 7 (.take 8 (.take 10 (.solo 11 .nil)))))))))))) (by kernel_rfl) (by kernel_rfl) rfl (by kernel_rfl) (SI.out _ HSV.out) ?_
    generalize w6.drew = V at HSV ⊢
    iterate 5
     (refine wpOT_step (o := ?_) ?_ ?_; rotate_left 1; (simp only [zA1, zA2, zA3]; with_reducible rfl))
     (first
      | (refine wpOT_skip (by rfl) ?_)
      | (refine wpOT_take (by rfl) (take_loadFac _ rfl _ rfl _ hl pF) ?_)
      | (refine wpOT_take (v := ?_) (by rfl) ?_ ?_; rotate_left 1; (intro wx hSx; have hc_0 := K0 wx hSx; have hc_1 := K1 wx hSx; have hc_2 := K2 wx hSx; have hc_3 := K3 wx hSx; have hc_4 := K4 wx hSx; go_simp; try with_reducible rfl)))
     (try simp only [Act.put, zA4, zA5, zA6])
    clear K0 K1 K2 K3 K4 pF
    refine wpOT_two ?_ ?_
    ·(refine wpOT_solo (o := ?_) ?_ ?_; rotate_left 1; (simp only [zA1, zA2, zA3]; with_reducible rfl))
     intro K hK
     go_simp
     go_at_call 24
     refine (HWC.out V (HB6.out.trans (HSV.out.mono HB6.out.size))).mono ?_
     rintro e wn ⟨rfl, hb⟩
     have HSwn := Lib.hid (HSV.out.trans (hb.mono HSV.out.size))
     refine hK.out _ _ (SI.out _ HSwn.out) ?_
     clear hK K
     (try simp only [Act.put, zA4, zA5, zA6])
     clear hb
     iterate 3
      (refine wpOT_step (o := ?_) ?_ ?_; rotate_left 1; (simp only [zA1, zA2, zA3]; with_reducible rfl))
      (first
               | (refine wpOT_skip (by rfl) ?_)
               | (refine wpOT_take (v := ?_) (by rfl) ?_ ?_; rotate_left 1; (intro wx hSx; go_simp; try with_reducible rfl)))
      (try simp only [Act.put, zA4, zA5, zA6])
     (refine wpOT_solo (o := ?_) ?_ ?_; rotate_left 1; (simp only [zA1, zA2, zA3]; with_reducible rfl))
     intro K hK
     go_simp
     have HSwb := Lib.hid (HSwn.out.alloc HSwn.out.size (.cells #[.int .i64 0, .int .i64 0] 36))
     have HGwb := Lib.hid (RowAt.new wn 36 #[.int .i64 0, .int .i64 0])
     have hg9 : w6.heap.size ≤ wn.heap.size := HSwn.out.size
     refine hK.out _ _ (SI.out _ HSwb.out) ?_
     clear hK K
     (try simp only [Act.put, zA4, zA5, zA6])
     generalize wn.alloc (.cells #[.int .i64 0, .int .i64 0] 36) = wb at *
     generalize wn.heap.size = g9 at *
     iterate 1
      (refine wpOT_step (o := ?_) ?_ ?_; rotate_left 1; (simp only [zA1, zA2, zA3]; with_reducible rfl))
      (first
               | (refine wpOT_skip (by rfl) ?_)
               | (refine wpOT_take (v := ?_) (by rfl) ?_ ?_; rotate_left 1; (intro wx hSx; go_simp; try with_reducible rfl)))
      (try simp only [Act.put, zA4, zA5, zA6])
     obtain ⟨m0, m1, v0, v1⟩ := row2 HGwb.out
     (refine wpOT_solo (o := ?_) ?_ ?_; rotate_left 1; (simp only [zA1, zA2, zA3]; with_reducible rfl))
     intro K hK
     go_simp
     have HG9 : Hid (RowAt ((wb.setCell ⟨g9, 0, none⟩ (.int .i64 fa)).setCell ⟨g9, 1, none⟩ (.int .i64 fb)) g9 36 #[.int .i64 fa, .int .i64 fb]) := (HGwb.out.put 0 (.int .i64 fa)).put 1 (.int .i64 fb)
     have HS9 := Lib.hid ((HSwb.out.setCell (p := ⟨g9, 0, none⟩) hg9 (.int .i64 fa)).setCell (p := ⟨g9, 1, none⟩) hg9 (.int .i64 fb))
     refine hK.out _ _ (SI.out _ HS9.out) ?_
     clear hK K m0 m1 v0 v1
     (try simp only [Act.put, zA4, zA5, zA6])
     refine wpOT_done ?_
     generalize (wb.setCell ⟨g9, 0, none⟩ (.int .i64 fa)).setCell ⟨g9, 1, none⟩ (.int .i64 fb) = w9 at *
     clear SI
     clear S
     have HW9 := Lib.hid (HW6.out.below HS9.out HW6.out.lt)
     have HB9 := Lib.hid (HB6.out.trans (HS9.out.mono HB6.out.size))
     have HE9 := Lib.hid (HEo.out.below HB9.out HEo.out.lt)
     have HF9 := Lib.hid (HFo.out.below HB9.out HFo.out.lt)
     obtain ⟨m0, m1, _, _⟩ := row2 HG9.out
     cases q
     case' some p =>
      have ha : fa = 4 := (HFA.out p rfl).1
      have hbp : fb = p := (HFA.out p rfl).2
      have HP := Lib.hid hbp
      have HX := Lib.hid (HBAD.out p rfl)
      have HA4 := Lib.hid ha
      have tz : (fa != 0) = true := by simp [ha]
      clear ha hbp
      go_upto_region 10 with fail
      obtain ⟨S, hSe⟩ : ∃ S : World → Prop, S = fun W => RowAt W g9 36 #[.int .i64 fa, .int .i64 fb] := ⟨_, rfl⟩
      have D0 : ∀ W, S W → W.cell? ⟨g9, 0, none⟩ = some (.int .i64 fa) := fun W h => by
       rw [hSe] at h
       exact (RowAt.cell h 0).trans rfl
      have D1 : ∀ W, S W → W.cell? ⟨g9, 1, none⟩ = some (.int .i64 fb) := fun W h => by
       rw [hSe] at h
       exact (RowAt.cell h 1).trans rfl
      have hs0 : S w9.drew := by rw [hSe]; exact HG9.out.drew
      have hre := HE9.out.drew
      have hrf := HF9.out.drew
      have hbb := HB9.out.drew
      refine wp_region_ord S [(0, true), (1, true), (2, false), (3, false)] (by kernel_rfl) (by kernel_rfl) rfl (by kernel_rfl) hs0 ?_
      generalize w9.drew = V at hs0 hre hrf hbb ⊢
      iterate 2
       (refine wpOrd_step (o := ?_) ?_ ?_; rotate_left 1; (simp only [zA1, zA2, zA3]; with_reducible rfl))
       (first
             | (refine wpOrd_skip (by rfl) ?_)
             | (refine wpOrd_take (v := ?_) (by rfl) ?_ ?_; rotate_left 1; (intro wx hSx; have hc_0 := D0 wx hSx; have hc_1 := D1 wx hSx; go_simp; try with_reducible rfl)))
       (try simp only [Act.put, zA4, zA5, zA6])
      have hlt9 : w.heap.size + 3 < g9 := by omega
      have hs1 : S (V.setRow (w.heap.size + 2) (uv (List.replicate 8 0))) := by
       rw [hSe] at hs0 ⊢
       exact RowAt.other hs0 (Else.setRow _ _ _) (by omega)
      have hs2 : S ((V.setRow (w.heap.size + 2) (uv (List.replicate 8 0))).setRow (w.heap.size + 3) #[.int .i64 fa, .int .i64 fb]) := by
       rw [hSe] at hs1 ⊢
       exact RowAt.other hs1 (Else.setRow _ _ _) (by omega)
      have hre1 := hre.setRow (uv (List.replicate 8 0))
      have hrf1 := hrf.other (Else.setRow V (w.heap.size + 2) (uv (List.replicate 8 0))) (by omega)
      have hre2 := hre1.other (Else.setRow (V.setRow (w.heap.size + 2) (uv (List.replicate 8 0))) (w.heap.size + 3) #[.int .i64 fa, .int .i64 fb]) (by omega)
      have hrf2 := hrf1.setRow #[.int .i64 fa, .int .i64 fb]
      have hbf : Below w.heap.size w ((V.setRow (w.heap.size + 2) (uv (List.replicate 8 0))).setRow (w.heap.size + 3) #[.int .i64 fa, .int .i64 fb]) := (HB2.out.trans ((hbb.mono (by omega)).trans ((Else.setRow _ _ _).below (by omega)))).trans ((Else.setRow _ _ _).below (by omega))
      refine wpOrd_store (o := ?_) ?ho_1 ?hw_1 34 ?ox_1 ?oy_1 ?hop_1 (w.heap.size + 2) (uv (List.replicate 8 0)) ?hx_1 ?hy_1 34 (uv (List.replicate 8 0)) hre (einfo z8) ?hold_1 (uv_one _) hs1 ?hh_1
      case ho_1 => (simp only [zA1, zA2, zA3]; with_reducible rfl)
      case hw_1 => rfl
      case hop_1 => rfl
      case hx_1 => rfl
      case hy_1 => first | rfl | (rw [← zero_elem]; rfl)
      case hold_1 => rfl
      (try simp only [Act.put, zA4, zA5, zA6])
      refine wpOrd_store (o := ?_) ?ho_2 ?hw_2 36 ?ox_2 ?oy_2 ?hop_2 (w.heap.size + 3) #[.int .i64 fa, .int .i64 fb] ?hx_2 ?hy_2 36 #[.int .i64 0, .int .i64 0] hrf1 (fault_info _ _) ?hold_2 (by simp [Value.oneCell']) hs2 ?hh_2
      case ho_2 => (simp only [zA1, zA2, zA3]; with_reducible rfl)
      case hw_2 => rfl
      case hop_2 => rfl
      case hx_2 => rfl
      case hy_2 => first | rfl | (rw [← zero_elem]; rfl)
      case hold_2 => rfl
      (try simp only [Act.put, zA4, zA5, zA6])
      refine wpOrd_done ?_
      go_wp2_with fail
      exact bodyPost_ret (ret_cc rfl _ _ (w.heap.size + 2) (w.heap.size + 3) _ _ _ _ _ _ rfl rfl hre2 hrf2 Tryz.underlying34 rfl (einfo z8) Tryz.underlying36 rfl (fault_info _ _)) rfl ⟨by rw [HRES.out, HX.out, HA4.out, HP.out]; rfl, hbf⟩
     case' none =>
      have ha : fa = 0 := HFN.out rfl
      have HOK := Lib.hid (HGOOD.out rfl)
      have HNX2 := Lib.hid (HNX.out rfl)
      have tz : (fa != 0) = false := by simp [ha]
      clear ha
      have hce : w9.cell? ⟨gW, i, none⟩ = some (.int .u64 (x0 : Int)) := (HW9.out.cell i).trans HX0.out
      have hfe := HW9.out.free i
      have p9 := HW9.out.put i (.int .u64 (a : Int))
      rw [HNX2.out] at p9
      have HBz := Lib.hid (HB9.out.setCell (p := ⟨gW, i, none⟩) (by show w2.heap.size ≤ gW; have := HGW.out; omega) (.int .u64 (a : Int)))
      go_wp2_with fail
      go_roundw
      case rel => exact ⟨i + 1, by omega, by go_num, p9, HOK, HBz⟩
      case measure => simp [intOf]; omega
    ·(refine wpOT_solo (o := ?_) ?_ ?_; rotate_left 1; (simp only [zA1, zA2, zA3]; with_reducible rfl))
     intro K hK
     go_simp
     have HSwb := Lib.hid (HSV.out.alloc HSV.out.size (.cells #[.int .i64 0, .int .i64 0] 36))
     have HGwb := Lib.hid (RowAt.new V 36 #[.int .i64 0, .int .i64 0])
     have hg9 : w6.heap.size ≤ V.heap.size := HSV.out.size
     refine hK.out _ _ (SI.out _ HSwb.out) ?_
     clear hK K
     (try simp only [Act.put, zA4, zA5, zA6])
     generalize V.alloc (.cells #[.int .i64 0, .int .i64 0] 36) = wb at *
     generalize V.heap.size = g9 at *
     (refine wpOT_solo (o := ?_) ?_ ?_; rotate_left 1; (simp only [zA1, zA2, zA3]; with_reducible rfl))
     intro K hK
     go_simp
     go_at_call 24
     refine (HWC.out wb (HB6.out.trans (HSwb.out.mono HB6.out.size))).mono ?_
     rintro e wn ⟨rfl, hb⟩
     have HSwn := Lib.hid (HSwb.out.trans (hb.mono HSwb.out.size))
     have HGwn := Lib.hid (HGwb.out.below hb HGwb.out.lt)
     refine hK.out _ _ (SI.out _ HSwn.out) ?_
     clear hK K
     (try simp only [Act.put, zA4, zA5, zA6])
     clear hb
     iterate 3
      (refine wpOT_step (o := ?_) ?_ ?_; rotate_left 1; (simp only [zA1, zA2, zA3]; with_reducible rfl))
      (first
               | (refine wpOT_skip (by rfl) ?_)
               | (refine wpOT_take (v := ?_) (by rfl) ?_ ?_; rotate_left 1; (intro wx hSx; go_simp; try with_reducible rfl)))
      (try simp only [Act.put, zA4, zA5, zA6])
     iterate 1
      (refine wpOT_step (o := ?_) ?_ ?_; rotate_left 1; (simp only [zA1, zA2, zA3]; with_reducible rfl))
      (first
               | (refine wpOT_skip (by rfl) ?_)
               | (refine wpOT_take (v := ?_) (by rfl) ?_ ?_; rotate_left 1; (intro wx hSx; go_simp; try with_reducible rfl)))
      (try simp only [Act.put, zA4, zA5, zA6])
     obtain ⟨m0, m1, v0, v1⟩ := row2 HGwn.out
     (refine wpOT_solo (o := ?_) ?_ ?_; rotate_left 1; (simp only [zA1, zA2, zA3]; with_reducible rfl))
     intro K hK
     go_simp
     have HG9 : Hid (RowAt ((wn.setCell ⟨g9, 0, none⟩ (.int .i64 fa)).setCell ⟨g9, 1, none⟩ (.int .i64 fb)) g9 36 #[.int .i64 fa, .int .i64 fb]) := (HGwn.out.put 0 (.int .i64 fa)).put 1 (.int .i64 fb)
     have HS9 := Lib.hid ((HSwn.out.setCell (p := ⟨g9, 0, none⟩) hg9 (.int .i64 fa)).setCell (p := ⟨g9, 1, none⟩) hg9 (.int .i64 fb))
     refine hK.out _ _ (SI.out _ HS9.out) ?_
     clear hK K m0 m1 v0 v1
     (try simp only [Act.put, zA4, zA5, zA6])
     refine wpOT_done ?_
     generalize (wn.setCell ⟨g9, 0, none⟩ (.int .i64 fa)).setCell ⟨g9, 1, none⟩ (.int .i64 fb) = w9 at *
     clear SI
     clear S
     have HW9 := Lib.hid (HW6.out.below HS9.out HW6.out.lt)
     have HB9 := Lib.hid (HB6.out.trans (HS9.out.mono HB6.out.size))
     have HE9 := Lib.hid (HEo.out.below HB9.out HEo.out.lt)
     have HF9 := Lib.hid (HFo.out.below HB9.out HFo.out.lt)
     obtain ⟨m0, m1, _, _⟩ := row2 HG9.out
     cases q
     case' some p =>
      have ha : fa = 4 := (HFA.out p rfl).1
      have hbp : fb = p := (HFA.out p rfl).2
      have HP := Lib.hid hbp
      have HX := Lib.hid (HBAD.out p rfl)
      have HA4 := Lib.hid ha
      have tz : (fa != 0) = true := by simp [ha]
      clear ha hbp
      go_upto_region 10 with fail
      obtain ⟨S, hSe⟩ : ∃ S : World → Prop, S = fun W => RowAt W g9 36 #[.int .i64 fa, .int .i64 fb] := ⟨_, rfl⟩
      have D0 : ∀ W, S W → W.cell? ⟨g9, 0, none⟩ = some (.int .i64 fa) := fun W h => by
       rw [hSe] at h
       exact (RowAt.cell h 0).trans rfl
      have D1 : ∀ W, S W → W.cell? ⟨g9, 1, none⟩ = some (.int .i64 fb) := fun W h => by
       rw [hSe] at h
       exact (RowAt.cell h 1).trans rfl
      have hs0 : S w9.drew := by rw [hSe]; exact HG9.out.drew
      have hre := HE9.out.drew
      have hrf := HF9.out.drew
      have hbb := HB9.out.drew
      refine wp_region_ord S [(0, true), (1, true), (2, false), (3, false)] (by kernel_rfl) (by kernel_rfl) rfl (by kernel_rfl) hs0 ?_
      generalize w9.drew = V at hs0 hre hrf hbb ⊢
      iterate 2
       (refine wpOrd_step (o := ?_) ?_ ?_; rotate_left 1; (simp only [zA1, zA2, zA3]; with_reducible rfl))
       (first
             | (refine wpOrd_skip (by rfl) ?_)
             | (refine wpOrd_take (v := ?_) (by rfl) ?_ ?_; rotate_left 1; (intro wx hSx; have hc_0 := D0 wx hSx; have hc_1 := D1 wx hSx; go_simp; try with_reducible rfl)))
       (try simp only [Act.put, zA4, zA5, zA6])
      have hlt9 : w.heap.size + 3 < g9 := by omega
      have hs1 : S (V.setRow (w.heap.size + 2) (uv (List.replicate 8 0))) := by
       rw [hSe] at hs0 ⊢
       exact RowAt.other hs0 (Else.setRow _ _ _) (by omega)
      have hs2 : S ((V.setRow (w.heap.size + 2) (uv (List.replicate 8 0))).setRow (w.heap.size + 3) #[.int .i64 fa, .int .i64 fb]) := by
       rw [hSe] at hs1 ⊢
       exact RowAt.other hs1 (Else.setRow _ _ _) (by omega)
      have hre1 := hre.setRow (uv (List.replicate 8 0))
      have hrf1 := hrf.other (Else.setRow V (w.heap.size + 2) (uv (List.replicate 8 0))) (by omega)
      have hre2 := hre1.other (Else.setRow (V.setRow (w.heap.size + 2) (uv (List.replicate 8 0))) (w.heap.size + 3) #[.int .i64 fa, .int .i64 fb]) (by omega)
      have hrf2 := hrf1.setRow #[.int .i64 fa, .int .i64 fb]
      have hbf : Below w.heap.size w ((V.setRow (w.heap.size + 2) (uv (List.replicate 8 0))).setRow (w.heap.size + 3) #[.int .i64 fa, .int .i64 fb]) := (HB2.out.trans ((hbb.mono (by omega)).trans ((Else.setRow _ _ _).below (by omega)))).trans ((Else.setRow _ _ _).below (by omega))
      refine wpOrd_store (o := ?_) ?ho_3 ?hw_3 34 ?ox_3 ?oy_3 ?hop_3 (w.heap.size + 2) (uv (List.replicate 8 0)) ?hx_3 ?hy_3 34 (uv (List.replicate 8 0)) hre (einfo z8) ?hold_3 (uv_one _) hs1 ?hh_3
      case ho_3 => (simp only [zA1, zA2, zA3]; with_reducible rfl)
      case hw_3 => rfl
      case hop_3 => rfl
      case hx_3 => rfl
      case hy_3 => first | rfl | (rw [← zero_elem]; rfl)
      case hold_3 => rfl
      (try simp only [Act.put, zA4, zA5, zA6])
      refine wpOrd_store (o := ?_) ?ho_4 ?hw_4 36 ?ox_4 ?oy_4 ?hop_4 (w.heap.size + 3) #[.int .i64 fa, .int .i64 fb] ?hx_4 ?hy_4 36 #[.int .i64 0, .int .i64 0] hrf1 (fault_info _ _) ?hold_4 (by simp [Value.oneCell']) hs2 ?hh_4
      case ho_4 => (simp only [zA1, zA2, zA3]; with_reducible rfl)
      case hw_4 => rfl
      case hop_4 => rfl
      case hx_4 => rfl
      case hy_4 => first | rfl | (rw [← zero_elem]; rfl)
      case hold_4 => rfl
      (try simp only [Act.put, zA4, zA5, zA6])
      refine wpOrd_done ?_
      go_wp2_with fail
      exact bodyPost_ret (ret_cc rfl _ _ (w.heap.size + 2) (w.heap.size + 3) _ _ _ _ _ _ rfl rfl hre2 hrf2 Tryz.underlying34 rfl (einfo z8) Tryz.underlying36 rfl (fault_info _ _)) rfl ⟨by rw [HRES.out, HX.out, HA4.out, HP.out]; rfl, hbf⟩
     case' none =>
      have ha : fa = 0 := HFN.out rfl
      have HOK := Lib.hid (HGOOD.out rfl)
      have HNX2 := Lib.hid (HNX.out rfl)
      have tz : (fa != 0) = false := by simp [ha]
      clear ha
      have hce : w9.cell? ⟨gW, i, none⟩ = some (.int .u64 (x0 : Int)) := (HW9.out.cell i).trans HX0.out
      have hfe := HW9.out.free i
      have p9 := HW9.out.put i (.int .u64 (a : Int))
      rw [HNX2.out] at p9
      have HBz := Lib.hid (HB9.out.setCell (p := ⟨gW, i, none⟩) (by show w2.heap.size ≤ gW; have := HGW.out; omega) (.int .u64 (a : Int)))
      go_wp2_with fail
      go_roundw
      case rel => exact ⟨i + 1, by omega, by go_num, p9, HOK, HBz⟩
      case measure => simp [intOf]; omega
   ·obtain rfl : i = m := by omega
    have HX := Lib.hid (HEND.out HZr.out)
    have hew := HEW.out i
    have q2 := HEo.out.below HBr.out HEo.out.lt
    have q3 := HFo.out.below HBr.out HFo.out.lt
    have HB3 := Lib.hid (HB2.out.trans (HBr.out.mono HB2.out.size))
    obtain ⟨m0, m1, v0, v1⟩ := row2 q3
    have HGi : Hid (evV RES = .tuple #[.agg (uv (G i)), .agg #[.int .i64 0, .int .i64 0]]) := by
     show evV RES = _
     rw [HRES.out, HX.out]; rfl
    generalize G i = gi at *
    go_wp2_with (first | (refine wpList_loadWords (by rfl) _ rfl gW rfl _ hew HWr.out ?_) | (refine wpList_storeElem (by rfl) _ _ rfl (w.heap.size + 2) rfl _ hew rfl _ z8 q2 ?_; intro w4 q4 he; have q5 := q3.other he (by omega); have HB4 := Lib.hid (HB3.out.trans (he.below (by omega))); clear he m0 m1 v0 v1; obtain ⟨m0, m1, v0, v1⟩ := row2 q5))
    have hrf := (q5.put 0 (.int .i64 0)).put 1 (.int .i64 0)
    have hre := (q4.far (p := ⟨w.heap.size + 3, 0, none⟩) (by show w.heap.size + 3 ≠ w.heap.size + 2; omega) (.int .i64 0)).far (p := ⟨w.heap.size + 3, 1, none⟩) (by show w.heap.size + 3 ≠ w.heap.size + 2; omega) (.int .i64 0)
    exact bodyPost_ret (ret_cc rfl _ _ (w.heap.size + 2) (w.heap.size + 3) _ _ _ _ _ _ rfl rfl hre hrf Tryz.underlying34 rfl (einfo hew) Tryz.underlying36 rfl (fault_info _ _)) rfl ⟨by rw [HGi.out]; rfl, (HB4.out.setCell (p := ⟨w.heap.size + 3, 0, none⟩) (by show w.heap.size ≤ w.heap.size + 3; omega) _).setCell (p := ⟨w.heap.size + 3, 1, none⟩) (by show w.heap.size ≤ w.heap.size + 3; omega) _⟩
end Go.Proofs.YtkgonoejnochjaaGreatDoor

