/- Texts that SpellNodeCard need. Conditions: those that each states. -/

import Derived.Test.YtkgonoejnochjaaGreatDoorY32
import Derived.Test.YtkgonoejnochjaaGreatDoorY54
set_option linter.unusedSimpArgs false
set_option linter.unusedVariables false
set_option maxRecDepth 8000
namespace Go.Proofs.YtkgonoejnochjaaGreatDoor
namespace TM
theorem er_at : ∀ {a b : List Nd}, TM.er a = TM.er b → ∀ i, er1 (a.getD i n0) = er1 (b.getD i n0)
 | [], [], _, i => rfl
 | [], y :: b, h, i => by rw [TM.er_cons, TM.er] at h; cases h
 | x :: a, [], h, i => by rw [TM.er_cons, TM.er] at h; cases h
 | x :: a, y :: b, h, i => by
   rw [TM.er_cons, TM.er_cons] at h
   injection h with h1 h2
   cases i with
   | zero => exact h1
   | succ i => rw [List.getD_cons_succ, List.getD_cons_succ]; exact er_at h2 i
end TM
open Go.RowKit LX TR TM
set_option maxRecDepth 100000 in
set_option maxHeartbeats 3200000 in
theorem very10_step (N : Nat) (hN : N < 4294967296) (ih : ∀ x y, cnt [x] ≤ N → er1 x = er1 y → ∀ w, Nods w w.heap.size [x] → Nods w w.heap.size [y] → Calls Tryz.prog 12 #[.agg (nv x), .agg (nv y)] w fun e w' => e = .returned (.bool true) ∧ Below w.heap.size w w') (x y : Nd) (hz : cnt [x] ≤ N + 1) (he : er1 x = er1 y) (w : World) (hx : Nods w w.heap.size [x]) (hy : Nods w w.heap.size [y]) :
 Calls Tryz.prog 12 #[.agg (nv x), .agg (nv y)] w fun e w' => e = .returned (.bool true) ∧ Below w.heap.size w w' := by
 have HSA : Hid (∀ W, Below w.heap.size w W → Calls Tryz.prog 26 #[.agg (nv x), .agg (nv y)] W fun e w' => e = .returned (.bool true) ∧ Below W.heap.size W w') := fun W h => by
  have h1 := refSame10_any 4294967296 (Nat.le_refl _) x y (by omega) W ((hx.below h).mono h.size) ((hy.below h).mono h.size)
  rw [sm_same he] at h1
  exact h1
 obtain ⟨xk, xp, xs, xA, xc, xw, xB, xd, xx⟩ := x
 obtain ⟨yk, yp, ys, yA, yc, yw, yB, yd, yy⟩ := y
 unfold er1 nd at he
 simp only [Nd.k, Nd.p, Nd.s, Nd.A, Nd.c, Nd.ws, Nd.B, Nd.d, Nd.ks] at he
 injection he with e1 e2 e3 _ _ e4 _ _ e5
 subst e1 e2 e3 e4
 have hln : xx.length = yy.length := by rw [← TM.er_length xx, e5, TM.er_length]
 have hcz : 1 + xw.length + cnt xx ≤ N + 1 := by rw [cnt_cons] at hz; simp only [cnt, Nat.add_zero] at hz; exact hz
 have hzl := length_cnt xx
 have hxw : xw.length ≤ 4294967296 := by omega
 have hxx : xx.length ≤ 4294967296 := by omega
 have HXK : Hid (∀ W, Below w.heap.size w W → Nods W W.heap.size xx) := fun W h => (hx.kids.below h).mono h.size
 have HYK : Hid (∀ W, Below w.heap.size w W → Nods W W.heap.size yy) := fun W h => (hy.kids.below h).mono h.size
 have HXW : Hid (∀ W, Below w.heap.size w W → Sl W w.heap.size xA (wcs xw)) := fun W h => hx.at.1.1.below h
 have HYW : Hid (∀ W, Below w.heap.size w W → Sl W w.heap.size yA (wcs xw)) := fun W h => hy.at.1.1.below h
 have HXS : Hid (∀ W, Below w.heap.size w W → Sl W w.heap.size xB (ncs xx)) := fun W h => hx.at.2.1.below h
 have HYS : Hid (∀ W, Below w.heap.size w W → Sl W w.heap.size yB (ncs yy)) := fun W h => hy.at.2.1.below h
 have HD : Hid (∀ i, i < xx.length → ∀ W, Below w.heap.size w W → Calls Tryz.prog 12 #[.agg (nv (xx.getD i n0)), .agg (nv (yy.getD i n0))] W fun e w' => e = .returned (.bool true) ∧ Below W.heap.size W w') := fun i hi W h => ih _ _ (by
  have h1 := cnt_mem (getD_memL (z := n0) hi)
  rw [cnt_cons]
  simp only [cnt, Nat.add_zero]
  omega) (er_at e5 i) W ((HXK.out W h).mem (getD_memL hi)) ((HYK.out W h).mem (getD_memL (by rw [← hln]; exact hi)))
 unfold nv at HD HSA ⊢
 simp only [Nd.k, Nd.p, Nd.s, Nd.A, Nd.c, Nd.ws, Nd.B, Nd.d, Nd.ks] at HSA ⊢
 clear hx hy ih HXK HYK hz hcz hzl e5
 have HLN := Lib.hid hln.symm
 rw [← hln] at HSA ⊢
 clear hln
 generalize hnw : xw.length = nw at *
 generalize hnx : xx.length = nx at *
 have HNW := Lib.hid hnw
 have HNX := Lib.hid hnx
 clear hnw hnx
 have hn := RowAt.new w 28 (#[.int .i64 xk, .int .i64 xp, .string xs, .slice xA nw xc, .slice xB nx xd])
 have HRX1 := Lib.hid (hn.alloc (.cells #[.int .i64 xk, .int .i64 xp, .string xs, .slice yA nw yc, .slice yB nx yd] 28))
 have hry := RowAt.new (w.alloc (.cells #[.int .i64 xk, .int .i64 xp, .string xs, .slice xA nw xc, .slice xB nx xd] 28)) 28 (#[.int .i64 xk, .int .i64 xp, .string xs, .slice yA nw yc, .slice yB nx yd])
 rw [show (w.alloc (.cells #[.int .i64 xk, .int .i64 xp, .string xs, .slice xA nw xc, .slice xB nx xd] 28)).heap.size = w.heap.size + 1 by simp] at hry
 have HRY1 := Lib.hid hry
 have HB1 : Hid (Below w.heap.size w ((w.alloc (.cells #[.int .i64 xk, .int .i64 xp, .string xs, .slice xA nw xc, .slice xB nx xd] 28)).alloc (.cells #[.int .i64 xk, .int .i64 xp, .string xs, .slice yA nw yc, .slice yB nx yd] 28))) := ((Below.refl _ _).alloc (Nat.le_refl _) _).alloc (by simp) _
 clear hn hry
 go_enter Tryz.func12, Tryz.ntmps12
 go_upto_region 1 with fail
 generalize ((w.alloc (.cells #[.int .i64 xk, .int .i64 xp, .string xs, .slice xA nw xc, .slice xB nx xd] 28)).alloc (.cells #[.int .i64 xk, .int .i64 xp, .string xs, .slice yA nw yc, .slice yB nx yd] 28)) = w1 at *
 obtain ⟨m0, m1, m2, m3, m4, _, _, _, _, _⟩ := row5 HRX1.out
 obtain ⟨n0', n1', n2', n3', n4', _, _, _, _, _⟩ := row5 HRY1.out
 go_wp2_with fail
 refine (HSA.out w1 HB1.out).mono ?_
 rintro e w2 ⟨rfl, hb⟩
 have HRX := Lib.hid (HRX1.out.below hb HRX1.out.lt)
 have HRY := Lib.hid (HRY1.out.below hb HRY1.out.lt)
 have HB := Lib.hid (HB1.out.trans (hb.mono HB1.out.size))
 clear hb HRX1 HRY1 HB1 m0 m1 m2 m3 m4 n0' n1' n2' n3' n4'
 go_wp2_with fail
 go_loopw [5] (fun iv wr => ∃ i : Nat, i ≤ nw ∧ iv = .int .i64 i ∧ Hid (Below w2.heap.size w2 wr)) (fun iv _ => nw - (intOf iv).toNat)
 case atStart => exact ⟨0, by omega, rfl, Below.refl _ _⟩
 case round =>
  obtain ⟨i, hi, rfl, HW⟩ := hrel
  have HBW := Lib.hid (HB.out.trans (HW.out.mono HB.out.size))
  obtain ⟨m0, m1, m2, m3, m4, _, _, _, _, _⟩ := row5 (HRX.out.below HW.out HRX.out.lt)
  obtain ⟨n0', n1', n2', n3', n4', _, _, _, _, _⟩ := row5 (HRY.out.below HW.out HRY.out.lt)
  by_cases hlt : i < nw
  ·obtain ⟨b1, o1, rfl, _, hc1⟩ := sl_at (z := w0) wcells_length (HXW.out wr HBW.out) (k := i) (by rw [HNW.out]; exact hlt) (by omega)
   obtain ⟨b2, o2, rfl, _, hc2⟩ := sl_at (z := w0) wcells_length (HYW.out wr HBW.out) (k := i) (by rw [HNW.out]; exact hlt) (by omega)
   have p0 := hc1 i 0 _ (by rw [HNW.out]; exact hlt) (by omega) rfl
   have p1 := hc1 i 1 _ (by rw [HNW.out]; exact hlt) (by omega) rfl
   rw [Nat.add_zero] at p0
   rw [← Nat.add_assoc] at p1
   have q0 := hc2 i 0 _ (by rw [HNW.out]; exact hlt) (by omega) rfl
   have q1 := hc2 i 1 _ (by rw [HNW.out]; exact hlt) (by omega) rfl
   rw [Nat.add_zero] at q0
   rw [← Nat.add_assoc] at q1
   have hin : (i : Int) < (nw : Int) := by omega
   clear hc1 hc2
   generalize (xw.getD i w0) = x at *
   obtain ⟨s1, f1⟩ := x
   simp only at p0 q0 p1 q1
   have qe : (s1.toList == s1.toList) = true := (NM.str_eq s1 s1).trans (decide_eq_true rfl)
   have qn : (s1.toList != s1.toList) = false := by rw [bne, qe]; rfl
   go_wp2_with fail
   go_quiet (fail)
   go_wp2_with fail
   go_roundw
   case rel => exact ⟨i + 1, by omega, by go_num, HW.out.trans (((Dr.refl wr).more _).below.mono HW.out.size)⟩
   case measure => simp [intOf]; omega
  ·obtain rfl : i = nw := by omega
   go_wp2_with fail
   obtain ⟨wo, hwo⟩ : ∃ wo : World, wo = wr := ⟨_, rfl⟩
   subst hwo
   go_loopw [6] (fun iv wr => ∃ k : Nat, k ≤ nx ∧ iv = .int .i64 k ∧ Hid (Below w2.heap.size w2 wr)) (fun iv _ => nx - (intOf iv).toNat)
   case atStart => exact ⟨0, by omega, rfl, HW.out⟩
   case round =>
        clear m0 m1 m2 m3 m4 n0' n1' n2' n3' n4' HBW HW
        obtain ⟨i, hi, rfl, HW⟩ := hrel
        have HBW := Lib.hid (HB.out.trans (HW.out.mono HB.out.size))
        obtain ⟨m0, m1, m2, m3, m4, _, _, _, _, _⟩ := row5 (HRX.out.below HW.out HRX.out.lt)
        obtain ⟨n0', n1', n2', n3', n4', _, _, _, _, _⟩ := row5 (HRY.out.below HW.out HRY.out.lt)
        by_cases hlt : i < nx
        ·obtain ⟨b1, o1, rfl, hl1, hc1⟩ := sl_at (z := n0) ncells_length (HXS.out wr HBW.out) (k := i) (by rw [HNX.out]; exact hlt) (by omega)
         obtain ⟨b2, o2, rfl, hl2, hc2⟩ := sl_at (z := n0) ncells_length (HYS.out wr HBW.out) (k := i) (by rw [HLN.out]; exact hlt) (by omega)
         have p0 := hc1 i 0 _ (by rw [HNX.out]; exact hlt) (by omega) rfl
         have p1 := hc1 i 1 _ (by rw [HNX.out]; exact hlt) (by omega) rfl
         have p2 := hc1 i 2 _ (by rw [HNX.out]; exact hlt) (by omega) rfl
         have p3 := hc1 i 3 _ (by rw [HNX.out]; exact hlt) (by omega) rfl
         have p4 := hc1 i 4 _ (by rw [HNX.out]; exact hlt) (by omega) rfl
         rw [Nat.add_zero] at p0
         rw [← Nat.add_assoc] at p1 p2 p3 p4
         have q0 := hc2 i 0 _ (by rw [HLN.out]; exact hlt) (by omega) rfl
         have q1 := hc2 i 1 _ (by rw [HLN.out]; exact hlt) (by omega) rfl
         have q2 := hc2 i 2 _ (by rw [HLN.out]; exact hlt) (by omega) rfl
         have q3 := hc2 i 3 _ (by rw [HLN.out]; exact hlt) (by omega) rfl
         have q4 := hc2 i 4 _ (by rw [HLN.out]; exact hlt) (by omega) rfl
         rw [Nat.add_zero] at q0
         rw [← Nat.add_assoc] at q1 q2 q3 q4
         have hin : (i : Int) < (nx : Int) := by omega
         have HDD := Lib.hid (HD.out i hlt)
         clear hc1 hc2
         generalize (xx.getD i n0) = x at *
         generalize (yy.getD i n0) = y at *
         obtain ⟨ak, ap, as', aA, ac, aw, aB, ad, ax⟩ := x
         obtain ⟨ck, cp, cs', cA, cc, cw, cB', cd, cx⟩ := y
         simp only [Nd.k, Nd.p, Nd.s, Nd.A, Nd.c, Nd.ws, Nd.B, Nd.d, Nd.ks] at p0 p1 p2 p3 p4 q0 q1 q2 q3 q4 HDD
         obtain ⟨S, hSe⟩ : ∃ S : World → Prop, S = fun w' => Below w2.heap.size w2 w' ∧ Below wr.heap.size wr w' := ⟨_, rfl⟩
         have keepS : ∀ wa wb, S wa → Below wa.heap.size wa wb → S wb := fun wa wb h hb => by
          rw [hSe] at h ⊢
          exact ⟨h.1.trans (hb.mono h.1.size), h.2.trans (hb.mono h.2.size)⟩
         have HSB : Hid (∀ W, S W → Below w.heap.size w W) := fun W h => by
          rw [hSe] at h
          exact HB.out.trans (h.1.mono HB.out.size)
         have hl3 : b1 < wr.heap.size := Nat.lt_of_lt_of_le hl1 HBW.out.size
         have hl4 : b2 < wr.heap.size := Nat.lt_of_lt_of_le hl2 HBW.out.size
         have C0 : ∀ W, S W → W.cell? ⟨w.heap.size, 4, none⟩ = some (.slice (some ⟨b1, o1, none⟩) nx xd) := fun W h => by
          rw [hSe] at h
          exact (RowAt.cell (HRX.out.below h.1 HRX.out.lt) 4).trans rfl
         have C1 : ∀ W, S W → W.cell? ⟨w.heap.size + 1, 4, none⟩ = some (.slice (some ⟨b2, o2, none⟩) nx yd) := fun W h => by
          rw [hSe] at h
          exact (RowAt.cell (HRY.out.below h.1 HRY.out.lt) 4).trans rfl
         have P0 : ∀ W, S W → W.cell? ⟨b1, o1 + i * 5, none⟩ = some (.int .i64 ak) := fun W h => by
          rw [hSe] at h
          exact (below_cell h.2 hl3).trans p0
         have P1 : ∀ W, S W → W.cell? ⟨b1, o1 + i * 5 + 1, none⟩ = some (.int .i64 ap) := fun W h => by
          rw [hSe] at h
          exact (below_cell h.2 hl3).trans p1
         have P2 : ∀ W, S W → W.cell? ⟨b1, o1 + i * 5 + 2, none⟩ = some (.string as') := fun W h => by
          rw [hSe] at h
          exact (below_cell h.2 hl3).trans p2
         have P3 : ∀ W, S W → W.cell? ⟨b1, o1 + i * 5 + 3, none⟩ = some (.slice aA aw.length ac) := fun W h => by
          rw [hSe] at h
          exact (below_cell h.2 hl3).trans p3
         have P4 : ∀ W, S W → W.cell? ⟨b1, o1 + i * 5 + 4, none⟩ = some (.slice aB ax.length ad) := fun W h => by
          rw [hSe] at h
          exact (below_cell h.2 hl3).trans p4
         have Q0 : ∀ W, S W → W.cell? ⟨b2, o2 + i * 5, none⟩ = some (.int .i64 ck) := fun W h => by
          rw [hSe] at h
          exact (below_cell h.2 hl4).trans q0
         have Q1 : ∀ W, S W → W.cell? ⟨b2, o2 + i * 5 + 1, none⟩ = some (.int .i64 cp) := fun W h => by
          rw [hSe] at h
          exact (below_cell h.2 hl4).trans q1
         have Q2 : ∀ W, S W → W.cell? ⟨b2, o2 + i * 5 + 2, none⟩ = some (.string cs') := fun W h => by
          rw [hSe] at h
          exact (below_cell h.2 hl4).trans q2
         have Q3 : ∀ W, S W → W.cell? ⟨b2, o2 + i * 5 + 3, none⟩ = some (.slice cA cw.length cc) := fun W h => by
          rw [hSe] at h
          exact (below_cell h.2 hl4).trans q3
         have Q4 : ∀ W, S W → W.cell? ⟨b2, o2 + i * 5 + 4, none⟩ = some (.slice cB' cx.length cd) := fun W h => by
          rw [hSe] at h
          exact (below_cell h.2 hl4).trans q4
         have HS : Hid (S wr.drew) := by
          show S wr.drew
          rw [hSe]
          exact ⟨HW.out.drew, (Below.refl _ _).drew⟩
         go_upto_region 11 with fail
         refine wp_region_ord S [(0, true), (1, true), (2, true), (3, true), (4, true), (5, true), (6, true), (7, true), (8, true), (9, true), (10, false), (11, true)] (by kernel_rfl) (by kernel_rfl) rfl (by kernel_rfl) HS.out ?_
         iterate 10
          (refine wpOrd_step (o := ?_) ?_ ?_; rotate_left 1; (simp only [zA1, zA2, zA3]; with_reducible rfl))
          (first
           | (refine wpOrd_skip (by rfl) ?_)
           | (refine wpOrd_take (v := ?_) (by rfl) ?_ ?_; rotate_left 1; (intro wx hSx; have hc_0 := C0 wx hSx; have hc_1 := C1 wx hSx; have hc_2 := P0 wx hSx; have hc_3 := P1 wx hSx; have hc_4 := P2 wx hSx; have hc_5 := P3 wx hSx; have hc_6 := P4 wx hSx; have hc_7 := Q0 wx hSx; have hc_8 := Q1 wx hSx; have hc_9 := Q2 wx hSx; have hc_10 := Q3 wx hSx; have hc_11 := Q4 wx hSx; go_simp; try with_reducible rfl)))
          (try simp only [Act.put, zA4, zA5, zA6])
         (refine wpOrd_solo (o := ?_) ?_ ?_; rotate_left 1; (simp only [zA1, zA2, zA3]; with_reducible rfl))
         intro K hK
         go_simp
         go_at_call 12
         refine (HDD.out _ (HSB.out _ HS.out)).mono ?_
         rintro e w4 ⟨rfl, hb⟩
         have hS := keepS _ _ HS.out hb
         clear HS
         have HS := Lib.hid hS; clear hS hb
         refine hK.out _ _ HS.out ?_
         clear hK K
         (try simp only [Act.put, zA4, zA5, zA6])
         iterate 1
          (refine wpOrd_step (o := ?_) ?_ ?_; rotate_left 1; (simp only [zA1, zA2, zA3]; with_reducible rfl))
          (first
           | (refine wpOrd_skip (by rfl) ?_)
           | (refine wpOrd_take (v := ?_) (by rfl) ?_ ?_; rotate_left 1; (intro wx hSx; go_simp; try with_reducible rfl)))
          (try simp only [Act.put, zA4, zA5, zA6])
         refine wpOrd_done ?_
         have hS4 := HS.out
         rw [hSe] at hS4
         have HW4 := Lib.hid hS4.1
         clear hS4
         go_wp2_with fail
         go_roundw
         case rel => exact ⟨i + 1, by omega, by go_num, HW4⟩
         case measure => simp [intOf]; omega
        ·obtain rfl : i = nx := by omega
         go_wp2_with fail
         go_ret
         exact ⟨rfl, HBW.out⟩
theorem very10_any : ∀ N, N ≤ 4294967296 → ∀ x y, cnt [x] ≤ N → er1 x = er1 y → ∀ w, Nods w w.heap.size [x] → Nods w w.heap.size [y] → Calls Tryz.prog 12 #[.agg (nv x), .agg (nv y)] w fun e w' => e = .returned (.bool true) ∧ Below w.heap.size w w' := by
 intro N
 induction N with
 | zero => intro _ x y hz; rw [cnt_cons] at hz; omega
 | succ N ih => intro h x y hz; exact very10_step N (by omega) (ih (by omega)) x y hz
end Go.Proofs.YtkgonoejnochjaaGreatDoor
namespace Go.Proofs.YtkgonoejnochjaaGreatDoor
open Go.RowKit LX TR TM SP RM
set_option maxRecDepth 100000 in
set_option maxHeartbeats 6400000 in
theorem spellNode_any (t : Bool) (A : Option Addr) (c : Nat) (fs : List Fac) (e : List Nat) (he : EW e) (w : World) (hT : Tab w) (hF : Facs w A fs) :
 Calls Tryz.prog 4 #[.agg (sv t A fs.length c), .agg (uv e)] w fun e w' => e = .returned (.bool true) ∧ Below w.heap.size w w' := by
 have HB7 : Hid (∀ W, Below w.heap.size w W → Calls Tryz.prog 7 #[.agg (sv t A fs.length c)] W fun e w' => e = .returned (.bool (bigShB fs)) ∧ Below W.heap.size W w') := fun W h => bigS_any t A c fs W (hF.below h)
 have HN1 := Lib.hid (fun W (h : Below w.heap.size w W) => snode_any t A c fs e he W (hT.below h) (hF.below h))
 have HN2 := Lib.hid (fun W (h : Below w.heap.size w W) => qnode11_any t A c fs e he W (hF.below h))
 have HT1 := Lib.hid (fun W (h : Below w.heap.size w W) => stext_any t A c fs e he W (hT.below h) (hF.below h))
 have HT2 := Lib.hid (fun W (h : Below w.heap.size w W) => qtext11_any t A c fs e he W (hF.below h))
 have HAL : Hid (∀ W, Below w.heap.size w W → Calls Tryz.prog 9 #[] W fun e w' => e = .returned (.bool true) ∧ Below W.heap.size W w') := fun W h => alive11_any W (hT.below h)
 have HCN : Hid (∀ z, er1 z = nodeE t fs e → TM.cnt [z] ≤ 4294967296) := fun z hz => by
  have h1 := cnt_vol [nodeE t fs e]
  have h2 := node_vol t fs e
  rw [← hz, cnt_er1] at h1
  rw [← hz] at h2
  show TM.cnt [z] ≤ 4294967296
  omega
 clear hT hF
 generalize nodeE t fs e = ND at *
 generalize bigShB fs = b7 at *
 generalize fs.length = nf at *
 have hs0 := (RowAt.new w 24 (sv t A nf c)).alloc (.cells (uv e) 34)
 have hp0 := RowAt.new (w.alloc (.cells (sv t A nf c) 24)) 34 (uv e)
 rw [show (w.alloc (.cells (sv t A nf c) 24)).heap.size = w.heap.size + 1 by simp] at hp0
 have HBw1 : Hid (Below w.heap.size w ((w.alloc (.cells (sv t A nf c) 24)).alloc (.cells (uv e) 34))) := ((Below.refl _ _).alloc (Nat.le_refl _) _).alloc (by simp) _
 have HSw1 := Lib.hid hs0
 have HPw1 := Lib.hid hp0
 clear hs0 hp0
 go_enter Tryz.func4, Tryz.ntmps4
 go_upto_region 1 with fail
 generalize ((w.alloc (.cells (sv t A nf c) 24)).alloc (.cells (uv e) 34)) = w1 at *
 go_wp2_with (refine wpList_loadShape (by rfl) _ rfl w.heap.size rfl t A nf c HSw1.out ?_)
 refine (HB7.out w1 HBw1.out).mono ?_
 rintro x w2 ⟨rfl, hb⟩
 have HBw2 := Lib.hid (HBw1.out.trans (hb.mono HBw1.out.size))
 have HSw2 := Lib.hid (HSw1.out.below hb HSw1.out.lt)
 have HPw2 := Lib.hid (HPw1.out.below hb HPw1.out.lt)
 clear hb
 cases b7
 case' true =>
  go_wp2_with fail
  refine (HAL.out _ HBw2.out).mono ?_
  rintro x wz ⟨rfl, hb⟩
  have HBZ := Lib.hid (HBw2.out.trans (hb.mono HBw2.out.size))
  clear hb
  go_wp2_with fail
  go_ret
  exact ⟨rfl, HBZ.out⟩
 case' false =>
  go_upto_region 3 with fail
  obtain ⟨S, hSe⟩ : ∃ S : World → Prop, S = fun W => Below w2.heap.size w2 W := ⟨_, rfl⟩
  have SI : Hid (∀ W, Below w2.heap.size w2 W → S W) := fun W h => by rw [hSe]; exact h
  have pS : ∀ W, S W → RowAt W w.heap.size 24 (sv t A nf c) := fun W h => by rw [hSe] at h; exact HSw2.out.below h HSw2.out.lt
  have pE : ∀ W, S W → RowAt W (w.heap.size + 1) 34 (uv e) := fun W h => by rw [hSe] at h; exact HPw2.out.below h HPw2.out.lt
  clear hSe
  have HVV : Hid (Below w2.heap.size w2 w2.drew) := (Below.refl _ _).drew
  have HWB : Hid (∀ W, Below w2.heap.size w2 W → Below w.heap.size w W) := fun W h => HBw2.out.trans (h.mono HBw2.out.size)
  refine wp_region_ord S [(0, true), (1, true), (3, true), (4, true), (2, false), (5, false), (6, false), (7, true), (8, true), (9, true), (11, true), (12, true), (10, false), (13, false), (14, true), (15, true), (16, true), (17, false), (18, true), (19, true)] (by kernel_rfl) (by kernel_rfl) rfl (by kernel_rfl) (SI.out _ HVV.out) ?_
  generalize w2.drew = V at HVV ⊢
  iterate 4
   (refine wpOrd_step (o := ?_) ?_ ?_; rotate_left 1; (simp only [zA1, zA2, zA3]; with_reducible rfl))
   (first
    | (refine wpOrd_skip (by rfl) ?_)
    | (refine wpOrd_take (by rfl) (take_loadShape _ rfl _ rfl _ _ _ _ pS) ?_)
    | (refine wpOrd_take (by rfl) (take_loadElem _ rfl _ rfl _ he pE) ?_)
    | (refine wpOrd_take (v := ?_) (by rfl) ?_ ?_; rotate_left 1; (intro wx hSx; go_simp; try with_reducible rfl)))
   (try simp only [Act.put, zA4, zA5, zA6])
  (refine wpOrd_solo (o := ?_) ?_ ?_; rotate_left 1; (simp only [zA1, zA2, zA3]; with_reducible rfl))
  intro K hK
  go_simp
  refine (HN1.out V (HWB.out _ HVV.out)).mono ?_
  rintro x w3 ⟨y, rfl, ⟨z, rfl, hez, hdz⟩, hb⟩
  have HVw3 := Lib.hid (HVV.out.trans (hb.mono HVV.out.size))
  clear hb
  refine hK.out _ _ (SI.out _ HVw3.out) ?_
  clear hK K
  (try simp only [Act.put, zA4, zA5, zA6])
  have HZ := Lib.hid (And.intro hez hdz.nods)
  clear hez hdz
  (refine wpOrd_solo (o := ?_) ?_ ?_; rotate_left 1; (simp only [zA1, zA2, zA3]; with_reducible rfl))
  intro K hK
  go_simp
  refine (HN2.out w3 (HWB.out _ HVw3.out)).mono ?_
  rintro x w4 ⟨y, rfl, ⟨z2, rfl, hez, hdz⟩, hb⟩
  have HVw4 := Lib.hid (HVw3.out.trans (hb.mono HVw3.out.size))
  have HZ3 := Lib.hid ((HZ.out.2.below hb).mono hb.size)
  clear hb
  refine hK.out _ _ (SI.out _ HVw4.out) ?_
  clear hK K
  (try simp only [Act.put, zA4, zA5, zA6])
  have HZ2 := Lib.hid (And.intro hez hdz.nods)
  clear hez hdz
  have HVE := Lib.hid (very10_any 4294967296 (Nat.le_refl _) z z2 (HCN.out z HZ.out.1) (HZ.out.1.trans HZ2.out.1.symm) w4 HZ3.out HZ2.out.2)
  clear HZ HZ2 HZ3
  (refine wpOrd_solo (o := ?_) ?_ ?_; rotate_left 1; (simp only [zA1, zA2, zA3]; with_reducible rfl))
  intro K hK
  go_simp
  refine (HVE.out).mono ?_
  rintro x w5 ⟨rfl, hb⟩
  have HVw5 := Lib.hid (HVw4.out.trans (hb.mono HVw4.out.size))
  clear hb
  refine hK.out _ _ (SI.out _ HVw5.out) ?_
  clear hK K
  (try simp only [Act.put, zA4, zA5, zA6])
  clear HVE
  iterate 5
   (refine wpOrd_step (o := ?_) ?_ ?_; rotate_left 1; (simp only [zA1, zA2, zA3]; with_reducible rfl))
   (first
    | (refine wpOrd_skip (by rfl) ?_)
    | (refine wpOrd_take (by rfl) (take_loadShape _ rfl _ rfl _ _ _ _ pS) ?_)
    | (refine wpOrd_take (by rfl) (take_loadElem _ rfl _ rfl _ he pE) ?_)
    | (refine wpOrd_take (v := ?_) (by rfl) ?_ ?_; rotate_left 1; (intro wx hSx; go_simp; try with_reducible rfl)))
   (try simp only [Act.put, zA4, zA5, zA6])
  (refine wpOrd_solo (o := ?_) ?_ ?_; rotate_left 1; (simp only [zA1, zA2, zA3]; with_reducible rfl))
  intro K hK
  go_simp
  refine (HT1.out w5 (HWB.out _ HVw5.out)).mono ?_
  rintro x w6 ⟨⟨s1, rfl, hs1⟩, hb⟩
  have HVw6 := Lib.hid (HVw5.out.trans (hb.mono HVw5.out.size))
  clear hb
  refine hK.out _ _ (SI.out _ HVw6.out) ?_
  clear hK K
  (try simp only [Act.put, zA4, zA5, zA6])
  (refine wpOrd_solo (o := ?_) ?_ ?_; rotate_left 1; (simp only [zA1, zA2, zA3]; with_reducible rfl))
  intro K hK
  go_simp
  refine (HT2.out w6 (HWB.out _ HVw6.out)).mono ?_
  rintro x w7 ⟨⟨s2, rfl, hs2⟩, hb⟩
  have HVw7 := Lib.hid (HVw6.out.trans (hb.mono HVw6.out.size))
  clear hb
  refine hK.out _ _ (SI.out _ HVw7.out) ?_
  clear hK K
  (try simp only [Act.put, zA4, zA5, zA6])
  obtain rfl : s2 = s1 := LX.lst_inj (hs2.trans hs1.symm)
  clear hs1 hs2
  iterate 3
   (refine wpOrd_step (o := ?_) ?_ ?_; rotate_left 1; (simp only [zA1, zA2, zA3]; with_reducible rfl))
   (first
    | (refine wpOrd_skip (by rfl) ?_)
    | (refine wpOrd_take (by rfl) (take_loadShape _ rfl _ rfl _ _ _ _ pS) ?_)
    | (refine wpOrd_take (by rfl) (take_loadElem _ rfl _ rfl _ he pE) ?_)
    | (refine wpOrd_take (v := ?_) (by rfl) ?_ ?_; rotate_left 1; (intro wx hSx; go_simp; try with_reducible rfl)))
   (try simp only [Act.put, zA4, zA5, zA6])
  (refine wpOrd_solo (o := ?_) ?_ ?_; rotate_left 1; (simp only [zA1, zA2, zA3]; with_reducible rfl))
  intro K hK
  go_simp
  refine (HAL.out w7 (HWB.out _ HVw7.out)).mono ?_
  rintro x w8 ⟨rfl, hb⟩
  have HVw8 := Lib.hid (HVw7.out.trans (hb.mono HVw7.out.size))
  clear hb
  refine hK.out _ _ (SI.out _ HVw8.out) ?_
  clear hK K
  (try simp only [Act.put, zA4, zA5, zA6])
  iterate 2
   (refine wpOrd_step (o := ?_) ?_ ?_; rotate_left 1; (simp only [zA1, zA2, zA3]; with_reducible rfl))
   (first
    | (refine wpOrd_skip (by rfl) ?_)
    | (refine wpOrd_take (by rfl) (take_loadShape _ rfl _ rfl _ _ _ _ pS) ?_)
    | (refine wpOrd_take (by rfl) (take_loadElem _ rfl _ rfl _ he pE) ?_)
    | (refine wpOrd_take (v := ?_) (by rfl) ?_ ?_; rotate_left 1; (intro wx hSx; go_simp; try with_reducible rfl)))
   (try simp only [Act.put, zA4, zA5, zA6])
  refine wpOrd_done ?_
  have HB8 := Lib.hid (HWB.out _ HVw8.out)
  go_wp2_with fail
  go_ret
  exact ⟨rfl, HB8.out⟩
end Go.Proofs.YtkgonoejnochjaaGreatDoor

