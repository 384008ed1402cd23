/- Texts that all the claims need. Conditions: those that each states. -/

import Derived.Test.YtmffnkfohmbbeaaGreatDoorCi13
set_option linter.unusedSimpArgs false
set_option linter.unusedVariables false
set_option maxRecDepth 100000
set_option maxHeartbeats 40000000
namespace Go.Proofs.YtmffnkfohmbbeaaGreatDoor
section
open Go.RowKit LX TR TM DT CM
structure CmIn (w : World) (B : Nat) (x : Cm) : Prop where
 ws : Sl w B x.A (wcs x.ws)
 wc : x.ws.length ≤ x.c
 ps : Sl w B x.B (pwcs x.ps)
 pc : x.ps.length ≤ x.d
 l : Nods w B [x.l]
 r : Nods w B [x.r]
section
variable {w w' : World} {B B' : Nat} {x : Cm} {ok : Nat → Prop}
theorem CmIn.below (h : CmIn w B x) (hb : Below B w w') : CmIn w' B x := ⟨h.ws.below hb, h.wc, h.ps.below hb, h.pc, h.l.below hb, h.r.below hb⟩
theorem CmIn.mono (h : CmIn w B x) (hB : B ≤ B') : CmIn w B' x := ⟨h.ws.mono hB, h.wc, h.ps.mono hB, h.pc, h.l.mono hB, h.r.mono hB⟩
theorem DeepC.inn (h : DeepC w ok x) : CmIn w w.heap.size x := ⟨h.ws.sl, h.wc, h.ps.sl, h.pc, h.l.nods, h.r.nods⟩
end
namespace CM
def SmlC (x : Cm) : Prop := x.ws.length ≤ 4294967296 ∧ x.ps.length ≤ 4294967296 ∧ cnt [x.l] ≤ 4294967296 ∧ cnt [x.r] ≤ 4294967296
def pw0 : Pw := ⟨w0, w0⟩
theorem smC_no {x y : Cm} (h : x.op ≠ y.op ∨ x.n.s ≠ y.n.s ∨ x.ws.length ≠ y.ws.length ∨ x.ps.length ≠ y.ps.length) : smC x y = false := by
 unfold smC
 rcases h with h | h | h | h
 ·rw [zF h]; rfl
 ·rw [zF h]; simp
 ·rw [eqL_len h]; simp
 ·rw [eqL_len (a := x.ps) h]; simp
theorem smC_w {x y : Cm} (h : x.ws.length = y.ws.length) {i : Nat} (hi : i < x.ws.length) (hg : sw (x.ws.getD i w0) (y.ws.getD i w0) = false) : smC x y = false := by
 unfold smC
 rw [eqL_hit h i hi hg]; simp
theorem smC_p {x y : Cm} (h : x.ps.length = y.ps.length) {i : Nat} (hi : i < x.ps.length) (hg : spw (x.ps.getD i pw0) (y.ps.getD i pw0) = false) : smC x y = false := by
 unfold smC
 rw [eqL_hit h i hi hg]; simp
theorem smC_go {x y : Cm} (h1 : x.op = y.op) (h2 : x.n.s = y.n.s) (h3 : x.ws.length = y.ws.length) (h4 : x.ps.length = y.ps.length) (hw : ∀ i, i < x.ws.length → sw (x.ws.getD i w0) (y.ws.getD i w0) = true) (hp : ∀ i, i < x.ps.length → spw (x.ps.getD i pw0) (y.ps.getD i pw0) = true) : smC x y = (sm x.l y.l && sm x.r y.r) := by
 unfold smC
 rw [zE h1, zE h2, eqL_all h3 hw, eqL_all h4 hp]; rfl
end CM
theorem qsame_any (x y : Cm) (w : World) (hx : CmIn w w.heap.size x) (hy : CmIn w w.heap.size y) (sx : SmlC x) (sy : SmlC y) :
 Calls Tryz.prog 11 #[.agg (cv x), .agg (cv y)] w fun e w' => e = .returned (.bool (smC x y)) ∧ Below w.heap.size w w' := by
 have hgx := (RowAt.new w 30 (cv x)).alloc (.cells (cv y) 30)
 have hgy := RowAt.new (w.alloc (.cells (cv x) 30)) 30 (cv y)
 rw [show (w.alloc (.cells (cv x) 30)).heap.size = w.heap.size + 1 by simp] at hgy
 have hb1 : Below w.heap.size w ((w.alloc (.cells (cv x) 30)).alloc (.cells (cv y) 30)) := ((zB _ _).alloc (zL _) _).alloc (by simp) _
 have HX1 := zh hgx
 have HY1 := zh hgy
 have HB1 := zh hb1
 have HIX := zh hx
 have HIY := zh hy
 have HNO := zh (@smC_no x y)
 have HSW := zh (@smC_w x y)
 have HSP := zh (@smC_p x y)
 have HGO := zh (@smC_go x y)
 have HSL : Hid (∀ W, Below w.heap.size w W → Calls Tryz.prog 35 #[.agg (nv x.l), .agg (nv y.l)] W fun e w' => e = .returned (.bool (sm x.l y.l)) ∧ Below W.heap.size W w') := zh fun W h => refSame10_any 4294967296 (zL _) x.l y.l sx.2.2.1 W ((hx.l.below h).mono h.size) ((hy.l.below h).mono h.size)
 have HSR : Hid (∀ W, Below w.heap.size w W → Calls Tryz.prog 35 #[.agg (nv x.r), .agg (nv y.r)] W fun e w' => e = .returned (.bool (sm x.r y.r)) ∧ Below W.heap.size W w') := zh fun W h => refSame10_any 4294967296 (zL _) x.r y.r sx.2.2.2 W ((hx.r.below h).mono h.size) ((hy.r.below h).mono h.size)
 obtain ⟨sx1, sx2, _, _⟩ := sx
 unfold nv at HSL HSR
 generalize smC x y = res at *
 generalize sm x.l y.l = rl at *
 generalize sm x.r y.r = rr at *
 clear hgx hgy hb1 hx hy sy
 go_enter Tryz.func11, Tryz.ntmps11
 go_upto_region 1 with fail
 change Code.wp _ _ _ _ ((w.alloc (.cells (cv x) 30)).alloc (.cells (cv y) 30))
 generalize ((w.alloc (.cells (cv x) 30)).alloc (.cells (cv y) 30)) = w1 at *
 have xc0 := (HX1.out.cell 0).trans (show (cv x)[0]? = some (.int .i64 x.op) from rfl)
 have xc2 := (HX1.out.cell 2).trans (show (cv x)[2]? = some (.string x.n.s) from rfl)
 have xc4 := (HX1.out.cell 4).trans (show (cv x)[4]? = some (.slice x.A x.ws.length x.c) from rfl)
 have xc5 := (HX1.out.cell 5).trans (show (cv x)[5]? = some (.slice x.B x.ps.length x.d) from rfl)
 have yc0 := (HY1.out.cell 0).trans (show (cv y)[0]? = some (.int .i64 y.op) from rfl)
 have yc2 := (HY1.out.cell 2).trans (show (cv y)[2]? = some (.string y.n.s) from rfl)
 have yc4 := (HY1.out.cell 4).trans (show (cv y)[4]? = some (.slice y.A y.ws.length y.c) from rfl)
 have yc5 := (HY1.out.cell 5).trans (show (cv y)[5]? = some (.slice y.B y.ps.length y.d) from rfl)
 have qs := NM.str_eq x.n.s y.n.s
 by_cases h1 : x.op = y.op
 ·have e1 : (x.op != y.op) = false := by rw [bne_eq_false_iff_eq]; exact h1
  by_cases h2 : x.n.s = y.n.s
  ·rw [zE h2] at qs
   have e2 : (x.n.s.toList != y.n.s.toList) = false := by rw [bne, qs]; rfl
   by_cases h3 : x.ws.length = y.ws.length
   ·by_cases h4 : x.ps.length = y.ps.length
    ·have e3 : ((x.ws.length : Int) != (y.ws.length : Int)) = false := by rw [h3, bne_self_eq_false]
     have e4 : ((x.ps.length : Int) != (y.ps.length : Int)) = false := by rw [h4, bne_self_eq_false]
     have HLW := zh h3
     have HLP := zh h4
     have HG := zh (HGO.out h1 h2 h3 h4)
     have HSW2 := zh (fun i => HSW.out h3 (i := i))
     have HSP2 := zh (fun i => HSP.out h4 (i := i))
     clear HNO HSW HSP HGO h1 h2 h3 h4
     generalize hnx : x.ws.length = nx at *
     generalize hny : y.ws.length = ny at *
     generalize hmx : x.ps.length = mx at *
     generalize hmy : y.ps.length = my at *
     have HNX := zh hnx
     have HNY := zh hny
     have HMX := zh hmx
     have HMY := zh hmy
     clear hnx hny hmx hmy
     go_wp2_with fail
     clear qs e1 e2 e3 e4 xc0 xc2 xc4 xc5 yc0 yc2 yc4 yc5
     go_loopw [5, 4] (fun iv _ wr => ∃ i : Nat, i ≤ nx ∧ iv = .int .i64 (i : Int) ∧ Hid (∀ j, j < i → sw (x.ws.getD j w0) (y.ws.getD j w0) = true) ∧ Hid (Below w1.heap.size w1 wr)) (fun iv _ _ => nx - (intOf iv).toNat)
     case atStart => exact ⟨0, by omega, rfl, fun j hj => by omega, zB _ _⟩
     case round =>
          obtain ⟨i, hi, rfl, HD, HW⟩ := hrel
          have HBW := zh (HB1.out.trans (HW.out.mono HB1.out.size))
          have HXW := zh (HX1.out.below HW.out HX1.out.lt)
          have HYW := zh (HY1.out.below HW.out HY1.out.lt)
          have xc4 : wr.cell? ⟨w.heap.size, 4, none⟩ = some (.slice x.A nx x.c) := by rw [← HNX.out]; exact (HXW.out.cell 4).trans rfl
          have yc4 : wr.cell? ⟨w.heap.size + 1, 4, none⟩ = some (.slice y.A ny y.c) := by rw [← HNY.out]; exact (HYW.out.cell 4).trans rfl
          by_cases hlt : i < nx
          ·have hly : i < ny := by have := HLW.out; omega
           obtain ⟨b1, o1, hA1, _, hc1⟩ := sl_at (z := w0) wcells_length (HIX.out.ws.below HBW.out) (k := i) (by rw [HNX.out]; exact hlt) (by omega)
           obtain ⟨b2, o2, hA2, _, hc2⟩ := sl_at (z := w0) wcells_length (HIY.out.ws.below HBW.out) (k := i) (by rw [HNY.out]; exact hly) (by omega)
           rw [hA1] at xc4
           rw [hA2] at yc4
           clear hA1 hA2
           have p0 := hc1 i 0 _ (by rw [HNX.out]; exact hlt) (by omega) rfl
           have q0 := hc2 i 0 _ (by rw [HNY.out]; exact hly) (by omega) rfl
           rw [Nat.add_zero] at p0 q0
           have hin : (i : Int) < (nx : Int) := by omega
           have hin2 : (i : Int) < (ny : Int) := by omega
           have HS1 := zh (HSW2.out i hlt)
           have hsw : sw (x.ws.getD i w0) (y.ws.getD i w0) = decide ((x.ws.getD i w0).s = (y.ws.getD i w0).s) := rfl
           have qs := NM.str_eq (x.ws.getD i w0).s (y.ws.getD i w0).s
           rw [← hsw] at qs
           have HNX2 : Hid (sw (x.ws.getD i w0) (y.ws.getD i w0) = true → ∀ j, j < i + 1 → sw (x.ws.getD j w0) (y.ws.getD j w0) = true) := zh fun h j hj => by
            by_cases e : j = i
            ·rw [e]; exact h
            ·exact HD.out j (by omega)
           clear hc1 hc2 hsw HD
           generalize sw (x.ws.getD i w0) (y.ws.getD i w0) = bs at *
           generalize (x.ws.getD i w0).s = s1 at *
           generalize (y.ws.getD i w0).s = s2 at *
           have qn : (s1.toList != s2.toList) = !bs := by rw [bne, qs]
           cases bs with
           | true =>
             go_wp2_with fail
             go_quiet (fail)
             go_wp2_with fail
             go_roundw
             case rel => exact ⟨i + 1, by omega, by go_num, HNX2.out trivial, HW.out.trans (((Dr.refl wr).more _).below.mono HW.out.size)⟩
             case measure => simp [intOf]; omega
           | false =>
             obtain rfl := HS1.out rfl
             go_wp2_with fail
             go_quiet (fail)
             go_wp2_with fail
             go_ret
             exact ⟨rfl, HBW.out.trans (((Dr.refl wr).more _).below.mono HBW.out.size)⟩
          ·obtain rfl : i = nx := by omega
           have HDW := zh (HG.out HD.out)
           clear HD HG
           go_wp2_with fail
           obtain ⟨wo, hwo⟩ : ∃ wo : World, wo = wr := ⟨_, rfl⟩
           subst hwo
           go_loopw [6, 4] (fun iv _ wr => ∃ k : Nat, k ≤ mx ∧ iv = .int .i64 (k : Int) ∧ Hid (∀ j, j < k → spw (x.ps.getD j pw0) (y.ps.getD j pw0) = true) ∧ Hid (Below w1.heap.size w1 wr)) (fun iv _ _ => mx - (intOf iv).toNat)
           case atStart => exact ⟨0, by omega, rfl, fun j hj => by omega, HW.out⟩
           case round =>
            clear xc4 yc4 HXW HYW HBW HW
            obtain ⟨i, hi, rfl, HD, HW⟩ := hrel
            have HBW := zh (HB1.out.trans (HW.out.mono HB1.out.size))
            have HXW := zh (HX1.out.below HW.out HX1.out.lt)
            have HYW := zh (HY1.out.below HW.out HY1.out.lt)
            have xc5 : wr.cell? ⟨w.heap.size, 5, none⟩ = some (.slice x.B mx x.d) := by rw [← HMX.out]; exact (HXW.out.cell 5).trans rfl
            have yc5 : wr.cell? ⟨w.heap.size + 1, 5, none⟩ = some (.slice y.B my y.d) := by rw [← HMY.out]; exact (HYW.out.cell 5).trans rfl
            by_cases hlt : i < mx
            ·have hly : i < my := by have := HLP.out; omega
             obtain ⟨b1, o1, hA1, _, hc1⟩ := sl_at (z := pw0) pwcells_length (HIX.out.ps.below HBW.out) (k := i) (by rw [HMX.out]; exact hlt) (by omega)
             obtain ⟨b2, o2, hA2, _, hc2⟩ := sl_at (z := pw0) pwcells_length (HIY.out.ps.below HBW.out) (k := i) (by rw [HMY.out]; exact hly) (by omega)
             rw [hA1] at xc5
             rw [hA2] at yc5
             clear hA1 hA2
             have p0 := hc1 i 0 _ (by rw [HMX.out]; exact hlt) (by omega) rfl
             have p2 := hc1 i 2 _ (by rw [HMX.out]; exact hlt) (by omega) rfl
             have q0 := hc2 i 0 _ (by rw [HMY.out]; exact hly) (by omega) rfl
             have q2 := hc2 i 2 _ (by rw [HMY.out]; exact hly) (by omega) rfl
             rw [Nat.add_zero] at p0 q0
             rw [← Nat.add_assoc] at p2 q2
             have hin : (i : Int) < (mx : Int) := by omega
             have hin2 : (i : Int) < (my : Int) := by omega
             have HS1 := zh (HSP2.out i hlt)
             have hsw : spw (x.ps.getD i pw0) (y.ps.getD i pw0) = (decide ((x.ps.getD i pw0).a.s = (y.ps.getD i pw0).a.s) && decide ((x.ps.getD i pw0).b.s = (y.ps.getD i pw0).b.s)) := rfl
             have qs := NM.str_eq (x.ps.getD i pw0).a.s (y.ps.getD i pw0).a.s
             have qt := NM.str_eq (x.ps.getD i pw0).b.s (y.ps.getD i pw0).b.s
             have HNX2 : Hid (spw (x.ps.getD i pw0) (y.ps.getD i pw0) = true → ∀ j, j < i + 1 → spw (x.ps.getD j pw0) (y.ps.getD j pw0) = true) := zh fun h j hj => by
               by_cases e : j = i
               ·rw [e]; exact h
               ·exact HD.out j (by omega)
             generalize decide ((x.ps.getD i pw0).a.s = (y.ps.getD i pw0).a.s) = ba at *
             generalize decide ((x.ps.getD i pw0).b.s = (y.ps.getD i pw0).b.s) = bb at *
             rw [hsw] at HS1 HNX2
             clear hc1 hc2 hsw HD
             generalize (x.ps.getD i pw0).a.s = s1 at *
             generalize (y.ps.getD i pw0).a.s = s2 at *
             generalize (x.ps.getD i pw0).b.s = t1 at *
             generalize (y.ps.getD i pw0).b.s = t2 at *
             have qn : (s1.toList != s2.toList) = !ba := by rw [bne, qs]
             have qm : (t1.toList != t2.toList) = !bb := by rw [bne, qt]
             cases ba with
             | false =>
               obtain rfl := HS1.out rfl
               go_wp2_with fail
               go_quiet (fail)
               go_wp2_with fail
               go_ret
               exact ⟨rfl, HBW.out.trans (((Dr.refl wr).more _).below.mono HBW.out.size)⟩
             | true =>
               cases bb with
               | false =>
                 obtain rfl := HS1.out rfl
                 go_wp2_with fail
                 go_quiet (fail)
                 go_wp2_with fail
                 go_ret
                 exact ⟨rfl, HBW.out.trans (((Dr.refl wr).more _).below.mono HBW.out.size)⟩
               | true =>
                 go_wp2_with fail
                 go_quiet (fail)
                 go_wp2_with fail
                 go_roundw
                 case rel => exact ⟨i + 1, by omega, by go_num, HNX2.out rfl, HW.out.trans (((Dr.refl wr).more _).below.mono HW.out.size)⟩
                 case measure => simp [intOf]; omega
            ·obtain rfl : i = mx := by omega
             have HRS := zh (HDW.out HD.out)
             clear HD HDW xc5 yc5
             have xc7 := (HXW.out.cell 7).trans (show (cv x)[7]? = some (.int .i64 x.l.k) from rfl)
             have xc8 := (HXW.out.cell 8).trans (show (cv x)[8]? = some (.int .i64 x.l.p) from rfl)
             have xc9 := (HXW.out.cell 9).trans (show (cv x)[9]? = some (.string x.l.s) from rfl)
             have xc10 := (HXW.out.cell 10).trans (show (cv x)[10]? = some (.slice x.l.A x.l.ws.length x.l.c) from rfl)
             have xc11 := (HXW.out.cell 11).trans (show (cv x)[11]? = some (.slice x.l.B x.l.ks.length x.l.d) from rfl)
             have yc7 := (HYW.out.cell 7).trans (show (cv y)[7]? = some (.int .i64 y.l.k) from rfl)
             have yc8 := (HYW.out.cell 8).trans (show (cv y)[8]? = some (.int .i64 y.l.p) from rfl)
             have yc9 := (HYW.out.cell 9).trans (show (cv y)[9]? = some (.string y.l.s) from rfl)
             have yc10 := (HYW.out.cell 10).trans (show (cv y)[10]? = some (.slice y.l.A y.l.ws.length y.l.c) from rfl)
             have yc11 := (HYW.out.cell 11).trans (show (cv y)[11]? = some (.slice y.l.B y.l.ks.length y.l.d) from rfl)
             have hml : ((i : Nat) : Int) < (i : Int) → False := fun h => by omega
             have xc5 : wr.cell? ⟨w.heap.size, 5, none⟩ = some (.slice x.B i x.d) := by rw [← HMX.out]; exact (HXW.out.cell 5).trans rfl
             clear hml
             go_wp2_with fail
             refine (HSL.out wr HBW.out).mono ?_
             rintro e w5 ⟨rfl, hb5⟩
             have HXV := zh (HXW.out.below hb5 HXW.out.lt)
             have HYV := zh (HYW.out.below hb5 HYW.out.lt)
             have HBV := zh (HBW.out.trans (hb5.mono HBW.out.size))
             clear hb5 xc5 xc7 xc8 xc9 xc10 xc11 yc7 yc8 yc9 yc10 yc11
             have xc12 := (HXV.out.cell 12).trans (show (cv x)[12]? = some (.int .i64 x.r.k) from rfl)
             have xc13 := (HXV.out.cell 13).trans (show (cv x)[13]? = some (.int .i64 x.r.p) from rfl)
             have xc14 := (HXV.out.cell 14).trans (show (cv x)[14]? = some (.string x.r.s) from rfl)
             have xc15 := (HXV.out.cell 15).trans (show (cv x)[15]? = some (.slice x.r.A x.r.ws.length x.r.c) from rfl)
             have xc16 := (HXV.out.cell 16).trans (show (cv x)[16]? = some (.slice x.r.B x.r.ks.length x.r.d) from rfl)
             have yc12 := (HYV.out.cell 12).trans (show (cv y)[12]? = some (.int .i64 y.r.k) from rfl)
             have yc13 := (HYV.out.cell 13).trans (show (cv y)[13]? = some (.int .i64 y.r.p) from rfl)
             have yc14 := (HYV.out.cell 14).trans (show (cv y)[14]? = some (.string y.r.s) from rfl)
             have yc15 := (HYV.out.cell 15).trans (show (cv y)[15]? = some (.slice y.r.A y.r.ws.length y.r.c) from rfl)
             have yc16 := (HYV.out.cell 16).trans (show (cv y)[16]? = some (.slice y.r.B y.r.ks.length y.r.d) from rfl)
             cases rl with
             | false =>
               go_wp2_with fail
               go_ret
               exact ⟨ret_eq (by rw [HRS.out]; rfl), HBV.out⟩
             | true =>
               go_wp2_with fail
               refine (HSR.out w5 HBV.out).mono ?_
               rintro e w6 ⟨rfl, hb6⟩
               go_wp2_with fail
               go_ret
               exact ⟨ret_eq (by rw [HRS.out]; rfl), HBV.out.trans (hb6.mono HBV.out.size)⟩
    ·have hr := HNO.out (.inr (.inr (.inr h4)))
     have e3 : ((x.ws.length : Int) != (y.ws.length : Int)) = false := by rw [h3, bne_self_eq_false]
     have e4 : ((x.ps.length : Int) != (y.ps.length : Int)) = true := by rw [bne_iff_ne]; omega
     clear h1 h2 h3 h4
     subst hr
     go_wp2_with fail
     go_ret
     exact ⟨rfl, HB1.out⟩
   ·have hr := HNO.out (.inr (.inr (.inl h3)))
    have e3 : ((x.ws.length : Int) != (y.ws.length : Int)) = true := by rw [bne_iff_ne]; omega
    clear h1 h2 h3
    subst hr
    go_wp2_with fail
    go_ret
    exact ⟨rfl, HB1.out⟩
  ·have hr := HNO.out (.inr (.inl h2))
   rw [zF h2] at qs
   have e2 : (x.n.s.toList != y.n.s.toList) = true := by rw [bne, qs]; rfl
   clear h1 h2
   subst hr
   go_wp2_with fail
   go_ret
   exact ⟨rfl, HB1.out⟩
 ·have hr := HNO.out (.inl h1)
  have e1 : (x.op != y.op) = true := by rw [bne_iff_ne]; exact h1
  clear h1 qs
  subst hr
  go_wp2_with fail
  go_ret
  exact ⟨rfl, HB1.out⟩
end
section
open Go.RowKit LX TR TM CM
theorem ccells_length : ccells.length = 32 := rfl
theorem run_index_cmd {k : Nat} (hk : k < 16) (w : World) : (Instr.index 75 (.agg ccells.toArray) (.int .i64 (k : Int))).run Tryz.prog w = .ok (.agg #[.string (kws.getD k ⟨#[]⟩), .string (lts.getD k ⟨#[]⟩)]) w := by
 have h0 := ccells_at hk (j := 0) (by omega)
 have h1 := ccells_at hk (j := 1) (by omega)
 rw [Nat.add_zero] at h0
 unfold Instr.index
 simp only [asIntOf, Sem.run_bind, Sem.run_pure, Result.andThen_ok, Tryz.runUnderlying75]
 rw [if_pos (by omega)]
 simp only [Sem.run_bind, Tryz.sizeOf74, Result.andThen_ok, Int.toNat_natCast]
 unfold part
 rw [Sem.run_bind, Tryz.isAgg74]
 simp only [Result.andThen_ok, if_true, Sem.run_bind, Tryz.sizeOf74, Sem.run_pure]
 have e : ccells.toArray.extract (k * 2) (k * 2 + 2) = #[.string (kws.getD k ⟨#[]⟩), .string (lts.getD k ⟨#[]⟩)] := by
  apply Array.ext_getElem?
  intro j
  rw [Array.getElem?_extract]
  by_cases hj : j < 2
  ·have hl : min (k * 2 + 2) ccells.toArray.size - k * 2 = 2 := by rw [List.size_toArray, ccells_length]; omega
   rw [hl, if_pos hj, zA1]
   rcases Nat.lt_or_ge j 1 with h | h
   ·obtain rfl : j = 0 := by omega
    rw [Nat.add_zero, h0]; rfl
   ·obtain rfl : j = 1 := by omega
    rw [h1]; rfl
  ·have hl : min (k * 2 + 2) ccells.toArray.size - k * 2 = 2 := by rw [List.size_toArray, ccells_length]; omega
   rw [hl, if_neg hj]
   symm
   rw [Array.getElem?_eq_none (by simp; omega)]
 rw [e]
theorem number_cmd (s : ByteArray) (w : World) (hT : Cmds w) : Calls Tryz.prog 92 #[.string s] w fun e w' => e = .returned (.int .i64 ((numOf s : Nat) : Int)) ∧ Below w.heap.size w w' := by
 have HT := zh hT
 have HEND : Hid ((∀ j, j < 16 → kws.getD j ⟨#[]⟩ ≠ s) → numOf s = 0) := zh fun h => by
  by_cases h0 : numOf s = 0
  ·exact h0
  ·exact absurd (numOf_get h0) (h _ (numOf_lt s))
 have HIX := zh (fun k hk => run_index_cmd (k := k) hk)
 go_enter Tryz.func92, Tryz.ntmps92
 go_wp2_with (refine wpList_load_mid rfl _ _ rfl 0 0 rfl ccells _ HT.out Tryz.underlying75 rfl (by rw [ccells_length]; kernel_rfl) ?_)
 generalize ccells.toArray = CC at *
 go_loopw [6, 3, 4] (fun iv ov pv wr => ∃ i : Nat, i ≤ 16 ∧ iv = .int .i64 i ∧ Hid (∀ j, j < i → kws.getD j ⟨#[]⟩ ≠ s) ∧ Hid (Below w.heap.size w wr)) (fun iv _ _ _ => 16 - (intOf iv).toNat)
 case atStart => exact ⟨0, by omega, rfl, fun j hj => by omega, zB _ _⟩
 case round =>
  obtain ⟨i, hi, rfl, HN, HW⟩ := hrel
  by_cases hlt : i < 16
  ·have hin : (i : Int) < 16 := by omega
   have hq := HIX.out i hlt
   have q1 := NM.str_eq (kws.getD i ⟨#[]⟩) s
   have HHIT : Hid (kws.getD i ⟨#[]⟩ = s → numOf s = i) := zh fun h => numOf_hit hlt h
   have HNX : Hid (kws.getD i ⟨#[]⟩ ≠ s → ∀ j, j < i + 1 → kws.getD j ⟨#[]⟩ ≠ s) := zh fun h j hj => by
        by_cases e : j = i
        ·rw [e]; exact h
        ·exact HN.out j (by omega)
   have hbw : Below w.heap.size wr (wr.alloc (.cells #[.string (kws.getD i ⟨#[]⟩), .string (lts.getD i ⟨#[]⟩)] 74)) := (zB _ _).alloc HW.out.size _
   have HW2 := zh (HW.out.trans hbw)
   by_cases hk : kws.getD i ⟨#[]⟩ = s
   ·have HE := zh (HHIT.out hk)
    rw [zE hk] at q1
    clear HHIT HNX hbw hk
    generalize kws.getD i ⟨#[]⟩ = x at *
    generalize lts.getD i ⟨#[]⟩ = y at *
    go_wp2_with fail
    go_ret
    exact ⟨ret_eq (by rw [HE.out]; rfl), HW2.out⟩
   ·have HN2 := zh (HNX.out hk)
    rw [zF hk] at q1
    clear HHIT HNX hbw hk
    generalize kws.getD i ⟨#[]⟩ = x at *
    generalize lts.getD i ⟨#[]⟩ = y at *
    go_wp2_with fail
    go_roundw
    case rel => exact ⟨i + 1, by omega, by go_num, HN2.out, HW2.out⟩
    case measure => simp [intOf]; omega
  ·obtain rfl : i = 16 := by omega
   have HE := zh (HEND.out HN.out)
   go_wp2_with fail
   go_ret
   exact ⟨ret_eq (by rw [HE.out]; rfl), HW.out⟩
end
section
open Go.RowKit LX TR TM CM
namespace CM
def cmd0 (N : Nat) (p : Int) : Cm := ⟨N, p, w0, none, 0, [], none, 0, [], 0, n0, n0⟩
theorem parts_snoc (D : Nat) : ∀ (ks : List Nat) (k : Nat) (s : Cs) (ts : List Tr) (e : Int), partsR D (ks ++ [k]) s ts e = bnd (partsR D ks s ts e) fun s2 r => partR D k s2 r e
 | [], k, s, ts, e => by
   show bnd (partR D k s ts e) (fun s2 r => partsR D [] s2 r e) = partR D k s ts e
   cases partR D k s ts e with
   | error p => rfl
   | ok yr => rfl
 | j :: ks, k, s, ts, e => by
   show bnd (partR D j s ts e) (fun s2 r => partsR D (ks ++ [k]) s2 r e) = bnd (bnd (partR D j s ts e) fun s2 r => partsR D ks s2 r e) _
   cases partR D j s ts e with
   | error p => rfl
   | ok yr => exact parts_snoc D ks k yr.1 yr.2 e
theorem stepL_snoc {D : Nat} {ks : List Nat} {k : Nat} {s s1 s2 : Cs} {l l2 l3 : List Tr} {e : Int} {f f2 f3 : Option Int} (h : StepL (partsR D ks s) l e f s1 l2 f2) (h2 : StepL (partR D k s1) l2 e f2 s2 l3 f3) : StepL (partsR D (ks ++ [k]) s) l e f s2 l3 f3 := by
 have h3 := h.bind (rd2 := fun s1 => partR D k s1) h2
 exact ⟨h3.suf, h3.bad, fun hf => by rw [parts_snoc]; exact h3.good hf⟩
def LET : List Nat := [110, 119, 102, 112, 116, 114]
theorem ltl_let {N : Nat} (h : N < 16) : ∀ k ∈ ltl N, k ∈ LET := by
 have : ∀ N : Fin 16, ∀ k ∈ ltl (N.val : Int), k ∈ LET := by decide
 exact this ⟨N, h⟩
theorem ltl_size (N : Nat) : (ltl (N : Int)).length = (ltr (N : Int)).size := by unfold ltl; rw [List.length_map, lst_length]
theorem ltl_at {N pos : Nat} (h : pos < (ltr (N : Int)).size) : (ltl (N : Int)).take (pos + 1) = (ltl (N : Int)).take pos ++ [((ltr (N : Int))[pos]'h).toNat] := by
 have h1 : pos < (ltl (N : Int)).length := by rw [ltl_size]; exact h
 have h2 : (ltl (N : Int))[pos] = ((ltr (N : Int))[pos]'h).toNat := by
  show ((lst (ltr (N : Int))).map (·.toNat))[pos]'(by rw [List.length_map, lst_length]; exact h) = _
  rw [List.getElem_map]
  rfl
 rw [List.take_succ_eq_append_getElem h1, h2]
theorem ltl_mem {N pos : Nat} (h : pos < (ltr (N : Int)).size) : ((ltr (N : Int))[pos]'h).toNat ∈ ltl (N : Int) := by
 have h2 := ltl_at h
 have h3 : ((ltr (N : Int))[pos]'h).toNat ∈ (ltl (N : Int)).take (pos + 1) := by rw [h2]; simp
 exact List.mem_of_mem_take h3
def isT (k : Nat) : Bool := !(decide (k = 110) || (decide (k = 102) || (decide (k = 119) || decide (k = 112))))
theorem part_ts {D k : Nat} {s s2 : Cs} {ts r : List Tr} {e : Int} (h : partR D k s ts e = .ok (s2, r)) : s2.ts.length = s.ts.length + (if isT k = true then 1 else 0) := by
 unfold partR at h
 by_cases h1 : k = 110
 ·rw [if_pos h1] at h
  obtain ⟨w, r1, _, h2⟩ := bnd_ok h
  obtain ⟨rfl, _⟩ := ok_inj h2
  simp [isT, h1]
 ·rw [if_neg h1] at h
  by_cases h2 : k = 102
  ·rw [if_pos h2] at h
   obtain ⟨w, r1, _, h3⟩ := bnd_ok h
   obtain ⟨rfl, _⟩ := ok_inj h3
   simp [isT, h2]
  ·rw [if_neg h2] at h
   by_cases h3 : k = 119
   ·rw [if_pos h3] at h
    obtain ⟨w, r1, _, h4⟩ := bnd_ok h
    obtain ⟨rfl, _⟩ := ok_inj h4
    simp [isT, h3]
   ·rw [if_neg h3] at h
    by_cases h4 : k = 112
    ·rw [if_pos h4] at h
     obtain ⟨w, r1, _, h5⟩ := bnd_ok h
     obtain ⟨rfl, _⟩ := ok_inj h5
     simp [isT, h4]
    ·rw [if_neg h4] at h
     have hT : isT k = true := by simp [isT, h1, h2, h3, h4]
     rw [if_pos hT]
     split at h
     ·obtain ⟨w, r1, _, h5⟩ := bnd_ok h
      obtain ⟨rfl, _⟩ := ok_inj h5
      simp
     ·obtain ⟨w, r1, _, h5⟩ := bnd_ok h
      obtain ⟨rfl, _⟩ := ok_inj h5
      simp
theorem parts_ts {D : Nat} : ∀ (ks : List Nat) {s s2 : Cs} {ts r : List Tr} {e : Int}, partsR D ks s ts e = .ok (s2, r) → s2.ts.length = s.ts.length + (ks.filter isT).length
 | [], s, s2, ts, r, e, h => by
   obtain ⟨rfl, _⟩ := parts_nil h
   rfl
 | k :: ks, s, s2, ts, r, e, h => by
   obtain ⟨s1, r1, h1, h2⟩ := parts_cons h
   have e1 := part_ts h1
   have e2 := parts_ts ks h2
   rw [e2, e1, List.filter_cons]
   split <;> simp <;> omega
theorem ltl_ts {N : Nat} (h : N < 16) : ((ltl N).filter isT).length = 0 ∨ ((ltl N).filter isT).length = 2 := by
 have : ∀ N : Fin 16, ((ltl (N.val : Int)).filter isT).length = 0 ∨ ((ltl (N.val : Int)).filter isT).length = 2 := by decide
 exact this ⟨N, h⟩
theorem er1_n0 : er1 n0 = n0 := by unfold er1 n0 nd; simp [Nd.k, Nd.p, Nd.s, Nd.ws, Nd.ks, TM.er, nd]
theorem hold_0 (N : Nat) (p : Int) : Hold N p (cmd0 N p) s0 := ⟨rfl, rfl, rfl, rfl, rfl, rfl, er1_n0, er1_n0⟩
theorem cmd_end {D N : Nat} {x : Tr} {r l1 l2 : List Tr} {e : Int} {f1 f2 : Option Int} {s : Cs} {y : Cm} {z : Tr} (hN : N = numOf x.t.s) (h1 : StepL (treeR 97) (x :: r) e (if N = 0 then some x.t.p else none) z l1 f1) (h2 : StepL (partsR D (ltl N) s0) l1 e f1 s l2 f2) (hy : f2 = none → Hold N x.t.p y s)
 (f3 : Option Int) (h3 : f3 = if l2 = [] then f2 else failL l2 e f2) : match cmdR D (x :: r) e with
  | .error p => f3 = some p
  | .ok u => f3 = none ∧ erc y = u := by
 subst hN
 have hbad : ∀ p, f2 = some p → f3 = some p := fun p hp => by
  rw [h3, hp]
  split <;> rfl
 unfold cmdR
 simp only
 by_cases hn : numOf x.t.s = 0
 ·rw [if_neg (fun h => h.2 hn)]
  rw [if_pos hn] at h1
  exact hbad _ (h2.bad _ (h1.bad _ rfl))
 ·rw [if_neg hn] at h1
  by_cases hk : x.t.k = 97
  ·rw [if_pos ⟨hk, hn⟩]
   have e1 := h1.good rfl
   rw [show treeR 97 (x :: r) e = .ok (x, r) by simp only [treeR]; rw [if_pos hk]] at e1
   obtain ⟨rfl, _, rfl⟩ := e1
   rcases h2.cases with ⟨p, rfl, hf | ⟨_, hr⟩⟩ | ⟨_, rfl, hr⟩
   ·cases hf
   ·rw [hr]; exact hbad _ rfl
   ·rw [hr]
    cases l2 with
    | nil =>
      refine ⟨by rw [h3]; rfl, ?_⟩
      obtain ⟨g1, g2, g3, g4, g5, g6, g7, g8⟩ := hy rfl
      have hts : s.ts = [] ∨ ∃ a b, s.ts = [a, b] := by
       have h6 := parts_ts _ hr
       rcases ltl_ts (numOf_lt x.t.s) with h7 | h7
       ·left
        rw [h7] at h6
        exact List.length_eq_zero_iff.1 h6
       ·right
        rw [h7] at h6
        match hs : s.ts, h6 with
        | [a, b], _ => exact ⟨a, b, rfl⟩
      unfold erc finC
      rcases hts with h6 | ⟨a, b, h6⟩
      ·rw [h6] at g7 g8 ⊢
       simp only [List.dropLast_nil, List.getLastD_nil] at g7 g8
       rw [g1, g2, g3, g4, g5, g6, g7, g8]; rfl
      ·rw [h6] at g7 g8 ⊢
       rw [g1, g2, g3, g4, g5, g6, g7, g8]; rfl
    | cons v r3 => rw [h3]; rfl
  ·rw [if_neg (fun h => hk h.1)]
   have e1 := h1.good rfl
   rw [show treeR 97 (x :: r) e = .error x.t.p by simp only [treeR]; rw [if_neg hk]] at e1
   exact hbad _ (h2.bad _ e1)
end CM
theorem cpart_any {w : World} {b g B D op : Nat} {p : Int} {A : Option Addr} {c : Nat} {l : List Tr} {e : Int} {f : Option Int} {x : Cm} {s : Cs} (k : Nat) (hk : k ∈ LET) (h : Cr w b A c l e f) (hr : RowAt w g 30 (cv x)) (hd : DeepC w (fun k => B ≤ k ∧ k ≠ b ∧ k ≠ g) x) (hB : B ≤ w.heap.size) (hg : b < g) (hx : f = none → Hold op p x s) (hN : (nodes l).length ≤ D - 1) (hD : 1 ≤ D) (hD2 : D ≤ 4294967296) :
 Calls Tryz.prog 95 #[.pointer (some ⟨b, 0, none⟩), .pointer (some ⟨g, 0, none⟩), .int .u8 (k : Int)] w fun e' w' => Parted w b g B D op p k s l e f e' w' := by
 simp only [LET, List.mem_cons, List.not_mem_nil, or_false] at hk
 rcases hk with rfl | rfl | rfl | rfl | rfl | rfl
 ·exact cpart_n h hr hd hB hg hx
 ·exact cpart_w h hr hd hB hg hx
 ·exact cpart_f h hr hd hB hg hx
 ·exact cpart_p h hr hd hB hg hx
 ·exact cpart_t h hr hd hB hg hx hN hD hD2
 ·exact cpart_r h hr hd hB hg hx hN hD hD2
theorem ccommand_any {w : World} {b D : Nat} {A : Option Addr} {c : Nat} {l : List Tr} {e : Int} (h : Cr w b A c l e none) (hT : Cmds w) (hb0 : 0 < b) (hne : l ≠ []) (hN : (nodes l).length ≤ D - 1) (hD : 1 ≤ D) (hD2 : D ≤ 4294967296) :
 Calls Tryz.prog 53 #[.pointer (some ⟨b, 0, none⟩)] w fun e' w' => ∃ x A2 c2 l2 f2, e' = .returned (.agg (cv x)) ∧ DeepC w' (fun k => w.heap.size ≤ k) x ∧ Cr w' b A2 c2 l2 e f2 ∧ Mv b w w' ∧ (match cmdR D l e with
  | .error p => f2 = some p
  | .ok u => f2 = none ∧ erc x = u) := by
 have hbw := h.lt
 cases l with
 | nil => exact absurd rfl hne
 | cons x r =>
   clear hne
   obtain ⟨bb, o, rfl, hbl, hc⟩ := h.trs.at (k := 0) (by simp)
   obtain ⟨k0, k1, k2, _, _⟩ := hc 0 (by simp)
   simp only [List.getD_cons_zero, Nat.zero_mul, Nat.add_zero] at k0 k1 k2
   obtain ⟨c0', _, _, _⟩ := cr_cells h.at_
   have hbbw : bb < w.heap.size := by omega
   refine calls_hid fun Q' hQ => ?_
   have HQ := zh hQ; clear hQ
   have HEND := zh (fun (N : Nat) (hN : N = numOf x.t.s) (z : Tr) (l1 : List Tr) (f1 : Option Int) h1 (s : Cs) (l2 : List Tr) (f2 : Option Int) h2 (y : Cm) hy f3 h3 => cmd_end (D := D) (r := r) (e := e) (l1 := l1) (l2 := l2) (f1 := f1) (f2 := f2) (s := s) (y := y) (z := z) hN h1 h2 hy f3 h3)
   have HNL := zh numOf_lt x.t.s
   have HNN := zh hN
   have hb1 : Below w.heap.size w (w.alloc (.cells (cv c0) 30)) := (zB _ _).alloc (zL _) _
   have HG1 := zh (RowAt.new w 30 (cv c0))
   have HC1 := zh (h.below hb1)
   have HM1 := zh (Mv.below hbw hb1)
   have HT1 := zh (hT.low hb1)
   have ks : (w.alloc (.cells (cv c0) 30)).cell? ⟨bb, o, none⟩ = _ := (hb1.cell (p := ⟨bb, o, none⟩) hbbw).trans k0
   have ks1 : (w.alloc (.cells (cv c0) 30)).cell? ⟨bb, o + 1, none⟩ = _ := (hb1.cell (p := ⟨bb, o + 1, none⟩) hbbw).trans k1
   have ks2 : (w.alloc (.cells (cv c0) 30)).cell? ⟨bb, o + 2, none⟩ = _ := (hb1.cell (p := ⟨bb, o + 2, none⟩) hbbw).trans k2
   clear k0 k1 k2 hc c0' hT hb1 h
   generalize hxs : x.t.s = xs at *
   generalize hxp : x.t.p = p0 at *
   generalize x.t.k = q0 at *
   go_enter Tryz.func53, Tryz.ntmps53
   go_upto_region 1 with fail
   change Code.wp _ _ _ _ (w.alloc (.cells (cv c0) 30))
   generalize w.alloc (.cells (cv c0) 30) = w1 at *
   have hz1 : w.heap.size < w1.heap.size := HG1.out.lt
   obtain ⟨c0s, _, _, _⟩ := cr_cells HC1.out.at_
   have hlt : (0 : Int) < ((x :: r).length : Int) := by simp only [zA8]; omega
   generalize (x :: r).length = ln at c0s hlt
   have hb2 : Below w1.heap.size w1 (w1.alloc (.cells #[.int .u8 (q0 : Int), .string xs, .int .i64 p0] 78)) := (zB _ _).alloc (zL _) _
   have HN3 := zh (RowAt.new w1 78 #[.int .u8 (q0 : Int), .string xs, .int .i64 p0])
   have HG3 := zh (HG1.out.below hb2 HG1.out.lt)
   have HC3 := zh (HC1.out.below hb2)
   have HM3 := zh (HM1.out.onBelow hbw hb2 (by omega))
   have HT3 := zh (HT1.out.low hb2)
   clear hb2 HG1 HC1 HM1 HT1
   go_upto_region 2 with fail
   clear c0s ks ks1 ks2 hlt
   generalize w1.alloc (.cells #[.int .u8 (q0 : Int), .string xs, .int .i64 p0] 78) = w3 at *
   have hz3 : w1.heap.size < w3.heap.size := HN3.out.lt
   have HC : Hid (∀ V, Below w3.heap.size w3 V → Calls Tryz.prog 92 #[.string xs] V fun e' w' => e' = .returned (.int .i64 ((numOf xs : Nat) : Int)) ∧ Below V.heap.size V w') := zh fun V hV => number_cmd xs V (HT3.out.low hV)
   have C0 : ∀ W, Below w3.heap.size w3 W → W.cell? ⟨w1.heap.size, 1, none⟩ = some (.string xs) := fun W hW => (hW.cell (p := ⟨w1.heap.size, 1, none⟩) hz3).trans ((RowAt.cell HN3.out 1).trans rfl)
   have C1 : ∀ W, Below w3.heap.size w3 W → W.cell? ⟨w1.heap.size, 2, none⟩ = some (.int .i64 p0) := fun W hW => (hW.cell (p := ⟨w1.heap.size, 2, none⟩) hz3).trans ((RowAt.cell HN3.out 2).trans rfl)
   generalize hNN : numOf xs = N at *
   go_cut [4] from 14 to 19 (fun p4 wx => ∃ g4 : Nat, p4 = .pointer (some ⟨g4, 0, none⟩) ∧ Hid (RowAt wx g4 30 (cv (cmd0 N p0))) ∧ Hid (Below w3.heap.size w3 wx) ∧ Hid (w3.heap.size ≤ g4))
   case first =>
    have HS0 : Hid (Below w3.heap.size w3 w3.drew) := (zB _ _).drew
    refine wp_region_ot (fun w' => Below w3.heap.size w3 w') ((.take 0 (.take 1 (.take 3 (.take 4 (.two 2 (.take 5 (.solo 6 (.solo 7 .nil))) 6 (.solo 2 (.take 5 (.solo 7 .nil))))))))) (by kernel_rfl) (by kernel_rfl) rfl (by kernel_rfl) HS0.out ?_
    generalize w3.drew = v0 at HS0 ⊢
    have HSv0 := HS0
    iterate 4
        (refine wpOT_step (zO rfl) ?_)
        (first
         | (refine wpOT_skip (by rfl) ?_)
         | (refine wpOT_take (v := ?_) (by rfl) ?_ ?_; rotate_left 1; (intro wx hSx; have hc_0 := C0 wx hSx; have hc_1 := C1 wx hSx; go_simp; try with_reducible rfl)))
        (try simp only [Act.put, zA4, zA5, zA6])
    refine wpOT_two ?_ ?_
    ·(refine wpOT_solo (zO rfl) ?_)
     intro K hK
     go_simp
     go_at_call 92
     refine (HC.out v0 HSv0.out).mono ?_
     rintro e' v1 ⟨rfl, hb⟩
     have HSv1 := zh (HSv0.out.trans (hb.mono HSv0.out.size))
     clear hb
     refine hK.out _ _ HSv1.out ?_
     clear hK K
     (try simp only [Act.put, zA4, zA5, zA6])
     iterate 1
      (refine wpOT_step (zO rfl) ?_)
      (first
       | (refine wpOT_skip (by rfl) ?_)
       | (refine wpOT_take (v := ?_) (by rfl) ?_ ?_; rotate_left 1; (intro wx hSx; have hc_0 := C0 wx hSx; have hc_1 := C1 wx hSx; go_simp; try with_reducible rfl)))
      (try simp only [Act.put, zA4, zA5, zA6])
     (refine wpOT_solo (zO rfl) ?_)
     intro K hK
     go_simp
     have hb : Below v1.heap.size v1 (v1.alloc (.cells (cv c0) 30)) := (zB _ _).alloc (zL _) _
     have HSv2 := zh (HSv1.out.trans (hb.mono HSv1.out.size))
     have HRv2 := zh (RowAt.new v1 30 (cv c0))
     have HZ := zh HSv1.out.size
     clear hb
     refine hK.out _ _ HSv2.out ?_
     clear hK K
     (try simp only [Act.put, zA4, zA5, zA6])
     change wpOT _ _ _ _ _ _ (v1.alloc (.cells (cv c0) 30))
     generalize hgb : v1.heap.size = gb at *
     generalize (v1.alloc (.cells (cv c0) 30)) = v2 at *
     clear hgb
     (refine wpOT_solo (zO rfl) ?_)
     intro K hK
     rw [if_pos (by rfl)]
     refine wp_store_row _ _ _ rfl gb (cv (cmd0 N p0)) rfl rfl _ _ HRv2.out (cmd_info _) rfl (by simp [cv, Value.oneCell']) ?_
     have HSz : Hid (Below w3.heap.size w3 (v2.setRow gb (cv (cmd0 N p0)))) := zh (HSv2.out.trans (below_setRow HZ.out _))
     have HRz := zh (HRv2.out.setRow (cv (cmd0 N p0)))
     refine hK.out _ _ HSz.out ?_
     clear hK K
     (try simp only [Act.put, zA4, zA5, zA6])
     refine wpOT_done ?_
     go_wp2
     go_meet
     case rel => exact ⟨gb, rfl, HRz.out, HSz.out, HZ.out⟩
    ·(refine wpOT_solo (zO rfl) ?_)
     intro K hK
     go_simp
     have hb : Below v0.heap.size v0 (v0.alloc (.cells (cv c0) 30)) := (zB _ _).alloc (zL _) _
     have HSv1 := zh (HSv0.out.trans (hb.mono HSv0.out.size))
     have HRv1 := zh (RowAt.new v0 30 (cv c0))
     have HZ := zh HSv0.out.size
     clear hb
     refine hK.out _ _ HSv1.out ?_
     clear hK K
     (try simp only [Act.put, zA4, zA5, zA6])
     change wpOT _ _ _ _ _ _ (v0.alloc (.cells (cv c0) 30))
     generalize hgb : v0.heap.size = gb at *
     generalize (v0.alloc (.cells (cv c0) 30)) = v1 at *
     clear hgb
     (refine wpOT_solo (zO rfl) ?_)
     intro K hK
     go_simp
     go_at_call 92
     refine (HC.out v1 HSv1.out).mono ?_
     rintro e' v2 ⟨rfl, hb⟩
     have HSv2 := zh (HSv1.out.trans (hb.mono HSv1.out.size))
     have HRv2 := zh (HRv1.out.below hb HRv1.out.lt)
     clear hb
     refine hK.out _ _ HSv2.out ?_
     clear hK K
     (try simp only [Act.put, zA4, zA5, zA6])
     iterate 1
      (refine wpOT_step (zO rfl) ?_)
      (first
       | (refine wpOT_skip (by rfl) ?_)
       | (refine wpOT_take (v := ?_) (by rfl) ?_ ?_; rotate_left 1; (intro wx hSx; have hc_0 := C0 wx hSx; have hc_1 := C1 wx hSx; go_simp; try with_reducible rfl)))
      (try simp only [Act.put, zA4, zA5, zA6])
     (refine wpOT_solo (zO rfl) ?_)
     intro K hK
     rw [if_pos (by rfl)]
     refine wp_store_row _ _ _ rfl gb (cv (cmd0 N p0)) rfl rfl _ _ HRv2.out (cmd_info _) rfl (by simp [cv, Value.oneCell']) ?_
     have HSz : Hid (Below w3.heap.size w3 (v2.setRow gb (cv (cmd0 N p0)))) := zh (HSv2.out.trans (below_setRow HZ.out _))
     have HRz := zh (HRv2.out.setRow (cv (cmd0 N p0)))
     refine hK.out _ _ HSz.out ?_
     clear hK K
     (try simp only [Act.put, zA4, zA5, zA6])
     refine wpOT_done ?_
     go_wp2
     go_meet
     case rel => exact ⟨gb, rfl, HRz.out, HSz.out, HZ.out⟩
   case rest =>
    obtain ⟨g4, rfl, HR4, HB4, HZ4⟩ := hcut
    clear HC C0 C1 HN3
    have hz4 := HZ4.out
    have hbg4 : b < g4 := by omega
    have HC4 := zh (HC3.out.low HB4.out (by omega))
    have HM4 := zh (HM3.out.onBelow hbw HB4.out (by omega))
    have HG4 := zh (HG3.out.below HB4.out (by omega))
    have HT4 := zh (HT3.out.low HB4.out)
    clear HB4 HC3 HM3 HG3 HT3
    obtain ⟨OUT, hOUT⟩ : ∃ OUT : World → Prop, OUT = fun W => Mv b w W ∧ RowAt W w.heap.size 30 (cv c0) ∧ Cmds W ∧ g4 < W.heap.size := ⟨_, rfl⟩
    have HOUT := zh hOUT
    have HO4 : Hid (OUT wc) := by rw [hOUT]; exact zh ⟨HM4.out, HG4.out, HT4.out, HR4.out.lt⟩
    have HKP : Hid (∀ Wa Wb, OUT Wa → Mv2 b g4 Wa Wb → OUT Wb) := by
        refine zh fun Wa Wb h hm => ?_
        rw [hOUT] at h ⊢
        exact ⟨h.1.fresh hbw hm (by omega), (hm.block _ h.2.1.lt (by omega) (by omega)).trans h.2.1, h.2.2.1.below hm.low hb0, zT h.2.2.2 hm.low.size⟩
    have HKB : Hid (∀ B Wa Wb, g4 < B → OUT Wa → Below B Wa Wb → OUT Wb) := by
        refine zh fun B Wa Wb hB h hm => ?_
        rw [hOUT] at h ⊢
        exact ⟨h.1.onBelow hbw hm (by omega), h.2.1.below hm (by omega), h.2.2.1.below hm (by omega), zT h.2.2.2 hm.size⟩
    clear hOUT HM4 HG4 HT4
    have d0 : wc.cell? ⟨g4, 0, none⟩ = some (.int .i64 (N : Int)) := (RowAt.cell HR4.out 0).trans rfl
    go_upto_if 22 with fail
    clear d0
    go_cut [] from 22 to 24 (fun wx => Hid (Cr wx b (some ⟨bb, o, none⟩) c (x :: r) e (if N = 0 then some p0 else none)) ∧ Hid (RowAt wx g4 30 (cv (cmd0 N p0))) ∧ Hid (OUT wx))
    case first =>
        by_cases hn : N = 0
        ·have HF := zh (cfail_any HC4.out)
         have ht : ((N : Int) == 0) = true := by rw [hn]; rfl
         have HIF : Hid ((if N = 0 then some p0 else none) = some p0) := zh (if_pos hn)
         have HFL : Hid (failL (x :: r) e none = some p0) := by rw [← hxp]; exact zh rfl
         clear hn
         go_wp2_with fail
         refine HF.out.mono ?_
         rintro e' w5 ⟨rfl, hs, hm, _⟩
         rw [HFL.out] at hs
         have HS5 := zh hs
         have HR5 := zh (HR4.out.mv hm (by omega))
         have HO5 := zh (HKP.out _ _ HO4.out hm.two2)
         clear hs hm
         go_wp2_with fail
         go_meet
         case rel => exact ⟨by rw [HIF.out]; exact HS5, HR5.out, HO5.out⟩
        ·have ht : ((N : Int) == 0) = false := by rw [beq_eq_false_iff_ne]; omega
         have HIF : Hid ((if N = 0 then some p0 else none) = none) := zh (if_neg hn)
         clear hn
         go_wp2_with fail
         go_meet
         case rel => exact ⟨by rw [HIF.out]; exact HC4, HR4.out, HO4.out⟩
    case rest =>
        clear HC4 HR4 HO4
        obtain ⟨HC4, HR4, HO4⟩ := hcut
        have HT5 := zh (ctake_any HC4.out 97)
        generalize hf1 : (if N = 0 then some p0 else none) = f1 at *
        go_wp2_with fail
        refine HT5.out.mono ?_
        rintro e' w5 ⟨z, A5, c5, l5, f5, rfl, hs, hm, hst, _⟩
        have HST5 := zh hst
        have HS5 := zh hs
        have HR5 := zh (HR4.out.mv hm (by omega))
        have HO5 := zh (HKP.out _ _ HO4.out hm.two2)
        have ho5 := HO5.out
        rw [HOUT.out] at ho5
        have HP5 := zh (parts_cmd (N : Int) w5 ho5.2.2.1)
        have hsz5 : g4 < w5.heap.size := ho5.2.2.2
        clear hs hm hst ho5 HT5 HC4 HR4 HO4
        have d0 : w5.cell? ⟨g4, 0, none⟩ = some (.int .i64 (N : Int)) := (RowAt.cell HR5.out 0).trans rfl
        unfold trv
        go_wp2_with fail
        refine HP5.out.mono ?_
        rintro e' w7 ⟨rfl, rfl⟩
        have HPB : Hid (∀ pos (h : pos < (ltr (N : Int)).size), ((ltr (N : Int))[pos]'h).toNat ∈ LET ∧ ((ltr (N : Int))[pos]'h).toNat < 128 ∧ (ltl (N : Int)).take (pos + 1) = (ltl (N : Int)).take pos ++ [((ltr (N : Int))[pos]'h).toNat]) := zh fun pos h => by
         have h1 := ltl_let HNL _ (ltl_mem h)
         refine ⟨h1, ?_, ltl_at h⟩
         have : ∀ k ∈ LET, k < 128 := by decide
         exact this _ h1
        have HPS : Hid ((ltl (N : Int)).length = (ltr (N : Int)).size) := zh (ltl_size N)
        have HND : Hid (∀ l2, (∃ m, l2 = l5.drop m) → (nodes l2).length ≤ D - 1) := zh fun l2 ⟨m, hm⟩ => by
         obtain ⟨m2, hm2⟩ := HST5.out.suf
         have h1 := HNN.out
         have h2 := nodes_drop (x :: r) m2
         have h3 := nodes_drop l5 m
         rw [← hm2] at h2
         rw [← hm] at h3
         omega
        clear d0 HP5
        generalize ltr (N : Int) = P at *
        generalize hLL : ltl (N : Int) = L at *
        have HLL := zh hLL; clear hLL
        have hb7 : Below w7.heap.size w7 (w7.iter P 0) := (zB _ _).alloc (zL _) _
        have HI7 := zh (World.iter_heap w7 P 0)
        have HS7 := zh (HS5.out.below hb7)
        have HR7 := zh (HR5.out.below hb7 HR5.out.lt)
        have HO7 := zh (HKB.out _ _ _ hsz5 HO5.out hb7)
        have hzi : w7.heap.size < (w7.iter P 0).heap.size := by show _ < (w7.alloc _).heap.size; simp
        clear hb7 HS5 HR5 HO5
        go_wp2_with fail
        go_loopw [6] (fun _ wr => ∃ (pos : Nat) (x2 : Cm) (A1 : Option Addr) (c1 : Nat) (l1 : List Tr) (f2 : Option Int) (s : Cs), pos ≤ P.size ∧ Hid (wr.heap[w7.heap.size]? = some (.stringIter P pos)) ∧ Hid (Cr wr b A1 c1 l1 e f2) ∧ Hid (RowAt wr g4 30 (cv x2)) ∧ Hid (DeepC wr (fun k => w7.heap.size + 1 ≤ k ∧ k ≠ b ∧ k ≠ g4) x2) ∧ Hid (OUT wr) ∧ Hid (StepL (partsR D (L.take pos) s0) l5 e f5 s l1 f2) ∧ Hid (f2 = none → Hold N p0 x2 s) ∧ Hid (w7.heap.size < wr.heap.size)) (fun _ wr => P.size - wr.iterPos w7.heap.size)
        case atStart => exact ⟨0, cmd0 N p0, A5, c5, l5, f5, s0, Nat.zero_le _, HI7.out, HS7.out, HR7.out, ⟨SlC.nil _ _ _, zL _, SlC.nil _ _ _, zL _, deep_n0' _ _, deep_n0' _ _⟩, HO7.out, by rw [List.take_zero]; exact StepL.pure s0, fun _ => hold_0 N p0, hzi⟩
        case round =>
         clear HI7 HS7 HR7 HO7 hzi
         obtain ⟨pos, x2, A1, c1, l1, f2, s, hps, HIT, HCR, HRW, HDP, HO, HST, HH, HZI⟩ := hrel
         have hmu : wr.iterPos w7.heap.size = pos := by simp [World.iterPos, HIT.out]
         have hzi := HZI.out
         have hgb4 : g4 < w7.heap.size := by omega
         by_cases hp : pos < P.size
         ·obtain ⟨hmem, h128, htk⟩ := HPB.out pos hp
          have hnext : ∀ ty, (Instr.next (.pointer (some ⟨w7.heap.size, 0, none⟩)) true ty).run Tryz.prog wr = _ := fun ty => Lib.run_next_ascii_at wr w7.heap.size P pos ty HIT.out hp h128
          have HI1 := zh (Lib.iterAt_heap wr w7.heap.size P pos (pos + 1) HIT.out)
          have hbi : Below w7.heap.size wr (wr.iterAt w7.heap.size P (pos + 1)) := Lib.below_iterAt (zB w7.heap.size wr) (zL _) P (pos + 1)
          have HC1 := zh (HCR.out.low hbi (by omega))
          have HR1 := zh (HRW.out.below hbi hgb4)
          have HD1 : Hid (DeepC (wr.iterAt w7.heap.size P (pos + 1)) (fun k => w7.heap.size + 1 ≤ k ∧ k ≠ b ∧ k ≠ g4) x2) := zh (HDP.out.keep9 fun k _ ho => Lib.iterAt_other wr w7.heap.size k P (pos + 1) (by omega))
          have HO1 := zh (HKB.out _ _ _ hgb4 HO.out hbi)
          have hz1 : w7.heap.size < (wr.iterAt w7.heap.size P (pos + 1)).heap.size := by rw [Lib.iterAt_size]; exact hzi
          have HPT := zh (cpart_any (P[pos]'hp).toNat hmem HC1.out HR1.out HD1.out hz1 hbg4 HH.out (HND.out _ HST.out.suf) hD hD2)
          have HTK := zh htk
          clear hbi hmem htk HCR HRW HDP HO HH HIT HC1 HR1 HD1
          generalize wr.iterAt w7.heap.size P (pos + 1) = W1 at *
          go_wp2_with fail
          refine HPT.out.mono ?_
          rintro e' w8 ⟨x3, A3, c3, l3, f3, s3, rfl, hs, hr, hd, hm, hst, hh⟩
          have HIT8 : Hid (w8.heap[w7.heap.size]? = some (.stringIter P (pos + 1))) := zh ((hm.block w7.heap.size hz1 (by omega) (by omega)).trans HI1.out)
          have HS8 := zh hs
          have HR8 := zh hr
          have HD8 := zh hd
          have HO8 := zh (HKP.out _ _ HO1.out hm)
          have HH8 := zh hh
          have HST8 : Hid (StepL (partsR D (L.take (pos + 1)) s0) l5 e f5 s3 l3 f3) := zh (by rw [HTK.out]; exact stepL_snoc HST.out hst)
          have HZ8 : Hid (w7.heap.size < w8.heap.size) := zh (zT hz1 hm.low.size)
          have hmu2 : w8.iterPos w7.heap.size = pos + 1 := by simp [World.iterPos, HIT8.out]
          clear hs hr hd hm hst hh HO1 HI1 HPT HST
          go_wp2
          go_roundw
          case rel => exact ⟨pos + 1, x3, A3, c3, l3, f3, s3, hp, HIT8.out, HS8.out, HR8.out, HD8.out, HO8.out, HST8.out, HH8.out, HZ8.out⟩
          case measure => rw [hmu, hmu2]; omega
         ·have hnext : ∀ ty, (Instr.next (.pointer (some ⟨w7.heap.size, 0, none⟩)) true ty).run Tryz.prog wr = _ := fun ty => Lib.run_next_end_at wr w7.heap.size P pos ty HIT.out hp
          have hall : L.take pos = L := List.take_of_length_le (by rw [HPS.out]; omega)
          rw [hall] at HST
          have ho := HO.out
          rw [HOUT.out] at ho
          have HFL := zh (cfail_any HCR.out)
          obtain ⟨i0, _, _, _⟩ := cr_cells HCR.out.at_
          have HE := zh (fun f3 h3 => HEND.out N rfl z l5 f5 (by rw [hf1]; exact HST5.out) s l1 f2 (by rw [HLL.out]; exact HST.out) x2 HH.out f3 h3)
          have hdp := HDP.out
          have hgr := ho.2.1
          have HMW := zh ho.1
          clear ho HPB HPS HND HNN HKB HOUT HO HEND HST5
          cases l1 with
          | nil =>
            have hl0 : decide (0 < ([] : List Tr).length) = false := by simp
            simp only [zA9] at i0
            have hgw9 : w.heap.size < wr.heap.size := hgr.lt
            have hb9 : Below w.heap.size wr (wr.setRow w.heap.size (cv x2)) := below_setRow (zL _) _
            have HQ9 := zh (HQ.out (.returned (.agg (cv x2))) (wr.setRow w.heap.size (cv x2)) ⟨x2, _, _, _, f2, rfl, (hdp.keep9 fun k _ ho => setRow_other wr w.heap.size k _ (by omega)).weak fun k _ ho => by omega, HCR.out.low hb9 hbw, HMW.out.onBelow hbw hb9 (zL _), HE.out f2 (by rw [if_pos rfl])⟩)
            have HG9 := zh (hgr.setRow (cv x2))
            have HR9 := zh HRW.out
            have HG0 := zh hgr
            clear hb9 hdp hgr HMW HE HH HDP HCR HRW
            go_wp2_with (first | (refine wpList_load_row rfl _ _ rfl g4 rfl _ _ (0, 0) _ HR9.out Tryz.underlying30 rfl (cmd_info x2) ?_) | (refine wpList_store_row rfl _ _ _ rfl w.heap.size (cv x2) rfl rfl _ _ HG0.out (cmd_info x2) rfl (by simp [cv, Value.oneCell']) ?_))
            exact bodyPost_ret (ret_cell rfl _ _ w.heap.size _ _ (0, 0) _ rfl HG9.out Tryz.underlying30 rfl (cmd_info x2)) rfl HQ9.out
          | cons y1 r1 =>
            have hd1 : decide (0 < (y1 :: r1).length) = true := by simp
            have hd2 : (0 : Int) < ((y1 :: r1).length : Int) := by simp only [zA8]; omega
            generalize hyn : (y1 :: r1).length = yn at *
            have HYN := zh hyn; clear hyn
            go_upto_if 45 with fail
            go_wp2_with fail
            refine HFL.out.mono ?_
            rintro e' w9 ⟨rfl, hs9, hm9, hz9⟩
            have HCR9 := zh hs9
            have HRW9 := zh (HRW.out.mv hm9 (by omega))
            have hdp9 := hdp.keep9 fun k hk ho => hm9.block k hk ho.2.1
            have hgr9 := hgr.mv hm9 (by omega)
            have HMW9 := zh (HMW.out.trans hm9)
            clear hs9 hm9 hz9 HCR HRW hdp hgr HMW HFL i0
            have hgw9 : w.heap.size < w9.heap.size := hgr9.lt
            have hb9 : Below w.heap.size w9 (w9.setRow w.heap.size (cv x2)) := below_setRow (zL _) _
            have HQ9 := zh (HQ.out (.returned (.agg (cv x2))) (w9.setRow w.heap.size (cv x2)) ⟨x2, _, _, _, (failL (y1 :: r1) e f2), rfl, (hdp9.keep9 fun k _ ho => setRow_other w9 w.heap.size k _ (by omega)).weak fun k _ ho => by omega, HCR9.out.low hb9 hbw, HMW9.out.onBelow hbw hb9 (zL _), HE.out (failL (y1 :: r1) e f2) (by rw [if_neg (by simp)])⟩)
            have HG9 := zh (hgr9.setRow (cv x2))
            have HR9 := zh HRW9.out
            have HG0 := zh hgr9
            clear hb9 hdp9 hgr9 HMW9 HE HH HDP HCR9 HRW9
            go_wp2_with (first | (refine wpList_load_row rfl _ _ rfl g4 rfl _ _ (0, 0) _ HR9.out Tryz.underlying30 rfl (cmd_info x2) ?_) | (refine wpList_store_row rfl _ _ _ rfl w.heap.size (cv x2) rfl rfl _ _ HG0.out (cmd_info x2) rfl (by simp [cv, Value.oneCell']) ?_))
            exact bodyPost_ret (ret_cell rfl _ _ w.heap.size _ _ (0, 0) _ rfl HG9.out Tryz.underlying30 rfl (cmd_info x2)) rfl HQ9.out
end
section
open Go.RowKit LX TR TM CM
namespace CM
theorem join_jt (r : List (List UInt8)) : Lib.joinTail [44] r = jt r := by
 induction r with
 | nil => rfl
 | cons x r ih => unfold Lib.joinTail at ih ⊢; rw [List.map_cons, List.flatten_cons, ih]; rfl
theorem join_jc (l : List (List UInt8)) : Lib.join l [44] = jc l := by
 cases l with
 | nil => rfl
 | cons x r => rw [Lib.join_cons, join_jt]; rfl
theorem sc_app (a b : List ByteArray) : scells (a ++ b) = scells a ++ scells b := by simp [scells]
theorem lst_app (a b : ByteArray) : lst (a ++ b) = lst a ++ lst b := by
 cases a; cases b
 simp [lst, ← ByteArray.append_eq]
theorem len_lst (a : ByteArray) : (lst a).length = a.size := rfl
def wtk (ws : List Wd) (i : Nat) : List ByteArray := (ws.take i).map (·.s)
def ptxt (p : Pw) : ByteArray := p.a.s ++ ⟨#[60]⟩ ++ p.b.s
def ptk (ps : List Pw) (i : Nat) : List ByteArray := (ps.take i).map ptxt
theorem lst_ptxt (p : Pw) : lst (ptxt p) = lst p.a.s ++ 60 :: lst p.b.s := by unfold ptxt; rw [lst_app, lst_app, List.append_assoc]; rfl
end CM
theorem infoStrC : (Tryz.prog.info? 9).map (fun i => (i.zero, i.size, i.bytes)) = some (some (.string ⟨#[]⟩), 1, 16) := by kernel_rfl
theorem ctexts_any (A : Option Addr) (c : Nat) (ws : List Wd) (w : World) (hl : ws.length ≤ 4294967296) (hA : Sl w w.heap.size A (wcs ws)) :
 Calls Tryz.prog 24 #[.slice A ws.length c] w fun e w' => ∃ X d, e = .returned (.slice X ws.length d) ∧ ws.length ≤ d ∧ Strs w' X (ws.map (·.s)) ∧ Below w.heap.size w w' := by
 have HA := zh hA; clear hA
 refine calls_hid fun Q' hQ => ?_
 have HQ := zh hQ; clear hQ
 generalize hn : ws.length = n at *
 have HN := zh hn; clear hn
 go_enter Tryz.func24, Tryz.ntmps24
 go_wp2_with fail
 go_loopw [3, 8, 5] (fun sv iv _ wr => ∃ (i d : Nat) (X : Option Addr), i ≤ n ∧ iv = .int .i64 (i : Int) ∧ sv = .slice X i d ∧ Hid (wr.ownsRow w.heap.size 9 1 (.slice X i d) i (scells (wtk ws i))) ∧ Hid (Below w.heap.size w wr)) (fun _ iv _ _ => n - (intOf iv).toNat)
 case atStart => exact ⟨0, 0, none, by omega, rfl, rfl, World.ownsRow_nil _ _ _ _, zB _ _⟩
 case round =>
  obtain ⟨i, d, X, hi, rfl, rfl, HO, HW⟩ := hrel
  by_cases hlt : i < n
  ·obtain ⟨b1, o1, rfl, _, hc1⟩ := sl_at (z := w0) wcells_length (HA.out.below HW.out) (k := i) (by rw [HN.out]; exact hlt) (by omega)
   have p0 := hc1 i 0 _ (by rw [HN.out]; exact hlt) (by omega) rfl
   have p1 := hc1 i 1 _ (by rw [HN.out]; exact hlt) (by omega) rfl
   rw [Nat.add_zero] at p0
   rw [← Nat.add_assoc] at p1
   have hin : (i : Int) < (n : Int) := by omega
   have HTK : Hid (wtk ws (i + 1) = wtk ws i ++ [(ws.getD i w0).s]) := zh (by
        have hlw : i < ws.length := by rw [HN.out]; exact hlt
        unfold wtk
        rw [List.take_succ_eq_append_getElem hlw, List.map_append, List.getD_eq_getElem?_getD, List.getElem?_eq_getElem hlw]; rfl)
   have hbx : Below w.heap.size w (wr.alloc (.cells #[.string (ws.getD i w0).s, .int .i64 (ws.getD i w0).p] 23)) := HW.out.alloc HW.out.size _
   have hbx0 : Below wr.heap.size wr (wr.alloc (.cells #[.string (ws.getD i w0).s, .int .i64 (ws.getD i w0).p] 23)) := (zB _ _).alloc (zL _) _
   have HOx := zh (own_below HO.out hbx0 (zL _))
   have HBx := zh hbx
   obtain ⟨a0, a1, _, _⟩ := row2 (RowAt.new wr 23 #[.string (ws.getD i w0).s, .int .i64 (ws.getD i w0).p])
   clear hc1 hbx hbx0
   generalize (ws.getD i w0).s = s1 at *
   generalize (ws.getD i w0).p = f1 at *
   go_upto_region 5 with fail
   change Code.wp _ _ _ _ (wr.alloc (.cells #[.string s1, .int .i64 f1] 23))
   have hgs : wr.heap.size < (wr.alloc (.cells #[.string s1, .int .i64 f1] 23)).heap.size := by simp
   generalize wr.alloc (.cells #[.string s1, .int .i64 f1] 23) = wc at *
   generalize wr.heap.size = gx at *
   clear p0 p1
   go_wp2_with (at_builtin; refine wpList_moreB _ rfl _ _ 59 rfl 9 (.string ⟨#[]⟩) 1 16 Tryz.underlying59 infoStrC rfl (by decide) w.heap.size X i d (scells (wtk ws i)) rfl ?c1 wc.heap.size [.string s1] rfl rfl ?c2 (by intro u hu; simp at hu; subst hu; rfl) ?c3 ?c4 ?c5 ?_)
   case c1 => exact own_below HOx.out ((zB _ _).alloc (zL _) _) (zL _)
   case c2 =>
        intro j u hu
        match j, hu with
        | 0, hu => exact ((RowAt.new wc 9 #[.string s1]).cell 0).trans hu
        | j + 1, hu => simp at hu
   case c3 => simp only [maxLen]; omega
   case c4 => omega
   case c5 => have := HBx.out.size; simp; omega
   intro X6 d6 w6 hown6 hb6 hg6 hat6
   have HO6 : Hid (w6.ownsRow w.heap.size 9 1 (.slice X6 (i + 1) d6) (i + 1) (scells (wtk ws (i + 1)))) := by
        rw [HTK.out, sc_app]; exact zh hown6
   have HB6 : Hid (Below w.heap.size w w6) := zh ((HBx.out.alloc HBx.out.size _).trans hb6)
   clear hown6 hb6 hg6 hat6
   go_wp2_with fail
   go_roundw
   case rel => exact ⟨i + 1, d6, X6, by omega, by go_num, rfl, HO6.out, HB6.out⟩
   case measure => simp [intOf]; omega
  ·obtain rfl : i = n := by omega
   have hS : Strs wr X (ws.map (·.s)) := by
        have h := Sl.of_own HO.out
        unfold wtk at h
        rwa [List.take_of_length_le (by rw [HN.out]; omega)] at h
   have HS := zh hS
   clear hS
   have hcap := own_cap_le HO.out
   go_wp2_with fail
   exact HQ.out _ _ ⟨X, d, rfl, hcap, HS.out, HW.out⟩
theorem cptexts_any (A : Option Addr) (c : Nat) (ps : List Pw) (w : World) (hl : ps.length ≤ 4294967296) (hs : ∀ p ∈ ps, p.a.s.size + p.b.s.size ≤ 140737488355328) (hA : Sl w w.heap.size A (pwcs ps)) :
 Calls Tryz.prog 25 #[.slice A ps.length c] w fun e w' => ∃ X d, e = .returned (.slice X ps.length d) ∧ ps.length ≤ d ∧ Strs w' X (ps.map ptxt) ∧ Below w.heap.size w w' := by
 have HA := zh hA; clear hA
 have HSZ := zh hs; clear hs
 refine calls_hid fun Q' hQ => ?_
 have HQ := zh hQ; clear hQ
 generalize hn : ps.length = n at *
 have HN := zh hn; clear hn
 go_enter Tryz.func25, Tryz.ntmps25
 go_wp2_with fail
 go_loopw [3, 8, 5] (fun sv iv _ wr => ∃ (i d : Nat) (X : Option Addr), i ≤ n ∧ iv = .int .i64 (i : Int) ∧ sv = .slice X i d ∧ Hid (wr.ownsRow w.heap.size 9 1 (.slice X i d) i (scells (ptk ps i))) ∧ Hid (Below w.heap.size w wr)) (fun _ iv _ _ => n - (intOf iv).toNat)
 case atStart => exact ⟨0, 0, none, by omega, rfl, rfl, World.ownsRow_nil _ _ _ _, zB _ _⟩
 case round =>
  obtain ⟨i, d, X, hi, rfl, rfl, HO, HW⟩ := hrel
  by_cases hlt : i < n
  ·have hlw : i < ps.length := by rw [HN.out]; exact hlt
   have hR : ∃ b1 o1, A = some ⟨b1, o1, none⟩ ∧ wr.rangeAt b1 (o1 + i * 4) (pwcells (ps.getD i ⟨w0, w0⟩)) := by
        obtain ⟨b1, o1, hA1, _, hc1⟩ := sl_at (z := (⟨w0, w0⟩ : Pw)) pwcells_length (HA.out.below HW.out) (k := i) hlw (by omega)
        refine ⟨b1, o1, hA1, fun j v hv => ?_⟩
        have h4 : j < 4 := by
         rcases Nat.lt_or_ge j 4 with h | h
         ·exact h
         ·rw [List.getElem?_eq_none (by rw [pwcells_length]; exact h)] at hv; cases hv
        have h := hc1 i j v hlw h4 hv
        rw [← Nat.add_assoc] at h
        exact h
   obtain ⟨b1, o1, rfl, hr1⟩ := hR
   have HR1 := zh hr1
   have hin : (i : Int) < (n : Int) := by omega
   have hsz := HSZ.out _ (TM.getD_memL (z := (⟨w0, w0⟩ : Pw)) hlw)
   have HTK : Hid (ptk ps (i + 1) = ptk ps i ++ [ptxt (ps.getD i ⟨w0, w0⟩)]) := zh (by
        unfold ptk
        rw [List.take_succ_eq_append_getElem hlw, List.map_append, List.getD_eq_getElem?_getD, List.getElem?_eq_getElem hlw]; rfl)
   clear hr1
   generalize hz : ps.getD i ⟨w0, w0⟩ = z at *
   clear hz
   obtain ⟨⟨s1, f1⟩, ⟨s2, f2⟩⟩ := z
   have HPT : Hid (ptxt ⟨⟨s1, f1⟩, ⟨s2, f2⟩⟩ = s1 ++ ⟨#[60]⟩ ++ s2) := zh rfl
   generalize ptxt ⟨⟨s1, f1⟩, ⟨s2, f2⟩⟩ = pt at *
   simp only at hsz
   have hno : ¬ (9223372036854775807 < s1.size + 1) := by omega
   have hno2 : ¬ (9223372036854775807 < s1.size + 1 + s2.size) := by omega
   have hbx : Below w.heap.size w ((wr.alloc (.cells #[.string ⟨#[]⟩, .int .i64 0, .string ⟨#[]⟩, .int .i64 0] 65)).setRow wr.heap.size #[.string s1, .int .i64 f1, .string s2, .int .i64 f2]) := (HW.out.alloc HW.out.size _).trans (below_setRow HW.out.size _)
   have hbx0 : Below wr.heap.size wr ((wr.alloc (.cells #[.string ⟨#[]⟩, .int .i64 0, .string ⟨#[]⟩, .int .i64 0] 65)).setRow wr.heap.size #[.string s1, .int .i64 f1, .string s2, .int .i64 f2]) := ((zB _ _).alloc (zL _) _).trans (below_setRow (zL _) _)
   have HNW := zh (RowAt.new wr 65 #[.string ⟨#[]⟩, .int .i64 0, .string ⟨#[]⟩, .int .i64 0])
   have HRW := zh (HNW.out.setRow #[.string s1, .int .i64 f1, .string s2, .int .i64 f2])
   have HOx := zh (own_below HO.out hbx0 (zL _))
   have HBx := zh hbx
   clear hbx hbx0
   go_upto_region 5 with (first | (refine wpList_load_mid rfl _ _ rfl b1 (o1 + i * 4) rfl (pwcells ⟨⟨s1, f1⟩, ⟨s2, f2⟩⟩) _ HR1.out Tryz.underlying65 rfl (pair_info _ _ _ _) ?_) | (refine wpList_store_row rfl _ _ _ rfl wr.heap.size #[.string s1, .int .i64 f1, .string s2, .int .i64 f2] rfl rfl _ _ HNW.out (pair_info _ _ _ _) rfl (by simp [Value.oneCell']) ?_))
   change Code.wp _ _ _ _ ((wr.alloc (.cells #[.string ⟨#[]⟩, .int .i64 0, .string ⟨#[]⟩, .int .i64 0] 65)).setRow wr.heap.size #[.string s1, .int .i64 f1, .string s2, .int .i64 f2])
   clear HNW
   generalize (wr.alloc (.cells #[.string ⟨#[]⟩, .int .i64 0, .string ⟨#[]⟩, .int .i64 0] 65)).setRow wr.heap.size #[.string s1, .int .i64 f1, .string s2, .int .i64 f2] = wc at *
   generalize wr.heap.size = gx at *
   have a0 : wc.cell? ⟨gx, 0, none⟩ = some (.string s1) := (HRW.out.cell 0).trans rfl
   have a2 : wc.cell? ⟨gx, 2, none⟩ = some (.string s2) := (HRW.out.cell 2).trans rfl
   go_wp2_with (at_builtin; refine wpList_moreB _ rfl _ _ 59 rfl 9 (.string ⟨#[]⟩) 1 16 Tryz.underlying59 infoStrC rfl (by decide) w.heap.size X i d (scells (ptk ps i)) rfl ?c1 wc.heap.size [.string (s1 ++ (⟨#[60]⟩ : ByteArray) ++ s2)] rfl rfl ?c2 (by intro u hu; simp at hu; subst hu; rfl) ?c3 ?c4 ?c5 ?_)
   case c1 => exact own_below HOx.out ((zB _ _).alloc (zL _) _) (zL _)
   case c2 =>
        intro j u hu
        match j, hu with
        | 0, hu => exact ((RowAt.new wc 9 #[.string (s1 ++ (⟨#[60]⟩ : ByteArray) ++ s2)]).cell 0).trans hu
        | j + 1, hu => simp at hu
   case c3 => simp only [maxLen]; omega
   case c4 => omega
   case c5 => have := HBx.out.size; simp; omega
   intro X6 d6 w6 hown6 hb6 hg6 hat6
   have HO6 : Hid (w6.ownsRow w.heap.size 9 1 (.slice X6 (i + 1) d6) (i + 1) (scells (ptk ps (i + 1)))) := by
        rw [HTK.out, sc_app, HPT.out]; exact zh hown6
   have HB6 : Hid (Below w.heap.size w w6) := zh ((HBx.out.alloc HBx.out.size _).trans hb6)
   clear hown6 hb6 hg6 hat6
   go_wp2_with fail
   go_roundw
   case rel => exact ⟨i + 1, d6, X6, by omega, by go_num, rfl, HO6.out, HB6.out⟩
   case measure => simp [intOf]; omega
  ·obtain rfl : i = n := by omega
   have hS : Strs wr X (ps.map ptxt) := by
        have h := Sl.of_own HO.out
        unfold ptk at h
        rwa [List.take_of_length_le (by rw [HN.out]; omega)] at h
   have HS := zh hS
   clear hS
   have hcap := own_cap_le HO.out
   go_wp2_with fail
   exact HQ.out _ _ ⟨X, d, rfl, hcap, HS.out, HW.out⟩
theorem cjoin_any (A : Option Addr) (c : Nat) (xs : List ByteArray) (w : World) (hl : xs.length ≤ 4294967296) (hc : xs.length ≤ c) (hlen : (jc (xs.map lst)).length ≤ 140737488355328) (hA : Strs w A xs) :
 Calls Tryz.prog 23 #[.slice A xs.length c, .string ⟨#[44]⟩] w fun e w' => e = .returned (.string ⟨(jc (xs.map lst)).toArray⟩) ∧ Below w.heap.size w w' := by
 have hlib : Calls Tryz.prog 56 #[.slice A xs.length c, .string ⟨#[44]⟩] w fun e w' => e = .returned (.string ⟨(jc (xs.map lst)).toArray⟩) ∧ Below w.heap.size w w' := by
  have hj : Lib.join (xs.map (·.data.toList)) (⟨#[44]⟩ : ByteArray).data.toList = jc (xs.map lst) := join_jc _
  cases hx : xs with
  | nil =>
    refine (Tryz.strings_Join_none A c ⟨#[44]⟩ w).mono ?_
    rintro e w' ⟨rfl, rfl⟩
    exact ⟨rfl, zB _ _⟩
  | cons x r =>
    rw [← hx]
    obtain ⟨bk, o, rfl, hlt, hcs⟩ := hA (by rw [hx]; simp [scells])
    refine (Tryz.strings_Join bk o c xs ⟨#[44]⟩ w (fun j x hj => hcs j _ (by unfold scells; rw [List.getElem?_map, hj]; rfl)) hlt (by omega) hc (by rw [hj]; exact hlen)).mono ?_
    rintro e w' ⟨rfl, h⟩
    exact ⟨by rw [hj], h⟩
 have HL := zh hlib; clear hlib
 generalize xs.length = n at *
 go_enter Tryz.func23, Tryz.ntmps23
 go_wp2_with fail
 refine HL.out.mono ?_
 rintro e w' ⟨rfl, h⟩
 go_wp2
 go_ret
 exact ⟨rfl, h⟩
end
section
open Go.RowKit LX TR TM CM
theorem bld_keep9 {w w' : World} {B b : Nat} {acc : List UInt8} (h : Bld w B b acc) (hk : ∀ k c t fz, B ≤ k → w.heap[k]? = some (.cells c t fz) → w'.heap[k]? = w.heap[k]?) : Bld w' B b acc := by
 have go : ∀ p, Lib.BuilderAt 52 5 B b p (Lib.byteCells acc) w → Lib.BuilderAt 52 5 B b p (Lib.byteCells acc) w' := fun p h => by
  obtain ⟨hB, v, hbk, hown, hne⟩ := h
  refine ⟨hB, v, (hk b _ _ _ hB hbk).trans hbk, ⟨hown.1, ?_⟩, hne⟩
  rcases hown.2 with hn | ⟨g', cap, cur, rfl, hg, hh, rest⟩
  ·exact .inl hn
  ·exact .inr ⟨g', cap, cur, rfl, hg, (hk g' _ _ _ hg hh).trans hh, rest⟩
 exact h.elim (fun h => .inl (go _ h)) fun h => .inr (go _ h)
theorem bld_iterAt {w : World} {B b gi : Nat} {acc : List UInt8} {P : ByteArray} {pos : Nat} (h : Bld w B b acc) (hi : w.heap[gi]? = some (.stringIter P pos)) (p2 : Nat) : Bld (w.iterAt gi P p2) B b acc :=
 bld_keep9 h fun k c t fz _ hk => Lib.iterAt_other w gi k P p2 (fun e => by rw [e, hi] at hk; cases hk)
namespace CM
theorem ltl_zero {op : Int} (h : ¬ (0 ≤ op ∧ op < 16)) : ltl op = [] := by unfold ltl; rw [ltr_out h]; rfl
theorem ltl_szI (op : Int) : (ltl op).length = (ltr op).size := by unfold ltl; rw [List.length_map, lst_length]
theorem ltl_dropI {op : Int} {pos : Nat} (h : pos < (ltr op).size) : (ltl op).drop pos = ((ltr op)[pos]'h).toNat :: (ltl op).drop (pos + 1) := by
 have h1 : pos < (ltl op).length := by rw [ltl_szI]; exact h
 have h2 : (ltl op)[pos] = ((ltr op)[pos]'h).toNat := by
  show ((lst (ltr op)).map (·.toNat))[pos]'(by rw [List.length_map, lst_length]; exact h) = _
  rw [List.getElem_map]
  rfl
 rw [List.drop_eq_getElem_cons h1, h2]
theorem ltl_letI {op : Int} {pos : Nat} (h : pos < (ltr op).size) : ((ltr op)[pos]'h).toNat ∈ LET := by
 by_cases hr : 0 ≤ op ∧ op < 16
 ·obtain ⟨k, rfl, hk⟩ := tab_in hr
  exact ltl_let hk _ (ltl_mem h)
 ·rw [← ltl_szI, ltl_zero hr] at h
  exact absurd h (by simp)
theorem ltl_twoI (op : Int) : ((ltl op).filter isT).length ≤ 2 := by
 by_cases hr : 0 ≤ op ∧ op < 16
 ·obtain ⟨k, rfl, hk⟩ := tab_in hr
  rcases ltl_ts hk with h | h <;> omega
 ·rw [ltl_zero hr]; simp
theorem let_small {k : Nat} (h : k ∈ LET) : k < 128 := by
 simp only [LET, List.mem_cons, List.not_mem_nil, or_false] at h
 omega
theorem px_n (x : Cm) (ks : List Nat) (ts : List Nd) : ptx x (110 :: ks) ts = 32 :: (lst x.n.s ++ ptx x ks ts) := rfl
theorem px_f (x : Cm) (ks : List Nat) (ts : List Nd) : ptx x (102 :: ks) ts = 32 :: (jc (x.ws.map fun v => lst v.s) ++ ptx x ks ts) := rfl
theorem px_w (x : Cm) (ks : List Nat) (ts : List Nd) : ptx x (119 :: ks) ts = 32 :: (123 :: (jc (x.ws.map fun v => lst v.s) ++ [125]) ++ ptx x ks ts) := rfl
theorem px_p (x : Cm) (ks : List Nat) (ts : List Nd) : ptx x (112 :: ks) ts = 32 :: (123 :: (jc (x.ps.map fun v => lst v.a.s ++ 60 :: lst v.b.s) ++ [125]) ++ ptx x ks ts) := rfl
theorem px_t (x : Cm) (ks : List Nat) (ts : List Nd) : ptx x (116 :: ks) ts = 32 :: (tx (ts.headD n0) ++ ptx x ks ts.tail) := rfl
theorem px_r (x : Cm) (ks : List Nat) (ts : List Nd) : ptx x (114 :: ks) ts = 32 :: (tx (ts.headD n0) ++ ptx x ks ts.tail) := rfl
theorem jc_texts (ws : List Wd) : jc ((ws.map (·.s)).map lst) = jc (ws.map fun v => lst v.s) := by rw [List.map_map]; rfl
theorem jc_ptexts (ps : List Pw) : jc ((ps.map ptxt).map lst) = jc (ps.map fun v => lst v.a.s ++ 60 :: lst v.b.s) := by
 rw [List.map_map]
 congr 1
 exact List.map_congr_left fun p _ => lst_ptxt p
theorem jt_mem {l : List (List UInt8)} {a : List UInt8} (h : a ∈ l) : a.length ≤ (jt l).length := by
 induction l with
 | nil => cases h
 | cons b l ih =>
   rw [jt, zA8, zA7]
   rcases List.mem_cons.1 h with rfl | h
   ·omega
   ·have := ih h; omega
theorem jc_mem {l : List (List UInt8)} {a : List UInt8} (h : a ∈ l) : a.length ≤ (jc l).length := by
 cases l with
 | nil => cases h
 | cons b l =>
   rw [jc, zA7]
   rcases List.mem_cons.1 h with rfl | h
   ·omega
   ·have := jt_mem h; omega
end CM
theorem text10_lst (z : Nd) : lst (text10 z) = tx z := rfl
theorem text10_size (z : Nd) : (text10 z).size = (tx z).length := rfl
theorem ctext_mk (x : Cm) : ctext x = ⟨(ctx x).toArray⟩ := rfl
theorem ctextP_any (x : Cm) (w : World) (hT : Cmds w) (hx : CmIn w w.heap.size x) (sx : SmlC x) (hl : (ctx x).length ≤ 140737488355328) :
 Calls Tryz.prog 8 #[.agg (cv x)] w fun e w' => e = .returned (.string (ctext x)) ∧ Below w.heap.size w w' := by
 have hb1 : Below w.heap.size w ((w.alloc (.cells (cv x) 30)).alloc (.cells #[.pointer none, .slice none 0 0] 52)) := ((zB _ _).alloc (zL _) _).alloc (by simp) _
 have HB1 := zh hb1
 have HT1 := zh (hT.low hb1)
 have HR1 := zh ((RowAt.new w 30 (cv x)).alloc (.cells #[.pointer none, .slice none 0 0] 52))
 have hbl : Bld ((w.alloc (.cells (cv x) 30)).alloc (.cells #[.pointer none, .slice none 0 0] 52)) (w.heap.size + 1) (w.heap.size + 1) [] := by
  have h1 := Lib.fresh_isBuilder 52 5 (w.alloc (.cells (cv x) 30))
  rw [show (w.alloc (.cells (cv x) 30)).heap.size = w.heap.size + 1 by simp] at h1
  exact h1
 have HBL1 := zh hbl
 have HIN := zh hx
 have HSM := zh sx
 have hlw : (lst (wrd x.op)).length ≤ (ctx x).length := by unfold ctx; rw [zA7]; omega
 have HEQ0 : Hid (ctx x = lst (wrd x.op) ++ ptx x (ltl x.op) [x.l, x.r]) := zh rfl
 have HLD : Hid (∀ pos (h : pos < (ltr x.op).size), (ltl x.op).drop pos = ((ltr x.op)[pos]'h).toNat :: (ltl x.op).drop (pos + 1)) := zh fun pos h => ltl_dropI h
 have HLL : Hid (∀ pos (h : pos < (ltr x.op).size), ((ltr x.op)[pos]'h).toNat ∈ LET) := zh fun pos h => ltl_letI h
 have HL2 := zh (ltl_twoI x.op)
 have HLZ := zh (ltl_szI x.op)
 have HTX := zh (ctext_mk x)
 refine calls_hid fun Q' hQ => ?_
 have HQ := zh hQ
 clear hb1 hbl hx hT sx hQ
 generalize ctext x = tt at *
 go_enter Tryz.func8, Tryz.ntmps8
 go_upto_region 2 with fail
 change Code.wp _ _ _ _ ((w.alloc (.cells (cv x) 30)).alloc (.cells #[.pointer none, .slice none 0 0] 52))
 generalize ((w.alloc (.cells (cv x) 30)).alloc (.cells #[.pointer none, .slice none 0 0] 52)) = w1 at *
 have c0 : w1.cell? ⟨w.heap.size, 0, none⟩ = some (.int .i64 x.op) := (HR1.out.cell 0).trans rfl
 go_wp2_with fail
 refine (word_cmd x.op w1 HT1.out).mono ?_
 rintro e' w' ⟨rfl, hww⟩
 have hww := hww.symm
 subst hww
 have hbw1 := bld_lt HBL1.out
 go_wp2_with fail
 refine (wstr_any (wrd x.op) HBL1.out (by omega) (by simp only [zA9]; rw [← len_lst]; omega)).mono ?_
 rintro e' w2 ⟨rfl, k1, k2, k3⟩
 have HBL2 := zh k1
 have HR2 := zh (others_row k3 HR1.out (by omega) (by decide))
 have HB2 := zh (HB1.out.trans (k2.mono (Nat.le_succ _)))
 have HT2 := zh (HT1.out.below k2 (by have := HT1.out.pos; have := HR1.out.lt; omega))
 clear k1 k2 k3 HBL1 HR1 HB1 HT1 c0
 have c0 : w2.cell? ⟨w.heap.size, 0, none⟩ = some (.int .i64 x.op) := (HR2.out.cell 0).trans rfl
 go_wp2_with fail
 refine (parts_cmd x.op w2 HT2.out).mono ?_
 rintro e' w' ⟨rfl, hww⟩
 have hww := hww.symm
 subst hww
 clear c0
 generalize ltr x.op = P at *
 generalize ltl x.op = KS at *
 generalize wrd x.op = wop at *
 have hb7 : Below w2.heap.size w2 (w2.iter P 0) := (zB _ _).alloc (zL _) _
 have HI7 := zh (World.iter_heap w2 P 0)
 have HBL7 := zh (bld_below HBL2.out hb7)
 have HR7 := zh (HR2.out.below hb7 HR2.out.lt)
 have HB7 := zh (HB2.out.trans (hb7.mono HB2.out.size))
 have hbgi : w.heap.size + 1 < w2.heap.size := bld_lt HBL2.out
 have hzi : w2.heap.size < (w2.iter P 0).heap.size := by show _ < (w2.alloc _).heap.size; simp
 obtain ⟨gi, hgi⟩ : ∃ gi, gi = w2.heap.size := ⟨_, rfl⟩
 clear hb7 HBL2 HR2 HB2 HT2
 go_wp2_with fail
 rw [← hgi] at HI7 hbgi hzi ⊢
 clear hgi
 go_loopw [5] (fun _ wr => ∃ (pos : Nat) (acc : List UInt8) (ts : List Nd) (ll : Nd), pos ≤ P.size ∧ Hid (wr.heap[gi]? = some (.stringIter P pos)) ∧ Hid (Bld wr (w.heap.size + 1) (w.heap.size + 1) acc) ∧ Hid (RowAt wr w.heap.size 30 (cv (Cm.mk x.op x.p x.n x.A x.c x.ws x.B x.d x.ps x.pp ll x.r))) ∧ Hid (Below w.heap.size w wr) ∧ Hid (ctx x = acc ++ ptx x (KS.drop pos) ts) ∧ ((KS.drop pos).filter isT).length ≤ ts.length ∧ Hid ((ts = [x.l, x.r] ∧ ll = x.l) ∨ (ts = [x.r] ∧ ll = x.r) ∨ ts = []) ∧ gi < wr.heap.size) (fun _ wr => P.size - wr.iterPos gi)
 case atStart => exact ⟨0, lst wop, [x.l, x.r], x.l, Nat.zero_le _, HI7.out, HBL7.out, HR7.out, HB7.out, HEQ0.out, HL2.out, .inl ⟨rfl, rfl⟩, hzi⟩
 case round =>
  clear HI7 HBL7 HR7 HB7 hzi HEQ0
  obtain ⟨pos, acc, ts, ll, hps, HIT, HBL, HR, HB, HEQ, hcnt, HTS, hgi⟩ := hrel
  have hmu : wr.iterPos gi = pos := by simp [World.iterPos, HIT.out]
  by_cases hp : pos < P.size
  ·have hld := HLD.out pos hp
   have hll := HLL.out pos hp
   have h128 := let_small hll
   have hnext : ∀ ty, (Instr.next (.pointer (some ⟨gi, 0, none⟩)) true ty).run Tryz.prog wr = _ := fun ty => Lib.run_next_ascii_at wr gi P pos ty HIT.out hp h128
   have HI3 := zh (Lib.iterAt_heap wr gi P pos (pos + 1) HIT.out)
   have HBL3 := zh (bld_iterAt HBL.out HIT.out (pos + 1))
   have HR3 : Hid (RowAt (wr.iterAt gi P (pos + 1)) w.heap.size 30 (cv (Cm.mk x.op x.p x.n x.A x.c x.ws x.B x.d x.ps x.pp ll x.r))) := zh ((Lib.iterAt_other wr gi w.heap.size P (pos + 1) (by omega)).trans HR.out)
   have HB3 : Hid (Below w.heap.size w (wr.iterAt gi P (pos + 1))) := zh (Lib.below_iterAt HB.out (by omega) P (pos + 1))
   have hgi3 : gi < (wr.iterAt gi P (pos + 1)).heap.size := by rw [Lib.iterAt_size]; exact hgi
   rw [hld] at HEQ hcnt
   have hk2 : (P[pos]'hp).toNat = (P[pos]'hp).toNat := rfl
   have HKK := zh hld
   clear hld
   have hlen0 := congrArg List.length HEQ.out
   have hl1 : acc.length + 1 ≤ (ctx x).length := by
        rw [hlen0, zA7]
        have : 1 ≤ (ptx x ((P[pos]'hp).toNat :: KS.drop (pos + 1)) ts).length := by
         show 1 ≤ (32 :: _ ++ _ : List UInt8).length
         simp
        omega
   have hwb : w.heap.size + 1 ≤ (wr.iterAt gi P (pos + 1)).heap.size := by omega
   have HWB : Hid (Calls Tryz.prog 22 #[.pointer (some ⟨w.heap.size + 1, 0, none⟩), .int .u8 32] (wr.iterAt gi P (pos + 1)) fun e w' => e = .returned .nilIface ∧ Bld w' (w.heap.size + 1) (w.heap.size + 1) (acc ++ [32]) ∧ Below (w.heap.size + 1) (wr.iterAt gi P (pos + 1)) w' ∧ Lib.OthersKept 5 (some (w.heap.size + 1)) (wr.iterAt gi P (pos + 1)) w') := zh (wbyte_any 32 HBL3.out hwb (by omega))
   clear hlen0 HIT HBL HR HB hgi
   generalize wr.iterAt gi P (pos + 1) = w3 at *
   go_wp2_with fail
   refine HWB.out.mono ?_
   rintro e' w4 ⟨rfl, k1, k2, k3⟩
   clear HWB
   have HBL4 := zh k1
   have HR4 := zh (others_row k3 HR3.out (by omega) (by decide))
   have HI4 := zh (k3.iter HI3.out (by omega))
   have HB4 := zh (HB3.out.trans (k2.mono (Nat.le_succ _)))
   have hgi4 : gi < w4.heap.size := zT hgi3 k2.size
   clear k1 k2 k3 HBL3 HR3 HI3 HB3
   have hL := hll
   simp only [LET, List.mem_cons, List.not_mem_nil, or_false] at hL
   rcases hL with hkn | hkn | hkn | hkn | hkn | hkn
   ·rw [hkn] at HEQ hcnt
    have hc2 : ((KS.drop (pos + 1)).filter isT).length ≤ ts.length := by simpa [isT] using hcnt
    have hlen := congrArg List.length (HEQ.out.trans (congrArg _ (px_n x _ _)))
    simp only [zA7, zA8, len_lst] at hlen
    have c2 : w4.cell? ⟨w.heap.size, 2, none⟩ = some (.string x.n.s) := (HR4.out.cell 2).trans rfl
    go_wp2_with fail
    clear c2
    refine (wstr_any x.n.s HBL4.out (by omega) (by simp only [zA7, zA8, zA9]; omega)).mono ?_
    rintro e' w5 ⟨rfl, k1, k2, k3⟩
    have HBL5 := zh k1
    have HR5 := zh (others_row k3 HR4.out (by omega) (by decide))
    have HI5 := zh (k3.iter HI4.out (by omega))
    have HB5 := zh (HB4.out.trans (k2.mono (Nat.le_succ _)))
    have hgi5 : gi < w5.heap.size := zT hgi4 k2.size
    clear k1 k2 k3 HBL4 HR4 HI4 HB4
    have HE9 : Hid (ctx x = (acc ++ [32] ++ lst x.n.s) ++ ptx x (KS.drop (pos + 1)) (ts)) := zh (by rw [HEQ.out, px_n]; simp only [List.append_assoc, List.cons_append, List.nil_append])
    have hmu2 : w5.iterPos gi = pos + 1 := by simp [World.iterPos, HI5.out]
    go_wp2_with fail
    go_roundw
    case rel => exact ⟨pos + 1, acc ++ [32] ++ lst x.n.s, ts, ll, hp, HI5.out, HBL5.out, HR5.out, HB5.out, HE9.out, hc2, HTS.out, hgi5⟩
    case measure => rw [hmu, hmu2]; omega
   ·rw [hkn] at HEQ hcnt
    have hc2 : ((KS.drop (pos + 1)).filter isT).length ≤ ts.length := by simpa [isT] using hcnt
    have hlen := congrArg List.length (HEQ.out.trans (congrArg _ (px_w x _ _)))
    simp only [zA7, zA8, zA9] at hlen
    have c4 : w4.cell? ⟨w.heap.size, 4, none⟩ = some (.slice x.A x.ws.length x.c) := (HR4.out.cell 4).trans rfl
    have HCT := zh (ctexts_any x.A x.c x.ws w4 HSM.out.1 ((HIN.out.below HB4.out).mono HB4.out.size).ws)
    have hnw : (x.ws.map (·.s)).length = x.ws.length := List.length_map _
    go_wp2_with fail
    refine HCT.out.mono ?_
    rintro e' w5 ⟨X, d, rfl, hXd, hst, hb⟩
    clear HCT c4
    have HBL5 := zh (bld_below HBL4.out hb)
    have HR5 := zh (HR4.out.below hb HR4.out.lt)
    have HI5 : Hid (w5.heap[gi]? = some (.stringIter P (pos + 1))) := zh ((hb.block gi hgi4).trans HI4.out)
    have HB5 := zh (HB4.out.trans (hb.mono HB4.out.size))
    have hgi5 : gi < w5.heap.size := zT hgi4 hb.size
    clear hb HBL4 HR4 HI4 HB4
    have hcj := cjoin_any X d (x.ws.map (·.s)) w5 (by rw [hnw]; exact HSM.out.1) (by rw [hnw]; exact hXd) (by rw [jc_texts]; omega) hst
    rw [hnw, jc_texts] at hcj
    have HCJ := zh hcj
    clear hcj hst
    go_wp2_with fail
    refine HCJ.out.mono ?_
    rintro e' w6 ⟨rfl, hb⟩
    clear HCJ
    have HBL6 := zh (bld_below HBL5.out hb)
    have HR6 := zh (HR5.out.below hb HR5.out.lt)
    have HI6 : Hid (w6.heap[gi]? = some (.stringIter P (pos + 1))) := zh ((hb.block gi hgi5).trans HI5.out)
    have HB6 := zh (HB5.out.trans (hb.mono HB5.out.size))
    have hgi6 : gi < w6.heap.size := zT hgi5 hb.size
    clear hb HBL5 HR5 HI5 HB5
    have HJ : Hid (lst (⟨(jc (x.ws.map fun v => lst v.s)).toArray⟩ : ByteArray) = jc (x.ws.map fun v => lst v.s)) := zh rfl
    have hJs : (⟨(jc (x.ws.map fun v => lst v.s)).toArray⟩ : ByteArray).size = (jc (x.ws.map fun v => lst v.s)).length := rfl
    generalize (⟨(jc (x.ws.map fun v => lst v.s)).toArray⟩ : ByteArray) = J at *
    have hno : ¬ (9223372036854775807 < 1 + J.size) := by omega
    have hno2 : ¬ (9223372036854775807 < 1 + J.size + 1) := by omega
    have hsz3 : ((⟨#[123]⟩ : ByteArray) ++ J ++ (⟨#[125]⟩ : ByteArray)).size = 1 + J.size + 1 := by rw [ByteArray.size_append, ByteArray.size_append]; rfl
    go_wp2_with fail
    refine (wstr_any ((⟨#[123]⟩ : ByteArray) ++ J ++ (⟨#[125]⟩ : ByteArray)) HBL6.out (by omega) (by rw [hsz3]; simp only [zA7, zA8, zA9]; omega)).mono ?_
    rintro e' w7 ⟨rfl, k1, k2, k3⟩
    have HBL7 := zh k1
    have HR7 := zh (others_row k3 HR6.out (by omega) (by decide))
    have HI7 := zh (k3.iter HI6.out (by omega))
    have HB7 := zh (HB6.out.trans (k2.mono (Nat.le_succ _)))
    have hgi7 : gi < w7.heap.size := zT hgi6 k2.size
    clear k1 k2 k3 HBL6 HR6 HI6 HB6
    rw [lst_app, lst_app, HJ.out] at HBL7
    have HE9 : Hid (ctx x = (acc ++ [32] ++ ([123] ++ jc (x.ws.map fun v => lst v.s) ++ [125])) ++ ptx x (KS.drop (pos + 1)) (ts)) := zh (by rw [HEQ.out, px_w]; simp only [List.append_assoc, List.cons_append, List.nil_append])
    have hmu2 : w7.iterPos gi = pos + 1 := by simp [World.iterPos, HI7.out]
    go_wp2_with fail
    go_roundw
    case rel => exact ⟨pos + 1, acc ++ [32] ++ ([123] ++ jc (x.ws.map fun v => lst v.s) ++ [125]), ts, ll, hp, HI7.out, HBL7.out, HR7.out, HB7.out, HE9.out, hc2, HTS.out, hgi7⟩
    case measure => rw [hmu, hmu2]; omega
   ·rw [hkn] at HEQ hcnt
    have hc2 : ((KS.drop (pos + 1)).filter isT).length ≤ ts.length := by simpa [isT] using hcnt
    have hlen := congrArg List.length (HEQ.out.trans (congrArg _ (px_f x _ _)))
    simp only [zA7, zA8, zA9] at hlen
    have c4 : w4.cell? ⟨w.heap.size, 4, none⟩ = some (.slice x.A x.ws.length x.c) := (HR4.out.cell 4).trans rfl
    have HCT := zh (ctexts_any x.A x.c x.ws w4 HSM.out.1 ((HIN.out.below HB4.out).mono HB4.out.size).ws)
    have hnw : (x.ws.map (·.s)).length = x.ws.length := List.length_map _
    go_wp2_with fail
    refine HCT.out.mono ?_
    rintro e' w5 ⟨X, d, rfl, hXd, hst, hb⟩
    clear HCT c4
    have HBL5 := zh (bld_below HBL4.out hb)
    have HR5 := zh (HR4.out.below hb HR4.out.lt)
    have HI5 : Hid (w5.heap[gi]? = some (.stringIter P (pos + 1))) := zh ((hb.block gi hgi4).trans HI4.out)
    have HB5 := zh (HB4.out.trans (hb.mono HB4.out.size))
    have hgi5 : gi < w5.heap.size := zT hgi4 hb.size
    clear hb HBL4 HR4 HI4 HB4
    have hcj := cjoin_any X d (x.ws.map (·.s)) w5 (by rw [hnw]; exact HSM.out.1) (by rw [hnw]; exact hXd) (by rw [jc_texts]; omega) hst
    rw [hnw, jc_texts] at hcj
    have HCJ := zh hcj
    clear hcj hst
    go_wp2_with fail
    refine HCJ.out.mono ?_
    rintro e' w6 ⟨rfl, hb⟩
    clear HCJ
    have HBL6 := zh (bld_below HBL5.out hb)
    have HR6 := zh (HR5.out.below hb HR5.out.lt)
    have HI6 : Hid (w6.heap[gi]? = some (.stringIter P (pos + 1))) := zh ((hb.block gi hgi5).trans HI5.out)
    have HB6 := zh (HB5.out.trans (hb.mono HB5.out.size))
    have hgi6 : gi < w6.heap.size := zT hgi5 hb.size
    clear hb HBL5 HR5 HI5 HB5
    have HJ : Hid (lst (⟨(jc (x.ws.map fun v => lst v.s)).toArray⟩ : ByteArray) = jc (x.ws.map fun v => lst v.s)) := zh rfl
    have hJs : (⟨(jc (x.ws.map fun v => lst v.s)).toArray⟩ : ByteArray).size = (jc (x.ws.map fun v => lst v.s)).length := rfl
    generalize (⟨(jc (x.ws.map fun v => lst v.s)).toArray⟩ : ByteArray) = J at *
    go_wp2_with fail
    refine (wstr_any J HBL6.out (by omega) (by simp only [zA7, zA8, zA9]; omega)).mono ?_
    rintro e' w7 ⟨rfl, k1, k2, k3⟩
    have HBL7 := zh k1
    have HR7 := zh (others_row k3 HR6.out (by omega) (by decide))
    have HI7 := zh (k3.iter HI6.out (by omega))
    have HB7 := zh (HB6.out.trans (k2.mono (Nat.le_succ _)))
    have hgi7 : gi < w7.heap.size := zT hgi6 k2.size
    clear k1 k2 k3 HBL6 HR6 HI6 HB6
    rw [HJ.out] at HBL7
    have HE9 : Hid (ctx x = (acc ++ [32] ++ jc (x.ws.map fun v => lst v.s)) ++ ptx x (KS.drop (pos + 1)) (ts)) := zh (by rw [HEQ.out, px_f]; simp only [List.append_assoc, List.cons_append, List.nil_append])
    have hmu2 : w7.iterPos gi = pos + 1 := by simp [World.iterPos, HI7.out]
    go_wp2_with fail
    go_roundw
    case rel => exact ⟨pos + 1, acc ++ [32] ++ jc (x.ws.map fun v => lst v.s), ts, ll, hp, HI7.out, HBL7.out, HR7.out, HB7.out, HE9.out, hc2, HTS.out, hgi7⟩
    case measure => rw [hmu, hmu2]; omega
   ·rw [hkn] at HEQ hcnt
    have hc2 : ((KS.drop (pos + 1)).filter isT).length ≤ ts.length := by simpa [isT] using hcnt
    have hlen := congrArg List.length (HEQ.out.trans (congrArg _ (px_p x _ _)))
    simp only [zA7, zA8, zA9] at hlen
    have c4 : w4.cell? ⟨w.heap.size, 5, none⟩ = some (.slice x.B x.ps.length x.d) := (HR4.out.cell 5).trans rfl
    have hpsz : ∀ p ∈ x.ps, p.a.s.size + p.b.s.size ≤ 140737488355328 := fun p hp => by
     have h1 := jc_mem (List.mem_map_of_mem (f := fun v : Pw => lst v.a.s ++ 60 :: lst v.b.s) hp)
     rw [zA7, zA8, len_lst, len_lst] at h1
     omega
    have HCT := zh (cptexts_any x.B x.d x.ps w4 HSM.out.2.1 hpsz ((HIN.out.below HB4.out).mono HB4.out.size).ps)
    have hnw : (x.ps.map ptxt).length = x.ps.length := List.length_map _
    go_wp2_with fail
    refine HCT.out.mono ?_
    rintro e' w5 ⟨X, d, rfl, hXd, hst, hb⟩
    clear HCT c4
    have HBL5 := zh (bld_below HBL4.out hb)
    have HR5 := zh (HR4.out.below hb HR4.out.lt)
    have HI5 : Hid (w5.heap[gi]? = some (.stringIter P (pos + 1))) := zh ((hb.block gi hgi4).trans HI4.out)
    have HB5 := zh (HB4.out.trans (hb.mono HB4.out.size))
    have hgi5 : gi < w5.heap.size := zT hgi4 hb.size
    clear hb HBL4 HR4 HI4 HB4
    have hcj := cjoin_any X d (x.ps.map ptxt) w5 (by rw [hnw]; exact HSM.out.2.1) (by rw [hnw]; exact hXd) (by rw [jc_ptexts]; omega) hst
    rw [hnw, jc_ptexts] at hcj
    have HCJ := zh hcj
    clear hcj hst
    go_wp2_with fail
    refine HCJ.out.mono ?_
    rintro e' w6 ⟨rfl, hb⟩
    clear HCJ
    have HBL6 := zh (bld_below HBL5.out hb)
    have HR6 := zh (HR5.out.below hb HR5.out.lt)
    have HI6 : Hid (w6.heap[gi]? = some (.stringIter P (pos + 1))) := zh ((hb.block gi hgi5).trans HI5.out)
    have HB6 := zh (HB5.out.trans (hb.mono HB5.out.size))
    have hgi6 : gi < w6.heap.size := zT hgi5 hb.size
    clear hb HBL5 HR5 HI5 HB5
    have HJ : Hid (lst (⟨(jc (x.ps.map fun v => lst v.a.s ++ 60 :: lst v.b.s)).toArray⟩ : ByteArray) = jc (x.ps.map fun v => lst v.a.s ++ 60 :: lst v.b.s)) := zh rfl
    have hJs : (⟨(jc (x.ps.map fun v => lst v.a.s ++ 60 :: lst v.b.s)).toArray⟩ : ByteArray).size = (jc (x.ps.map fun v => lst v.a.s ++ 60 :: lst v.b.s)).length := rfl
    generalize (⟨(jc (x.ps.map fun v => lst v.a.s ++ 60 :: lst v.b.s)).toArray⟩ : ByteArray) = J at *
    have hno : ¬ (9223372036854775807 < 1 + J.size) := by omega
    have hno2 : ¬ (9223372036854775807 < 1 + J.size + 1) := by omega
    have hsz3 : ((⟨#[123]⟩ : ByteArray) ++ J ++ (⟨#[125]⟩ : ByteArray)).size = 1 + J.size + 1 := by rw [ByteArray.size_append, ByteArray.size_append]; rfl
    go_wp2_with fail
    refine (wstr_any ((⟨#[123]⟩ : ByteArray) ++ J ++ (⟨#[125]⟩ : ByteArray)) HBL6.out (by omega) (by rw [hsz3]; simp only [zA7, zA8, zA9]; omega)).mono ?_
    rintro e' w7 ⟨rfl, k1, k2, k3⟩
    have HBL7 := zh k1
    have HR7 := zh (others_row k3 HR6.out (by omega) (by decide))
    have HI7 := zh (k3.iter HI6.out (by omega))
    have HB7 := zh (HB6.out.trans (k2.mono (Nat.le_succ _)))
    have hgi7 : gi < w7.heap.size := zT hgi6 k2.size
    clear k1 k2 k3 HBL6 HR6 HI6 HB6
    rw [lst_app, lst_app, HJ.out] at HBL7
    have HE9 : Hid (ctx x = (acc ++ [32] ++ ([123] ++ jc (x.ps.map fun v => lst v.a.s ++ 60 :: lst v.b.s) ++ [125])) ++ ptx x (KS.drop (pos + 1)) (ts)) := zh (by rw [HEQ.out, px_p]; simp only [List.append_assoc, List.cons_append, List.nil_append])
    have hmu2 : w7.iterPos gi = pos + 1 := by simp [World.iterPos, HI7.out]
    go_wp2_with fail
    go_roundw
    case rel => exact ⟨pos + 1, acc ++ [32] ++ ([123] ++ jc (x.ps.map fun v => lst v.a.s ++ 60 :: lst v.b.s) ++ [125]), ts, ll, hp, HI7.out, HBL7.out, HR7.out, HB7.out, HE9.out, hc2, HTS.out, hgi7⟩
    case measure => rw [hmu, hmu2]; omega
   ·rw [hkn] at HEQ hcnt
    have hc2 : ((KS.drop (pos + 1)).filter isT).length + 1 ≤ ts.length := by simpa [isT] using hcnt
    have hts : (ts = [x.l, x.r] ∧ ll = x.l) ∨ (ts = [x.r] ∧ ll = x.r) := by
     rcases HTS.out with h | h | h
     ·exact .inl h
     ·exact .inr h
     ·rw [h] at hc2; simp at hc2
    have hhd : ts.headD n0 = ll := by rcases hts with ⟨h1, h2⟩ | ⟨h1, h2⟩ <;> rw [h1, h2] <;> rfl
    have hnl : Nods w w.heap.size [ll] ∧ cnt [ll] ≤ 4294967296 := by
     rcases hts with ⟨_, h2⟩ | ⟨_, h2⟩ <;> rw [h2]
     ·exact ⟨HIN.out.l, HSM.out.2.2.1⟩
     ·exact ⟨HIN.out.r, HSM.out.2.2.2⟩
    have htl : ((KS.drop (pos + 1)).filter isT).length ≤ ts.tail.length := by rw [List.length_tail]; omega
    have htt : (ts.tail = [x.l, x.r] ∧ x.r = x.l) ∨ (ts.tail = [x.r] ∧ x.r = x.r) ∨ ts.tail = [] := by
     rcases hts with ⟨h1, _⟩ | ⟨h1, _⟩ <;> rw [h1]
     ·exact .inr (.inl ⟨rfl, rfl⟩)
     ·exact .inr (.inr rfl)
    have hpx := px_t x (KS.drop (pos + 1)) ts
    rw [hhd] at hpx
    have HPX := zh hpx
    have hlen := congrArg List.length (HEQ.out.trans (congrArg _ hpx))
    simp only [zA7, zA8] at hlen
    have hta := text_any ll w4 hnl.2 (by omega) ((hnl.1.below HB4.out).mono HB4.out.size)
    unfold nv at hta
    have HTA := zh hta
    have HTL := zh htl
    have HTT := zh htt
    clear hta htl htt hpx hts hhd hnl
    have c7 := (HR4.out.cell 7).trans (show (cv (Cm.mk x.op x.p x.n x.A x.c x.ws x.B x.d x.ps x.pp ll x.r))[7]? = some (.int .i64 ll.k) from rfl)
    have c8 := (HR4.out.cell 8).trans (show (cv (Cm.mk x.op x.p x.n x.A x.c x.ws x.B x.d x.ps x.pp ll x.r))[8]? = some (.int .i64 ll.p) from rfl)
    have c9 := (HR4.out.cell 9).trans (show (cv (Cm.mk x.op x.p x.n x.A x.c x.ws x.B x.d x.ps x.pp ll x.r))[9]? = some (.string ll.s) from rfl)
    have c10 := (HR4.out.cell 10).trans (show (cv (Cm.mk x.op x.p x.n x.A x.c x.ws x.B x.d x.ps x.pp ll x.r))[10]? = some (.slice ll.A ll.ws.length ll.c) from rfl)
    have c11 := (HR4.out.cell 11).trans (show (cv (Cm.mk x.op x.p x.n x.A x.c x.ws x.B x.d x.ps x.pp ll x.r))[11]? = some (.slice ll.B ll.ks.length ll.d) from rfl)
    go_wp2_with fail
    refine HTA.out.mono ?_
    rintro e' w5 ⟨rfl, hb⟩
    clear HTA c7 c8 c9 c10 c11
    have HBL5 := zh (bld_below HBL4.out hb)
    have HR5 := zh (HR4.out.below hb HR4.out.lt)
    have HI5 : Hid (w5.heap[gi]? = some (.stringIter P (pos + 1))) := zh ((hb.block gi hgi4).trans HI4.out)
    have HB5 := zh (HB4.out.trans (hb.mono HB4.out.size))
    have hgi5 : gi < w5.heap.size := zT hgi4 hb.size
    clear hb HBL4 HR4 HI4 HB4
    have hts10 := text10_size ll
    go_wp2_with fail
    refine (wstr_any (text10 ll) HBL5.out (by omega) (by rw [hts10]; simp only [zA7, zA8, zA9]; omega)).mono ?_
    rintro e' w6 ⟨rfl, k1, k2, k3⟩
    have HBL6 := zh k1
    have HR6 := zh (others_row k3 HR5.out (by omega) (by decide))
    have HI6 := zh (k3.iter HI5.out (by omega))
    have HB6 := zh (HB5.out.trans (k2.mono (Nat.le_succ _)))
    have hgi6 : gi < w6.heap.size := zT hgi5 k2.size
    clear k1 k2 k3 HBL5 HR5 HI5 HB5
    rw [text10_lst] at HBL6
    have HBL7 : Hid (Bld (w6.setCells w.heap.size 7 (nv x.r).toList) (w.heap.size + 1) (w.heap.size + 1) (acc ++ [32] ++ tx ll)) := zh (bld_keep9 HBL6.out fun k c t fz hk _ => setCells_other _ _ _ _ k (by omega))
    have hr7 := RowAt.putsD HR6.out (nv x.r).toList 7
    have HR7 : Hid (RowAt (w6.setCells w.heap.size 7 (nv x.r).toList) w.heap.size 30 (cv (Cm.mk x.op x.p x.n x.A x.c x.ws x.B x.d x.ps x.pp x.r x.r))) := zh hr7
    have HI7 : Hid ((w6.setCells w.heap.size 7 (nv x.r).toList).heap[gi]? = some (.stringIter P (pos + 1))) := zh ((setCells_other _ _ _ _ gi (by omega)).trans HI6.out)
    have HB7 : Hid (Below w.heap.size w (w6.setCells w.heap.size 7 (nv x.r).toList)) := zh (HB6.out.trans (setCells_below (zL _) 7 _))
    have hgi7 : gi < (w6.setCells w.heap.size 7 (nv x.r).toList).heap.size := zT hgi6 (setCells_below (B := 0) (Nat.zero_le _) 7 _).size
    have HE9 : Hid (ctx x = (acc ++ [32] ++ tx ll) ++ ptx x (KS.drop (pos + 1)) ts.tail) := zh (by rw [HEQ.out, HPX.out]; simp only [List.append_assoc, List.cons_append, List.nil_append])
    have hmu2 : (w6.setCells w.heap.size 7 (nv x.r).toList).iterPos gi = pos + 1 := by simp [World.iterPos, HI7.out]
    clear hr7
    go_wp2_with (first | (refine wpList_load_mid rfl _ _ rfl w.heap.size 12 rfl (ncells x.r) _ (RowAt.range HR6.out 12 (ncells x.r) (by intro j u hu; match j, hu with | 0, hu => exact hu | 1, hu => exact hu | 2, hu => exact hu | 3, hu => exact hu | 4, hu => exact hu)) Tryz.underlying28 rfl (by rw [show (ncells x.r).length = 5 from rfl]; kernel_rfl) ?_) | (refine wpList_store_mid rfl _ _ _ rfl w.heap.size 7 (nv x.r) rfl rfl (RowAt.thereD HR6.out (by show 7 + 5 ≤ 17; omega)) (node_info _ _ _ _ _) (by simp [nv, Value.oneCell']) ?_))
    simp only [Act.put]
    go_roundw
    case rel => exact ⟨pos + 1, acc ++ [32] ++ tx ll, ts.tail, x.r, hp, HI7.out, HBL7.out, HR7.out, HB7.out, HE9.out, HTL.out, (HTT.out.imp id fun h => h.imp (fun h => ⟨h.1, rfl⟩) id), hgi7⟩
    case measure => rw [hmu, hmu2]; omega
   ·rw [hkn] at HEQ hcnt
    have hc2 : ((KS.drop (pos + 1)).filter isT).length + 1 ≤ ts.length := by simpa [isT] using hcnt
    have hts : (ts = [x.l, x.r] ∧ ll = x.l) ∨ (ts = [x.r] ∧ ll = x.r) := by
     rcases HTS.out with h | h | h
     ·exact .inl h
     ·exact .inr h
     ·rw [h] at hc2; simp at hc2
    have hhd : ts.headD n0 = ll := by rcases hts with ⟨h1, h2⟩ | ⟨h1, h2⟩ <;> rw [h1, h2] <;> rfl
    have hnl : Nods w w.heap.size [ll] ∧ cnt [ll] ≤ 4294967296 := by
     rcases hts with ⟨_, h2⟩ | ⟨_, h2⟩ <;> rw [h2]
     ·exact ⟨HIN.out.l, HSM.out.2.2.1⟩
     ·exact ⟨HIN.out.r, HSM.out.2.2.2⟩
    have htl : ((KS.drop (pos + 1)).filter isT).length ≤ ts.tail.length := by rw [List.length_tail]; omega
    have htt : (ts.tail = [x.l, x.r] ∧ x.r = x.l) ∨ (ts.tail = [x.r] ∧ x.r = x.r) ∨ ts.tail = [] := by
     rcases hts with ⟨h1, _⟩ | ⟨h1, _⟩ <;> rw [h1]
     ·exact .inr (.inl ⟨rfl, rfl⟩)
     ·exact .inr (.inr rfl)
    have hpx := px_r x (KS.drop (pos + 1)) ts
    rw [hhd] at hpx
    have HPX := zh hpx
    have hlen := congrArg List.length (HEQ.out.trans (congrArg _ hpx))
    simp only [zA7, zA8] at hlen
    have hta := text_any ll w4 hnl.2 (by omega) ((hnl.1.below HB4.out).mono HB4.out.size)
    unfold nv at hta
    have HTA := zh hta
    have HTL := zh htl
    have HTT := zh htt
    clear hta htl htt hpx hts hhd hnl
    have c7 := (HR4.out.cell 7).trans (show (cv (Cm.mk x.op x.p x.n x.A x.c x.ws x.B x.d x.ps x.pp ll x.r))[7]? = some (.int .i64 ll.k) from rfl)
    have c8 := (HR4.out.cell 8).trans (show (cv (Cm.mk x.op x.p x.n x.A x.c x.ws x.B x.d x.ps x.pp ll x.r))[8]? = some (.int .i64 ll.p) from rfl)
    have c9 := (HR4.out.cell 9).trans (show (cv (Cm.mk x.op x.p x.n x.A x.c x.ws x.B x.d x.ps x.pp ll x.r))[9]? = some (.string ll.s) from rfl)
    have c10 := (HR4.out.cell 10).trans (show (cv (Cm.mk x.op x.p x.n x.A x.c x.ws x.B x.d x.ps x.pp ll x.r))[10]? = some (.slice ll.A ll.ws.length ll.c) from rfl)
    have c11 := (HR4.out.cell 11).trans (show (cv (Cm.mk x.op x.p x.n x.A x.c x.ws x.B x.d x.ps x.pp ll x.r))[11]? = some (.slice ll.B ll.ks.length ll.d) from rfl)
    go_wp2_with fail
    refine HTA.out.mono ?_
    rintro e' w5 ⟨rfl, hb⟩
    clear HTA c7 c8 c9 c10 c11
    have HBL5 := zh (bld_below HBL4.out hb)
    have HR5 := zh (HR4.out.below hb HR4.out.lt)
    have HI5 : Hid (w5.heap[gi]? = some (.stringIter P (pos + 1))) := zh ((hb.block gi hgi4).trans HI4.out)
    have HB5 := zh (HB4.out.trans (hb.mono HB4.out.size))
    have hgi5 : gi < w5.heap.size := zT hgi4 hb.size
    clear hb HBL4 HR4 HI4 HB4
    have hts10 := text10_size ll
    go_wp2_with fail
    refine (wstr_any (text10 ll) HBL5.out (by omega) (by rw [hts10]; simp only [zA7, zA8, zA9]; omega)).mono ?_
    rintro e' w6 ⟨rfl, k1, k2, k3⟩
    have HBL6 := zh k1
    have HR6 := zh (others_row k3 HR5.out (by omega) (by decide))
    have HI6 := zh (k3.iter HI5.out (by omega))
    have HB6 := zh (HB5.out.trans (k2.mono (Nat.le_succ _)))
    have hgi6 : gi < w6.heap.size := zT hgi5 k2.size
    clear k1 k2 k3 HBL5 HR5 HI5 HB5
    rw [text10_lst] at HBL6
    have HBL7 : Hid (Bld (w6.setCells w.heap.size 7 (nv x.r).toList) (w.heap.size + 1) (w.heap.size + 1) (acc ++ [32] ++ tx ll)) := zh (bld_keep9 HBL6.out fun k c t fz hk _ => setCells_other _ _ _ _ k (by omega))
    have hr7 := RowAt.putsD HR6.out (nv x.r).toList 7
    have HR7 : Hid (RowAt (w6.setCells w.heap.size 7 (nv x.r).toList) w.heap.size 30 (cv (Cm.mk x.op x.p x.n x.A x.c x.ws x.B x.d x.ps x.pp x.r x.r))) := zh hr7
    have HI7 : Hid ((w6.setCells w.heap.size 7 (nv x.r).toList).heap[gi]? = some (.stringIter P (pos + 1))) := zh ((setCells_other _ _ _ _ gi (by omega)).trans HI6.out)
    have HB7 : Hid (Below w.heap.size w (w6.setCells w.heap.size 7 (nv x.r).toList)) := zh (HB6.out.trans (setCells_below (zL _) 7 _))
    have hgi7 : gi < (w6.setCells w.heap.size 7 (nv x.r).toList).heap.size := zT hgi6 (setCells_below (B := 0) (Nat.zero_le _) 7 _).size
    have HE9 : Hid (ctx x = (acc ++ [32] ++ tx ll) ++ ptx x (KS.drop (pos + 1)) ts.tail) := zh (by rw [HEQ.out, HPX.out]; simp only [List.append_assoc, List.cons_append, List.nil_append])
    have hmu2 : (w6.setCells w.heap.size 7 (nv x.r).toList).iterPos gi = pos + 1 := by simp [World.iterPos, HI7.out]
    clear hr7
    go_wp2_with (first | (refine wpList_load_mid rfl _ _ rfl w.heap.size 12 rfl (ncells x.r) _ (RowAt.range HR6.out 12 (ncells x.r) (by intro j u hu; match j, hu with | 0, hu => exact hu | 1, hu => exact hu | 2, hu => exact hu | 3, hu => exact hu | 4, hu => exact hu)) Tryz.underlying28 rfl (by rw [show (ncells x.r).length = 5 from rfl]; kernel_rfl) ?_) | (refine wpList_store_mid rfl _ _ _ rfl w.heap.size 7 (nv x.r) rfl rfl (RowAt.thereD HR6.out (by show 7 + 5 ≤ 17; omega)) (node_info _ _ _ _ _) (by simp [nv, Value.oneCell']) ?_))
    simp only [Act.put]
    go_roundw
    case rel => exact ⟨pos + 1, acc ++ [32] ++ tx ll, ts.tail, x.r, hp, HI7.out, HBL7.out, HR7.out, HB7.out, HE9.out, HTL.out, (HTT.out.imp id fun h => h.imp (fun h => ⟨h.1, rfl⟩) id), hgi7⟩
    case measure => rw [hmu, hmu2]; omega
  ·have hnext : ∀ ty, (Instr.next (.pointer (some ⟨gi, 0, none⟩)) true ty).run Tryz.prog wr = _ := fun ty => Lib.run_next_end_at wr gi P pos ty HIT.out hp
   have hacc : acc = ctx x := by
        have h := HEQ.out
        rw [List.drop_eq_nil_of_le (by rw [HLZ.out]; omega)] at h
        rw [h]
        exact (List.append_nil _).symm
   have HAC := zh hacc
   clear hacc
   go_wp2_with fail
   refine (Tryz.Builder_String_any _ _ _ _ HBL.out (by omega)).mono ?_
   rintro e' w2 ⟨rfl, hb⟩
   have HB9 := zh (HB.out.trans (hb.mono (Nat.le_succ _)))
   clear hb
   go_wp2_with fail
   exact HQ.out _ _ ⟨ret_eq (by rw [HTX.out, ← HAC.out]; rfl), HB9.out⟩
end
end Go.Proofs.YtmffnkfohmbbeaaGreatDoor
