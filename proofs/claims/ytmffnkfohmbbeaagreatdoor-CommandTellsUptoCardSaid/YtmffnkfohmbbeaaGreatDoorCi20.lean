/- Texts that all the claims need. Conditions: those that each states. -/

import Derived.Test.YtmffnkfohmbbeaaGreatDoorCi19
set_option linter.unusedSimpArgs false
set_option linter.unusedVariables false
set_option maxRecDepth 100000
set_option maxHeartbeats 40000000
namespace Go.Proofs.YtmffnkfohmbbeaaGreatDoor
section
open Go.RowKit LX TR TM CM
namespace CM
theorem eqL_refl12 {α : Type} {g : α → α → Bool} (h : ∀ v, g v v = true) : ∀ l : List α, eqL g l l = true
 | [] => rfl
 | v :: l => by rw [eqL, h v, eqL_refl12 h l]; rfl
theorem smC_refl12 (x : Cm) : smC x x = true := by
 unfold smC
 rw [zE rfl, zE rfl, eqL_refl12 (g := sw) (fun v => zE rfl), eqL_refl12 (g := spw) (fun v => by unfold spw sw; rw [zE rfl, zE rfl]; rfl), TM.sm_refl, TM.sm_refl]; rfl
end CM
theorem commandTells_any (x y : Cm) (op : Int) (w : World) (hT : Cmds w) (hx : CmIn w w.heap.size x) (hy : CmIn w w.heap.size y) (sx : SmlC x) (sy : SmlC y) (hlen : (ctx x).length ≤ 100000000) :
 Calls Tryz.prog 3 #[.agg (cv x), .agg (cv y), .int .i64 op] w fun e w' => e = .returned (.bool true) ∧ Below w.heap.size w w' := by
 have r1 := (RowAt.new w 30 (cv x)).alloc (.cells (cv y) 30)
 have r2 := RowAt.new (w.alloc (.cells (cv x) 30)) 30 (cv y)
 rw [show (w.alloc (.cells (cv x) 30)).heap.size = w.heap.size + 1 by simp] at r2
 have hb : Below w.heap.size w ((w.alloc (.cells (cv x) 30)).alloc (.cells (cv y) 30)) := ((zB _ _).alloc (zL _) _).alloc (by simp) _
 have HT := zh hT
 have HIX : Hid (∀ W, Below w.heap.size w W → CmIn W W.heap.size x) := zh fun W h => (hx.below h).mono h.size
 have HIY : Hid (∀ W, Below w.heap.size w W → CmIn W W.heap.size y) := zh fun W h => (hy.below h).mono h.size
 have HBX : Hid (∀ W, Below w.heap.size w W → Calls Tryz.prog 6 #[.agg (cv x)] W fun e w' => ∃ b : Bool, e = .returned (.bool b) ∧ Below W.heap.size W w') := zh fun W h => big12_some' x W (HIX.out W h) sx.2.2.1 sx.2.2.2
 have HBY : Hid (∀ W, Below w.heap.size w W → Calls Tryz.prog 6 #[.agg (cv y)] W fun e w' => ∃ b : Bool, e = .returned (.bool b) ∧ Below W.heap.size W w') := zh fun W h => big12_some' y W (HIY.out W h) sy.2.2.1 sy.2.2.2
 have HR1 : Hid (∀ W, Below w.heap.size w W → Calls Tryz.prog 12 #[.agg (cv x)] W fun e w' => e = .returned (.bool (riC x)) ∧ Below W.heap.size W w') := zh fun W h => cright_any x W (HT.out.low h) (HIX.out W h) sx
 have HR2 : Hid (∀ W, Below w.heap.size w W → Calls Tryz.prog 13 #[.agg (cv x)] W fun e w' => e = .returned (.bool (riC x)) ∧ Below W.heap.size W w') := zh fun W h => qright12_any x W (HIX.out W h) sx
 have HT1 : Hid (∀ W, Below w.heap.size w W → Calls Tryz.prog 8 #[.agg (cv x)] W fun e w' => e = .returned (.string (ctext x)) ∧ Below W.heap.size W w') := zh fun W h => ctextP_any x W (HT.out.low h) (HIX.out W h) sx (by omega)
 have HT2 : Hid (∀ W, Below w.heap.size w W → Calls Tryz.prog 9 #[.agg (cv x)] W fun e w' => e = .returned (.string (ctext x)) ∧ Below W.heap.size W w') := zh fun W h => qtext12_any x W (HIX.out W h) sx hlen
 have HS1 : Hid (∀ W, Below w.heap.size w W → Calls Tryz.prog 10 #[.agg (cv x), .agg (cv y)] W fun e w' => e = .returned (.bool (smC x y)) ∧ Below W.heap.size W w') := zh fun W h => csame_any x y W (HIX.out W h) (HIY.out W h) sx
 have HS2 : Hid (∀ W, Below w.heap.size w W → Calls Tryz.prog 11 #[.agg (cv x), .agg (cv y)] W fun e w' => e = .returned (.bool (smC x y)) ∧ Below W.heap.size W w') := zh fun W h => qsame_any x y W (HIX.out W h) (HIY.out W h) sx sy
 have HS3 : Hid (∀ W, Below w.heap.size w W → Calls Tryz.prog 10 #[.agg (cv x), .agg (cv x)] W fun e w' => e = .returned (.bool true) ∧ Below W.heap.size W w') := zh fun W h => by
  have := csame_any x x W (HIX.out W h) (HIX.out W h) sx
  rw [smC_refl12] at this
  exact this
 have HW1 : Hid (∀ W, Below w.heap.size w W → Calls Tryz.prog 14 #[.int .i64 op] W fun e w' => e = .returned (.string (wrd op)) ∧ Below W.heap.size W w') := zh fun W h => (word_cmd op W (HT.out.low h)).mono fun e w' h => ⟨h.1, by rw [h.2]; exact zB _ _⟩
 have HW2 : Hid (∀ W, Below w.heap.size w W → Calls Tryz.prog 15 #[.int .i64 op] W fun e w' => e = .returned (.string (wrd op)) ∧ Below W.heap.size W w') := zh fun W h => qword_any op W
 have HAL : Hid (∀ W, Below w.heap.size w W → Calls Tryz.prog 7 #[] W fun e w' => e = .returned (.bool true) ∧ Below W.heap.size W w') := zh fun W h => alive12_any W (HT.out.low h)
 clear hT hx hy sx sy hlen HT HIX HIY
 refine cHidC fun Q' hQ => ?_
 have HQ := zh hQ; clear hQ
 go_enter Tryz.func3, Tryz.ntmps3
 go_upto_region 1 with fail
 change Code.wp _ _ _ _ ((w.alloc (.cells (cv x) 30)).alloc (.cells (cv y) 30))
 generalize (w.alloc (.cells (cv x) 30)).alloc (.cells (cv y) 30) = w1 at *
 have HB1 := zh hb
 have HX1 : Hid (∀ W, Below w1.heap.size w1 W → RowAt W w.heap.size 30 (cv x)) := zh fun W h => r1.below h r1.lt
 have HY1 : Hid (∀ W, Below w1.heap.size w1 W → RowAt W (w.heap.size + 1) 30 (cv y)) := zh fun W h => r2.below h r2.lt
 clear hb r1 r2
 generalize riC x = ri at *
 generalize smC x y = sm1 at *
 generalize ctext x = tt at *
 generalize wrd op = wo at *
 have HTO : Hid (∀ W, Below w1.heap.size w1 W → Below w.heap.size w W) := zh fun W h => HB1.out.trans (h.mono HB1.out.size)
 have HX1r := zh (HX1.out w1 (zB _ _))
 have HBX1 := zh (HBX.out w1 HB1.out)
 go_wp2_with (refine wpList_load_rowW (by rfl) _ _ rfl w.heap.size rfl _ _ _ HX1r.out Tryz.underlying30 rfl (cmd_info x) ?_)
 refine HBX1.out.mono ?_
 rintro e w2 ⟨b, rfl, hb2⟩
 have HU2 : Hid (Below w1.heap.size w1 w2) := zh hb2
 clear hb2 HBX1 HX1r
 have HEND : Hid (∀ W, Below w1.heap.size w1 W → Calls Tryz.prog 7 #[] W fun e w' => e = .returned (.bool true) ∧ Below W.heap.size W w') := zh fun W h => HAL.out W (HTO.out W h)
 cases b with
 | true =>
   have HAL2 := zh (HEND.out w2 HU2.out)
   go_wp2_with (go_at_call 7; refine HAL2.out.mono ?_; rintro e w3 ⟨rfl, hb3⟩; have HU3 := zh (HU2.out.trans (hb3.mono HU2.out.size)); clear hb3)
   exact HQ.out _ _ ⟨rfl, HTO.out _ HU3.out⟩
 | false =>
   have HY2r := zh (HY1.out w2 HU2.out)
   have HBY2 := zh (HBY.out w2 (HTO.out _ HU2.out))
   go_wp2_with (refine wpList_load_rowW (by first | rfl | kernel_rfl) _ _ rfl (w.heap.size + 1) rfl _ _ _ HY2r.out Tryz.underlying30 rfl (cmd_info y) ?_)
   refine HBY2.out.mono ?_
   rintro e w3 ⟨b, rfl, hb3⟩
   have HU3 : Hid (Below w1.heap.size w1 w3) := zh (HU2.out.trans (hb3.mono HU2.out.size))
   clear hb3 HBY2 HY2r
   cases b with
   | true =>
     have HAL3 := zh (HEND.out w3 HU3.out)
     go_wp2_with (go_at_call 7; refine HAL3.out.mono ?_; rintro e w4 ⟨rfl, hb4⟩; have HU4 := zh (HU3.out.trans (hb4.mono HU3.out.size)); clear hb4)
     exact HQ.out _ _ ⟨rfl, HTO.out _ HU4.out⟩
   | false =>
     go_upto_region 3 with fail
     have HUR : Hid (Below w1.heap.size w1 w3.drew) := zh HU3.out.drew
     clear HU2 HU3
     refine wp_region_ou (fun W => Below w1.heap.size w1 W) ((.take 0 (.take 2 (.solo 1 (.solo 3 (.take 4 (.take 5 (.take 6 (.take 7 (.take 9 (.take 10 (.solo 8 (.solo 11 (.take 12 (.take 13 (.take 14 (.take 15 (.take 16 (.solo 17 (.take 18 (.take 19 (.take 20 (.take 22 (.solo 21 (.solo 23 (.take 24 (.take 25 (.take 26 (.take 27 (.take 29 (.solo 28 (.solo 30 (.take 31 (.take 32 (.take 33 (.solo 34 (.take 35 (.take 36 .nil)))))))))))))))))))))))))))))))))))))) (by kernel_rfl) (by kernel_rfl) rfl (by kernel_rfl) HUR.out ?_
     generalize w3.drew = w10 at *
     have HU10 := HUR
     clear HUR
     iterate 2
        (refine wpOU_step (zO rfl) ?_)
        (first
           | (refine wpOU_skip (by rfl) ?_)
           | (refine wpOU_take (by rfl) (take_loadRow _ _ rfl w.heap.size rfl _ (cv x) _ HX1.out Tryz.underlying30 rfl (cmd_info x)) ?_)
           | (refine wpOU_take (by rfl) (take_loadRow _ _ rfl (w.heap.size + 1) rfl _ (cv y) _ HY1.out Tryz.underlying30 rfl (cmd_info y)) ?_)
           | (refine wpOU_take (v := ?_) (by rfl) ?_ ?_; rotate_left 1; (intro wx hSx; go_simp; try with_reducible rfl)))
        (try simp only [Act.put, zA4, zA5, zA6])
     (refine wpOU_solo (zO rfl) ?_)
     intro K hK
     go_simp
     go_at_call 8
     refine (HT1.out w10 (HTO.out _ HU10.out)).mono ?_
     rintro e w11 ⟨rfl, BB⟩
     have HU11 : Hid (Below w1.heap.size w1 w11) := zh (HU10.out.trans (BB.mono HU10.out.size))
     refine hK.out _ _ HU11.out ?_
     clear hK K
     (try simp only [Act.put, zA4, zA5, zA6])
     (refine wpOU_solo (zO rfl) ?_)
     intro K hK
     go_simp
     go_at_call 9
     refine (HT2.out w11 (HTO.out _ HU11.out)).mono ?_
     rintro e w12 ⟨rfl, BB⟩
     have HU12 : Hid (Below w1.heap.size w1 w12) := zh (HU11.out.trans (BB.mono HU11.out.size))
     refine hK.out _ _ HU12.out ?_
     clear hK K
     (try simp only [Act.put, zA4, zA5, zA6])
     iterate 6
        (refine wpOU_step (zO rfl) ?_)
        (first
           | (refine wpOU_skip (by rfl) ?_)
           | (refine wpOU_take (by rfl) (take_loadRow _ _ rfl w.heap.size rfl _ (cv x) _ HX1.out Tryz.underlying30 rfl (cmd_info x)) ?_)
           | (refine wpOU_take (by rfl) (take_loadRow _ _ rfl (w.heap.size + 1) rfl _ (cv y) _ HY1.out Tryz.underlying30 rfl (cmd_info y)) ?_)
           | (refine wpOU_take (v := ?_) (by rfl) ?_ ?_; rotate_left 1; (intro wx hSx; go_simp; try with_reducible rfl)))
        (try simp only [Act.put, zA4, zA5, zA6])
     (refine wpOU_solo (zO rfl) ?_)
     intro K hK
     go_simp
     go_at_call 10
     refine (HS1.out w12 (HTO.out _ HU12.out)).mono ?_
     rintro e w13 ⟨rfl, BB⟩
     have HU13 : Hid (Below w1.heap.size w1 w13) := zh (HU12.out.trans (BB.mono HU12.out.size))
     refine hK.out _ _ HU13.out ?_
     clear hK K
     (try simp only [Act.put, zA4, zA5, zA6])
     (refine wpOU_solo (zO rfl) ?_)
     intro K hK
     go_simp
     go_at_call 11
     refine (HS2.out w13 (HTO.out _ HU13.out)).mono ?_
     rintro e w14 ⟨rfl, BB⟩
     have HU14 : Hid (Below w1.heap.size w1 w14) := zh (HU13.out.trans (BB.mono HU13.out.size))
     refine hK.out _ _ HU14.out ?_
     clear hK K
     (try simp only [Act.put, zA4, zA5, zA6])
     iterate 5
        (refine wpOU_step (zO rfl) ?_)
        (first
           | (refine wpOU_skip (by rfl) ?_)
           | (refine wpOU_take (by rfl) (take_loadRow _ _ rfl w.heap.size rfl _ (cv x) _ HX1.out Tryz.underlying30 rfl (cmd_info x)) ?_)
           | (refine wpOU_take (by rfl) (take_loadRow _ _ rfl (w.heap.size + 1) rfl _ (cv y) _ HY1.out Tryz.underlying30 rfl (cmd_info y)) ?_)
           | (refine wpOU_take (v := ?_) (by rfl) ?_ ?_; rotate_left 1; (intro wx hSx; go_simp; try with_reducible rfl)))
        (try simp only [Act.put, zA4, zA5, zA6])
     (refine wpOU_solo (zO rfl) ?_)
     intro K hK
     go_simp
     go_at_call 10
     refine (HS3.out w14 (HTO.out _ HU14.out)).mono ?_
     rintro e w15 ⟨rfl, BB⟩
     have HU15 : Hid (Below w1.heap.size w1 w15) := zh (HU14.out.trans (BB.mono HU14.out.size))
     refine hK.out _ _ HU15.out ?_
     clear hK K
     (try simp only [Act.put, zA4, zA5, zA6])
     iterate 4
        (refine wpOU_step (zO rfl) ?_)
        (first
           | (refine wpOU_skip (by rfl) ?_)
           | (refine wpOU_take (by rfl) (take_loadRow _ _ rfl w.heap.size rfl _ (cv x) _ HX1.out Tryz.underlying30 rfl (cmd_info x)) ?_)
           | (refine wpOU_take (by rfl) (take_loadRow _ _ rfl (w.heap.size + 1) rfl _ (cv y) _ HY1.out Tryz.underlying30 rfl (cmd_info y)) ?_)
           | (refine wpOU_take (v := ?_) (by rfl) ?_ ?_; rotate_left 1; (intro wx hSx; go_simp; try with_reducible rfl)))
        (try simp only [Act.put, zA4, zA5, zA6])
     (refine wpOU_solo (zO rfl) ?_)
     intro K hK
     go_simp
     go_at_call 12
     refine (HR1.out w15 (HTO.out _ HU15.out)).mono ?_
     rintro e w16 ⟨rfl, BB⟩
     have HU16 : Hid (Below w1.heap.size w1 w16) := zh (HU15.out.trans (BB.mono HU15.out.size))
     refine hK.out _ _ HU16.out ?_
     clear hK K
     (try simp only [Act.put, zA4, zA5, zA6])
     (refine wpOU_solo (zO rfl) ?_)
     intro K hK
     go_simp
     go_at_call 13
     refine (HR2.out w16 (HTO.out _ HU16.out)).mono ?_
     rintro e w17 ⟨rfl, BB⟩
     have HU17 : Hid (Below w1.heap.size w1 w17) := zh (HU16.out.trans (BB.mono HU16.out.size))
     refine hK.out _ _ HU17.out ?_
     clear hK K
     (try simp only [Act.put, zA4, zA5, zA6])
     iterate 5
        (refine wpOU_step (zO rfl) ?_)
        (first
           | (refine wpOU_skip (by rfl) ?_)
           | (refine wpOU_take (by rfl) (take_loadRow _ _ rfl w.heap.size rfl _ (cv x) _ HX1.out Tryz.underlying30 rfl (cmd_info x)) ?_)
           | (refine wpOU_take (by rfl) (take_loadRow _ _ rfl (w.heap.size + 1) rfl _ (cv y) _ HY1.out Tryz.underlying30 rfl (cmd_info y)) ?_)
           | (refine wpOU_take (v := ?_) (by rfl) ?_ ?_; rotate_left 1; (intro wx hSx; go_simp; try with_reducible rfl)))
        (try simp only [Act.put, zA4, zA5, zA6])
     (refine wpOU_solo (zO rfl) ?_)
     intro K hK
     go_simp
     go_at_call 14
     refine (HW1.out w17 (HTO.out _ HU17.out)).mono ?_
     rintro e w18 ⟨rfl, BB⟩
     have HU18 : Hid (Below w1.heap.size w1 w18) := zh (HU17.out.trans (BB.mono HU17.out.size))
     refine hK.out _ _ HU18.out ?_
     clear hK K
     (try simp only [Act.put, zA4, zA5, zA6])
     (refine wpOU_solo (zO rfl) ?_)
     intro K hK
     go_simp
     go_at_call 15
     refine (HW2.out w18 (HTO.out _ HU18.out)).mono ?_
     rintro e w19 ⟨rfl, BB⟩
     have HU19 : Hid (Below w1.heap.size w1 w19) := zh (HU18.out.trans (BB.mono HU18.out.size))
     refine hK.out _ _ HU19.out ?_
     clear hK K
     (try simp only [Act.put, zA4, zA5, zA6])
     iterate 3
        (refine wpOU_step (zO rfl) ?_)
        (first
           | (refine wpOU_skip (by rfl) ?_)
           | (refine wpOU_take (by rfl) (take_loadRow _ _ rfl w.heap.size rfl _ (cv x) _ HX1.out Tryz.underlying30 rfl (cmd_info x)) ?_)
           | (refine wpOU_take (by rfl) (take_loadRow _ _ rfl (w.heap.size + 1) rfl _ (cv y) _ HY1.out Tryz.underlying30 rfl (cmd_info y)) ?_)
           | (refine wpOU_take (v := ?_) (by rfl) ?_ ?_; rotate_left 1; (intro wx hSx; go_simp; try with_reducible rfl)))
        (try simp only [Act.put, zA4, zA5, zA6])
     (refine wpOU_solo (zO rfl) ?_)
     intro K hK
     go_simp
     go_at_call 7
     refine (HAL.out w19 (HTO.out _ HU19.out)).mono ?_
     rintro e w20 ⟨rfl, BB⟩
     have HU20 : Hid (Below w1.heap.size w1 w20) := zh (HU19.out.trans (BB.mono HU19.out.size))
     refine hK.out _ _ HU20.out ?_
     clear hK K
     (try simp only [Act.put, zA4, zA5, zA6])
     iterate 2
        (refine wpOU_step (zO rfl) ?_)
        (first
           | (refine wpOU_skip (by rfl) ?_)
           | (refine wpOU_take (by rfl) (take_loadRow _ _ rfl w.heap.size rfl _ (cv x) _ HX1.out Tryz.underlying30 rfl (cmd_info x)) ?_)
           | (refine wpOU_take (by rfl) (take_loadRow _ _ rfl (w.heap.size + 1) rfl _ (cv y) _ HY1.out Tryz.underlying30 rfl (cmd_info y)) ?_)
           | (refine wpOU_take (v := ?_) (by rfl) ?_ ?_; rotate_left 1; (intro wx hSx; go_simp; try with_reducible rfl)))
        (try simp only [Act.put, zA4, zA5, zA6])
     refine wpOU_done ?_
     go_wp2_with fail
     exact HQ.out _ _ ⟨by simp, HTO.out _ HU20.out⟩
end
end Go.Proofs.YtmffnkfohmbbeaaGreatDoor
