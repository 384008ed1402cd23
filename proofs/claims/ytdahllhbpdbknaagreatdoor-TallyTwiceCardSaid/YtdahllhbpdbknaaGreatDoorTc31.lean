/- Texts that all the claims need. Conditions: those that each states. -/

import Derived.Test.YtdahllhbpdbknaaGreatDoorTc30
set_option linter.unusedSimpArgs false
set_option linter.unusedVariables false
set_option maxRecDepth 100000
set_option maxHeartbeats 40000000
namespace Go.Proofs.YtdahllhbpdbknaaGreatDoor
section
open Go.RowKit RM Go.Maps
theorem tallyTwice_any (t : Bool) (A : Option Addr) (c : Nat) (fs : List Fac) (LA : Option Addr) (lc : Nat) (xs : List OpX) (w : World) (h : LawIn w A c fs LA xs) :
 Calls Tryz.prog 5 #[.agg (sv t A fs.length c), .slice LA xs.length lc] w fun e w' => e = .returned (.bool true) ∧ Below w.heap.size w w' := by
 have hnot : ∀ (x : Bool) (w : World), (Op.unary .not (.bool x)).run Tryz.prog w = .ok (.bool (!x)) w := fun _ _ => rfl
 have r0 := RowAt.new w 24 (sv t A fs.length c)
 have hb0 : Below w.heap.size w (w.alloc (.cells (sv t A fs.length c) 24)) := (zB _ _).alloc (zL _) _
 have HBG : Hid (∀ W, Below w.heap.size w W → Calls Tryz.prog 6 #[.agg (sv t A fs.length c)] W fun x w' => x = .returned (.bool (bigShB fs)) ∧ Below W.heap.size W w') := zh fun W h2 => bigS_any t A c fs W (h.facs.below h2)
 have HBX : Hid (∀ W, Below w.heap.size w W → Calls Tryz.prog 7 #[.slice LA xs.length lc] W fun x w' => x = .returned (.bool (bigX xs)) ∧ Below W.heap.size W w') := zh fun W h2 => big17_any LA lc xs W (h.ops.below h2)
 have HAL : Hid (∀ W, Below w.heap.size w W → Calls Tryz.prog 8 #[] W fun x w' => x = .returned (.bool true) ∧ Below W.heap.size W w') := zh fun W h2 => alive17_any W (h.tab.below h2)
 have HH := zh h; clear h
 refine cHid fun Q' hQ => ?_
 have HQ := zh hQ; clear hQ
 go_enter Tryz.func5, Tryz.ntmps5
 go_upto_region 1 with fail
 change Code.wp _ _ _ _ (w.alloc (.cells (sv t A fs.length c) 24))
 generalize (w.alloc (.cells (sv t A fs.length c) 24)) = w1 at *
 have HR1 := zh r0
 have HB1 := zh hb0
 have HBG1 := zh (HBG.out w1 hb0)
 clear r0 hb0 HBG
 cases hbs : bigShB fs with
 | true =>
   rw [hbs] at HBG1
   clear hbs
   generalize fs.length = n at *
   generalize xs.length = m at *
   go_wp2_with (first
    | (refine wpList_loadShape (by rfl) _ rfl w.heap.size rfl _ _ _ _ HR1.out ?_)
    | (go_at_call 6; refine HBG1.out.mono ?_; rintro e w2 ⟨rfl, hb2⟩; have HB2 := zh (HB1.out.trans (hb2.mono HB1.out.size)); have HAL2 := zh (HAL.out w2 HB2.out); clear hb2)
    | (go_at_call 8; refine HAL2.out.mono ?_; rintro e w3 ⟨rfl, hb3⟩; have HB3 := zh (HB2.out.trans (hb3.mono HB2.out.size)); clear hb3))
   exact HQ.out _ _ ⟨rfl, HB3.out⟩
 | false =>
   rw [hbs] at HBG1
   cases hbx : bigX xs with
   | true =>
     rw [hbx] at HBX
     clear hbs hbx
     generalize fs.length = n at *
     generalize xs.length = m at *
     go_wp2_with (first
        | (refine wpList_loadShape (by rfl) _ rfl w.heap.size rfl _ _ _ _ HR1.out ?_)
        | (go_at_call 6; refine HBG1.out.mono ?_; rintro e w2 ⟨rfl, hb2⟩; have HB2 := zh (HB1.out.trans (hb2.mono HB1.out.size)); have HBX2 := zh (HBX.out w2 HB2.out); clear hb2)
        | (go_at_call 7; refine HBX2.out.mono ?_; rintro e w3 ⟨rfl, hb3⟩; have HB3 := zh (HB2.out.trans (hb3.mono HB2.out.size)); have HAL3 := zh (HAL.out w3 HB3.out); clear hb3)
        | (go_at_call 8; refine HAL3.out.mono ?_; rintro e w4 ⟨rfl, hb4⟩; have HB4 := zh (HB3.out.trans (hb4.mono HB3.out.size)); clear hb4))
     exact HQ.out _ _ ⟨rfl, HB4.out⟩
   | false =>
     rw [hbx] at HBX
     obtain ⟨hf12, hf70⟩ := big_no hbs
     obtain ⟨hx60, hxb⟩ := bigX_no hbx
     have HOF : Hid (∀ W, Below w.heap.size w W → Calls Tryz.prog 9 #[.agg (sv t A fs.length c)] W fun e w' => ∃ gow gs go gt gp b1 A' c' gf, e = .returned (.agg #[.func (.func 19) #[] #[.pointer (some ⟨gow, 0, none⟩)], .func (.func 21) #[] #[],
        .func (.func 43) #[] #[.pointer (some ⟨go, 0, none⟩), .pointer (some ⟨gp, 0, none⟩), .pointer (some ⟨gt, 0, none⟩), .pointer (some ⟨gs, 0, none⟩)]]) ∧ OfAt w' W.heap.size gow gs go gt gp b1 t A' c' gf ∧ gf.map core = fs.map core ∧ Below W.heap.size W w') := zh fun W h2 =>
        of17_any t A c fs W (HH.out.facs.below h2) HH.out.nil (by omega) (fun f hf => by have := hf70 f hf; omega)
     have HXB := zh hxb
     clear hbs hbx hf12 hf70 hxb
     generalize fs.length = n at *
     generalize hm : xs.length = m at *
     have HM := zh hm; clear hm
     have HNW := zh fun W => new17_any W
     go_upto_region 4 with (first
        | (refine wpList_loadShape (by rfl) _ rfl w.heap.size rfl _ _ _ _ HR1.out ?_)
        | (go_at_call 6; refine HBG1.out.mono ?_; rintro e w2 ⟨rfl, hb2⟩; have HB2 := zh (HB1.out.trans (hb2.mono HB1.out.size)); have HBX2 := zh (HBX.out w2 HB2.out); have HR2 := zh (HR1.out.below hb2 HR1.out.lt); clear hb2)
        | (go_at_call 7; refine HBX2.out.mono ?_; rintro e w3 ⟨rfl, hb3⟩; have HB3 := zh (HB2.out.trans (hb3.mono HB2.out.size)); have HR3 := zh (HR2.out.below hb3 HR2.out.lt); clear hb3)
        | (have hx := HBB.out; go_at_call 13; refine (HNW.out w5).mono ?_; rintro e w6 ⟨rfl, hm, hc, hb⟩; have HMC := zh hm; have HCC := zh hc; have HBC := zh hb; clear hm hc hb hx)
        | (have hx := HBA.out; go_at_call 13; refine (HNW.out w4).mono ?_; rintro e w5 ⟨rfl, hm, hc, hb⟩; have HMB := zh hm; have HCB := zh hc; have HBB := zh hb; clear hm hc hb hx)
        | (go_at_call 13; refine (HNW.out w3).mono ?_; rintro e w4 ⟨rfl, hm, hc, hb⟩; have HMA := zh hm; have HCA := zh hc; have HBA := zh hb; clear hm hc hb))
     obtain ⟨gma, hgma⟩ : ∃ g, g = w3.heap.size + 1 := ⟨_, rfl⟩
     obtain ⟨gmb, hgmb⟩ : ∃ g, g = w4.heap.size + 1 := ⟨_, rfl⟩
     obtain ⟨gmc, hgmc⟩ : ∃ g, g = w5.heap.size + 1 := ⟨_, rfl⟩
     obtain ⟨ga, hga⟩ : ∃ g, g = w3.heap.size := ⟨_, rfl⟩
     obtain ⟨gb, hgb⟩ : ∃ g, g = w4.heap.size := ⟨_, rfl⟩
     obtain ⟨gc, hgc⟩ : ∃ g, g = w5.heap.size := ⟨_, rfl⟩
     rw [← hgma, ← hgmb, ← hgmc]
     rw [← hgma, ← hga] at HMA
     rw [← hga] at HCA
     rw [← hgmb, ← hgb] at HMB
     rw [← hgb] at HCB
     rw [← hgmc, ← hgc] at HMC
     rw [← hgc] at HCC
     have HGA := zh (And.intro hga (And.intro hgb hgc))
     clear hgma hgmb hgmc hga hgb hgc
     have s4 := HBA.out.size
     have s5 := HBB.out.size
     have s6 := HBC.out.size
     have hb46 : Below w4.heap.size w4 w6 := HBB.out.trans (HBC.out.mono s5)
     have hb36 : Below w3.heap.size w3 w6 := HBA.out.trans (hb46.mono s4)
     have HMA6 : Hid (MetAt w6 gma ga) := zh (RowAt.below HMA.out hb46 (RowAt.lt HMA.out))
     have HCA6 := zh (HCA.out.below hb46 HCA.out.lt)
     have HMB6 : Hid (MetAt w6 gmb gb) := zh (RowAt.below HMB.out HBC.out (RowAt.lt HMB.out))
     have HCB6 := zh (HCB.out.below HBC.out HCB.out.lt)
     have HB6 := zh (HB3.out.trans (hb36.mono HB3.out.size))
     have HR6 := zh (HR3.out.below hb36 HR3.out.lt)
     have HOF6 := zh (HOF.out w6 HB6.out)
     have ha := HCA.out.lt
     have hb := HCB.out.lt
     have hc := HCC.out.lt
     have h3 := HB3.out.size
     have hrs := HR3.out.lt
     have hg := HGA.out
     have HORD : Hid (w.heap.size < ga ∧ ga < gb ∧ gb < gc ∧ gc < w6.heap.size) := zh (by omega)
     have HMN : Hid (gma ≠ ga ∧ gma ≠ gb ∧ gma ≠ gc ∧ gmb ≠ ga ∧ gmb ≠ gb ∧ gmb ≠ gc ∧ gmc ≠ ga ∧ gmc ≠ gb ∧ gmc ≠ gc) := by
        have h1 := HMA6.out
        have h2 := HMB6.out
        have h3 := HMC.out
        unfold MetAt at h1 h2 h3
        exact ⟨fun e => blk_apart h1 HCA6.out (by decide) e, fun e => blk_apart h1 HCB6.out (by decide) e, fun e => blk_apart h1 HCC.out (by decide) e, fun e => blk_apart h2 HCA6.out (by decide) e, fun e => blk_apart h2 HCB6.out (by decide) e, fun e => blk_apart h2 HCC.out (by decide) e, fun e => blk_apart h3 HCA6.out (by decide) e, fun e => blk_apart h3 HCB6.out (by decide) e, fun e => blk_apart h3 HCC.out (by decide) e⟩
     clear hb46 hb36 s4 s5 s6 ha hb hc h3 hrs hg HMA HCA HBA HMB HCB HBB HBC HR3 HR2 HR1 HB3 HB2 HB1 HBG1 HBX HBX2 HOF HNW HGA
     go_upto_region 5 with (first
        | (refine wpList_loadShape (by rfl) _ rfl w.heap.size rfl _ _ _ _ HR6.out ?_)
        | (go_at_call 9; refine HOF6.out.mono ?_; rintro e w7 ⟨gow, gs, go, gt, gp, b1, A', c', gf, rfl, hof, hcore, hb7⟩; have HA := zh hof; have HCR := zh hcore; have HB67 := zh hb7; clear hof hcore hb7))
     have HO8 : Hid (RowAt (w7.alloc (.cells #[.func (.func 19) #[] #[.pointer (some ⟨gow, 0, none⟩)], .func (.func 21) #[] #[], .func (.func 43) #[] #[.pointer (some ⟨go, 0, none⟩), .pointer (some ⟨gp, 0, none⟩), .pointer (some ⟨gt, 0, none⟩), .pointer (some ⟨gs, 0, none⟩)]] 33)) w7.heap.size 33 #[.func (.func 19) #[] #[.pointer (some ⟨gow, 0, none⟩)], .func (.func 21) #[] #[], .func (.func 43) #[] #[.pointer (some ⟨go, 0, none⟩), .pointer (some ⟨gp, 0, none⟩), .pointer (some ⟨gt, 0, none⟩), .pointer (some ⟨gs, 0, none⟩)]]) := zh (RowAt.new _ _ _)
     have HB78 : Hid (Below w7.heap.size w7 (w7.alloc (.cells #[.func (.func 19) #[] #[.pointer (some ⟨gow, 0, none⟩)], .func (.func 21) #[] #[], .func (.func 43) #[] #[.pointer (some ⟨go, 0, none⟩), .pointer (some ⟨gp, 0, none⟩), .pointer (some ⟨gt, 0, none⟩), .pointer (some ⟨gs, 0, none⟩)]] 33))) := zh ((zB _ _).alloc (zL _) _)
     generalize (w7.alloc (.cells #[.func (.func 19) #[] #[.pointer (some ⟨gow, 0, none⟩)], .func (.func 21) #[] #[], .func (.func 43) #[] #[.pointer (some ⟨go, 0, none⟩), .pointer (some ⟨gp, 0, none⟩), .pointer (some ⟨gt, 0, none⟩), .pointer (some ⟨gs, 0, none⟩)]] 33)) = w8 at *
     generalize w7.heap.size = g8 at HO8 ⊢
     have s67 := HB67.out.size
     have s78 := HB78.out.size
     have hb68 : Below w6.heap.size w6 w8 := HB67.out.trans (HB78.out.mono s67)
     have HB68 := zh hb68
     have hWA : ∀ W F G H a b c, Below w8.heap.size w8 W → Calls Tryz.prog 14 #[.pointer (some ⟨gma, 0, none⟩), .agg #[.func (.func F) #[] a, .func (.func G) #[] b, .func (.func H) #[] c]] W _ := fun W F G H a b c h => wrap_any gma ga F G H a b c W (RowAt.below HMA6.out (hb68.trans (h.mono hb68.size)) (RowAt.lt HMA6.out))
     have hWB : ∀ W F G H a b c, Below w8.heap.size w8 W → Calls Tryz.prog 14 #[.pointer (some ⟨gmb, 0, none⟩), .agg #[.func (.func F) #[] a, .func (.func G) #[] b, .func (.func H) #[] c]] W _ := fun W F G H a b c h => wrap_any gmb gb F G H a b c W (RowAt.below HMB6.out (hb68.trans (h.mono hb68.size)) (RowAt.lt HMB6.out))
     have hWC : ∀ W F G H a b c, Below w8.heap.size w8 W → Calls Tryz.prog 14 #[.pointer (some ⟨gmc, 0, none⟩), .agg #[.func (.func F) #[] a, .func (.func G) #[] b, .func (.func H) #[] c]] W _ := fun W F G H a b c h => wrap_any gmc gc F G H a b c W (RowAt.below HMC.out (hb68.trans (h.mono hb68.size)) (RowAt.lt HMC.out))
     have HWa := zh hWA
     have HWb := zh hWB
     have HWc := zh hWC
     have PO : Hid (∀ W, Below w8.heap.size w8 W → RowAt W g8 33 #[.func (.func 19) #[] #[.pointer (some ⟨gow, 0, none⟩)], .func (.func 21) #[] #[], .func (.func 43) #[] #[.pointer (some ⟨go, 0, none⟩), .pointer (some ⟨gp, 0, none⟩), .pointer (some ⟨gt, 0, none⟩), .pointer (some ⟨gs, 0, none⟩)]]) := zh fun W h => HO8.out.below h HO8.out.lt
     clear hWA hWB hWC hb68 s67 s78
     go_cut [9, 10] from 27 to 36 (fun pv qv wx => ∃ g9 g10 qp3 qo3 qp4 qo4 qp8 qo8 qp9 qo9 : Nat, pv = .pointer (some ⟨g9, 0, none⟩) ∧ qv = .pointer (some ⟨g10, 0, none⟩) ∧ Hid (w8.heap.size ≤ g9 ∧ w8.heap.size ≤ g10) ∧ Hid (RowAt wx g9 33 #[.func (.func 28) #[] #[.pointer (some ⟨qp4, 0, none⟩), .pointer (some ⟨qo4, 0, none⟩)], .func (.func 30) #[] #[.pointer (some ⟨qp4, 0, none⟩), .pointer (some ⟨qo4, 0, none⟩)], .func (.func 31) #[] #[.pointer (some ⟨qp4, 0, none⟩), .pointer (some ⟨qo4, 0, none⟩)]]) ∧ Hid (RowAt wx g10 33 #[.func (.func 28) #[] #[.pointer (some ⟨qp9, 0, none⟩), .pointer (some ⟨qo9, 0, none⟩)], .func (.func 30) #[] #[.pointer (some ⟨qp9, 0, none⟩), .pointer (some ⟨qo9, 0, none⟩)], .func (.func 31) #[] #[.pointer (some ⟨qp9, 0, none⟩), .pointer (some ⟨qo9, 0, none⟩)]]) ∧ Hid (Wrp wx w8.heap.size qp3 qo3 gb 19 21 43 #[.pointer (some ⟨gow, 0, none⟩)] #[] #[.pointer (some ⟨go, 0, none⟩), .pointer (some ⟨gp, 0, none⟩), .pointer (some ⟨gt, 0, none⟩), .pointer (some ⟨gs, 0, none⟩)]) ∧ Hid (Wrp wx w8.heap.size qp4 qo4 ga 28 30 31 #[.pointer (some ⟨qp3, 0, none⟩), .pointer (some ⟨qo3, 0, none⟩)] #[.pointer (some ⟨qp3, 0, none⟩), .pointer (some ⟨qo3, 0, none⟩)] #[.pointer (some ⟨qp3, 0, none⟩), .pointer (some ⟨qo3, 0, none⟩)]) ∧ Hid (Wrp wx w8.heap.size qp8 qo8 gc 19 21 43 #[.pointer (some ⟨gow, 0, none⟩)] #[] #[.pointer (some ⟨go, 0, none⟩), .pointer (some ⟨gp, 0, none⟩), .pointer (some ⟨gt, 0, none⟩), .pointer (some ⟨gs, 0, none⟩)]) ∧ Hid (Wrp wx w8.heap.size qp9 qo9 gc 28 30 31 #[.pointer (some ⟨qp8, 0, none⟩), .pointer (some ⟨qo8, 0, none⟩)] #[.pointer (some ⟨qp8, 0, none⟩), .pointer (some ⟨qo8, 0, none⟩)] #[.pointer (some ⟨qp8, 0, none⟩), .pointer (some ⟨qo8, 0, none⟩)]) ∧ Hid (Below w8.heap.size w8 wx))
     case first =>
        have pO := PO.out
        have HS0 : Hid (Below w8.heap.size w8 w8.drew) := zh (zB _ _).drew
        refine wp_region_ou (fun w' => Below w8.heap.size w8 w') ((.take 0 (.take 1 (.take 2 (.take 5 (.take 6 (.take 7 (.three 3 (.three 4 (.three 8 (.three 9 (.two 10 (.solo 11 (.solo 12 (.solo 13 .nil))) 11 (.solo 10 (.solo 12 (.solo 13 .nil)))) 10 (.two 9 (.solo 11 (.solo 12 (.solo 13 .nil))) 11 (.solo 9 (.solo 12 (.solo 13 .nil)))) 11 (.two 9 (.solo 10 (.solo 12 (.solo 13 .nil))) 10 (.solo 9 (.solo 12 (.solo 13 .nil))))) 10 (.two 8 (.two 9 (.solo 11 (.solo 12 (.solo 13 .nil))) 11 (.solo 9 (.solo 12 (.solo 13 .nil)))) 11 (.solo 8 (.solo 9 (.solo 12 (.solo 13 .nil))))) 11 (.two 8 (.two 9 (.solo 10 (.solo 12 (.solo 13 .nil))) 10 (.solo 9 (.solo 12 (.solo 13 .nil)))) 10 (.solo 8 (.solo 9 (.solo 12 (.solo 13 .nil)))))) 10 (.two 4 (.two 8 (.two 9 (.solo 11 (.solo 12 (.solo 13 .nil))) 11 (.solo 9 (.solo 12 (.solo 13 .nil)))) 11 (.solo 8 (.solo 9 (.solo 12 (.solo 13 .nil))))) 11 (.solo 4 (.solo 8 (.solo 9 (.solo 12 (.solo 13 .nil)))))) 11 (.two 4 (.two 8 (.two 9 (.solo 10 (.solo 12 (.solo 13 .nil))) 10 (.solo 9 (.solo 12 (.solo 13 .nil)))) 10 (.solo 8 (.solo 9 (.solo 12 (.solo 13 .nil))))) 10 (.solo 4 (.solo 8 (.solo 9 (.solo 12 (.solo 13 .nil))))))) 10 (.two 3 (.two 4 (.two 8 (.two 9 (.solo 11 (.solo 12 (.solo 13 .nil))) 11 (.solo 9 (.solo 12 (.solo 13 .nil)))) 11 (.solo 8 (.solo 9 (.solo 12 (.solo 13 .nil))))) 11 (.solo 4 (.solo 8 (.solo 9 (.solo 12 (.solo 13 .nil)))))) 11 (.solo 3 (.solo 4 (.solo 8 (.solo 9 (.solo 12 (.solo 13 .nil))))))) 11 (.two 3 (.two 4 (.two 8 (.two 9 (.solo 10 (.solo 12 (.solo 13 .nil))) 10 (.solo 9 (.solo 12 (.solo 13 .nil)))) 10 (.solo 8 (.solo 9 (.solo 12 (.solo 13 .nil))))) 10 (.solo 4 (.solo 8 (.solo 9 (.solo 12 (.solo 13 .nil)))))) 10 (.solo 3 (.solo 4 (.solo 8 (.solo 9 (.solo 12 (.solo 13 .nil))))))))))))))) (by kernel_rfl) (by kernel_rfl) rfl (by kernel_rfl) HS0.out ?_
        generalize w8.drew = v0 at HS0 ⊢
        have HSv0 := HS0
        clear HB6 HB67 HB78 HB68 HMA6 HMB6 HMC HCA6 HCB6 HCC HR6 HOF6 HA HCR HO8 HORD HMN HXB HAL HH
        iterate 6
         (refine wpOU_step (zO rfl) ?_)
         (first
          | (refine wpOU_skip (by rfl) ?_)
          | (refine wpOU_take (by rfl) (take_row _ _ rfl g8 rfl _ _ _ pO Tryz.underlying33 rfl (by kernel_rfl)) ?_)
          | (refine wpOU_take (v := ?_) (by rfl) ?_ ?_; rotate_left 1; (intro wx hSx; go_simp; try with_reducible rfl)))
         (try simp only [Act.put, zA4, zA5, zA6])
        refine wpOU_three ?_ ?_ ?_
        ·(refine wpOU_solo (zO rfl) ?_)
         intro K hK
         go_simp
         refine (HWb.out v0 _ _ _ _ _ _ HSv0.out).mono ?_
         rintro e v1 ⟨qo3, qp3, rfl, ho, hp, h1, h2, hb⟩
         have HSv1 := zh (HSv0.out.trans (hb.mono HSv0.out.size))
         have HW3v1 : Hid (Wrp v1 w8.heap.size qp3 qo3 gb 19 21 43 #[.pointer (some ⟨gow, 0, none⟩)] #[] #[.pointer (some ⟨go, 0, none⟩), .pointer (some ⟨gp, 0, none⟩), .pointer (some ⟨gt, 0, none⟩), .pointer (some ⟨gs, 0, none⟩)]) := zh ⟨hp, ho, zM HSv0.out.size h2, zM HSv0.out.size h1⟩
         clear ho hp h1 h2 hb
         refine hK.out _ _ HSv1.out ?_
         clear hK K
         (try simp only [Act.put, zA4, zA5, zA6])
         refine wpOU_three ?_ ?_ ?_
         ·(refine wpOU_solo (zO rfl) ?_)
          intro K hK
          go_simp
          refine (HWa.out v1 _ _ _ _ _ _ HSv1.out).mono ?_
          rintro e v2 ⟨qo4, qp4, rfl, ho, hp, h1, h2, hb⟩
          have HSv2 := zh (HSv1.out.trans (hb.mono HSv1.out.size))
          have HW3v2 := zh (HW3v1.out.below hb)
          have HW4v2 : Hid (Wrp v2 w8.heap.size qp4 qo4 ga 28 30 31 #[.pointer (some ⟨qp3, 0, none⟩), .pointer (some ⟨qo3, 0, none⟩)] #[.pointer (some ⟨qp3, 0, none⟩), .pointer (some ⟨qo3, 0, none⟩)] #[.pointer (some ⟨qp3, 0, none⟩), .pointer (some ⟨qo3, 0, none⟩)]) := zh ⟨hp, ho, zM HSv1.out.size h2, zM HSv1.out.size h1⟩
          clear ho hp h1 h2 hb
          refine hK.out _ _ HSv2.out ?_
          clear hK K
          (try simp only [Act.put, zA4, zA5, zA6])
          refine wpOU_three ?_ ?_ ?_
          ·(refine wpOU_solo (zO rfl) ?_)
           intro K hK
           go_simp
           refine (HWc.out v2 _ _ _ _ _ _ HSv2.out).mono ?_
           rintro e v3 ⟨qo8, qp8, rfl, ho, hp, h1, h2, hb⟩
           have HSv3 := zh (HSv2.out.trans (hb.mono HSv2.out.size))
           have HW3v3 := zh (HW3v2.out.below hb)
           have HW4v3 := zh (HW4v2.out.below hb)
           have HW8v3 : Hid (Wrp v3 w8.heap.size qp8 qo8 gc 19 21 43 #[.pointer (some ⟨gow, 0, none⟩)] #[] #[.pointer (some ⟨go, 0, none⟩), .pointer (some ⟨gp, 0, none⟩), .pointer (some ⟨gt, 0, none⟩), .pointer (some ⟨gs, 0, none⟩)]) := zh ⟨hp, ho, zM HSv2.out.size h2, zM HSv2.out.size h1⟩
           clear ho hp h1 h2 hb
           refine hK.out _ _ HSv3.out ?_
           clear hK K
           (try simp only [Act.put, zA4, zA5, zA6])
           refine wpOU_three ?_ ?_ ?_
           ·(refine wpOU_solo (zO rfl) ?_)
            intro K hK
            go_simp
            refine (HWc.out v3 _ _ _ _ _ _ HSv3.out).mono ?_
            rintro e v4 ⟨qo9, qp9, rfl, ho, hp, h1, h2, hb⟩
            have HSv4 := zh (HSv3.out.trans (hb.mono HSv3.out.size))
            have HW3v4 := zh (HW3v3.out.below hb)
            have HW4v4 := zh (HW4v3.out.below hb)
            have HW8v4 := zh (HW8v3.out.below hb)
            have HW9v4 : Hid (Wrp v4 w8.heap.size qp9 qo9 gc 28 30 31 #[.pointer (some ⟨qp8, 0, none⟩), .pointer (some ⟨qo8, 0, none⟩)] #[.pointer (some ⟨qp8, 0, none⟩), .pointer (some ⟨qo8, 0, none⟩)] #[.pointer (some ⟨qp8, 0, none⟩), .pointer (some ⟨qo8, 0, none⟩)]) := zh ⟨hp, ho, zM HSv3.out.size h2, zM HSv3.out.size h1⟩
            clear ho hp h1 h2 hb
            refine hK.out _ _ HSv4.out ?_
            clear hK K
            (try simp only [Act.put, zA4, zA5, zA6])
            refine wpOU_two ?_ ?_
            ·(refine wpOU_solo (zO rfl) ?_)
             intro K hK
             go_simp
             have hb : Below v4.heap.size v4 (v4.alloc (.cells #[.nilFunc, .nilFunc, .nilFunc] 33)) := (zB _ _).alloc (zL _) _
             have HSv5 := zh (HSv4.out.trans (hb.mono HSv4.out.size))
             have HW3v5 := zh (HW3v4.out.below hb)
             have HW4v5 := zh (HW4v4.out.below hb)
             have HW8v5 := zh (HW8v4.out.below hb)
             have HW9v5 := zh (HW9v4.out.below hb)
             have HRg9v5 : Hid (RowAt (v4.alloc (.cells #[.nilFunc, .nilFunc, .nilFunc] 33)) v4.heap.size 33 #[.nilFunc, .nilFunc, .nilFunc]) := zh (RowAt.new _ _ _)
             have HGg9 : Hid (w8.heap.size ≤ v4.heap.size) := zh HSv4.out.size
             have HN3xg9 := zh HW3v4.out.ne_new
             have HN4xg9 := zh HW4v4.out.ne_new
             have HN8xg9 := zh HW8v4.out.ne_new
             have HN9xg9 := zh HW9v4.out.ne_new
             clear hb
             refine hK.out _ _ HSv5.out ?_
             clear hK K
             (try simp only [Act.put, zA4, zA5, zA6])
             generalize v4.heap.size = g9 at *
             generalize (v4.alloc (.cells #[.nilFunc, .nilFunc, .nilFunc] 33)) = v5 at *
             (refine wpOU_solo (zO rfl) ?_)
             intro K hK
             go_simp
             have hb : Below v5.heap.size v5 (v5.alloc (.cells #[.nilFunc, .nilFunc, .nilFunc] 33)) := (zB _ _).alloc (zL _) _
             have HSv6 := zh (HSv5.out.trans (hb.mono HSv5.out.size))
             have HW3v6 := zh (HW3v5.out.below hb)
             have HW4v6 := zh (HW4v5.out.below hb)
             have HW8v6 := zh (HW8v5.out.below hb)
             have HW9v6 := zh (HW9v5.out.below hb)
             have HRg9v6 := zh (HRg9v5.out.below hb HRg9v5.out.lt)
             have HRg10v6 : Hid (RowAt (v5.alloc (.cells #[.nilFunc, .nilFunc, .nilFunc] 33)) v5.heap.size 33 #[.nilFunc, .nilFunc, .nilFunc]) := zh (RowAt.new _ _ _)
             have HGg10 : Hid (w8.heap.size ≤ v5.heap.size) := zh HSv5.out.size
             have HN3xg10 := zh HW3v5.out.ne_new
             have HN4xg10 := zh HW4v5.out.ne_new
             have HN8xg10 := zh HW8v5.out.ne_new
             have HN9xg10 := zh HW9v5.out.ne_new
             have HDg9xg10 : Hid (g9 ≠ v5.heap.size) := zh (Nat.ne_of_lt HRg9v5.out.lt)
             have HDg10xg9 : Hid (v5.heap.size ≠ g9) := zh fun e => HDg9xg10.out e.symm
             clear hb
             refine hK.out _ _ HSv6.out ?_
             clear hK K
             (try simp only [Act.put, zA4, zA5, zA6])
             generalize v5.heap.size = g10 at *
             generalize (v5.alloc (.cells #[.nilFunc, .nilFunc, .nilFunc] 33)) = v6 at *
             (refine wpOU_solo (zO rfl) ?_)
             intro K hK
             rw [if_pos (by rfl)]
             refine wp_store_row _ _ _ rfl g9 #[.func (.func 28) #[] #[.pointer (some ⟨qp4, 0, none⟩), .pointer (some ⟨qo4, 0, none⟩)], .func (.func 30) #[] #[.pointer (some ⟨qp4, 0, none⟩), .pointer (some ⟨qo4, 0, none⟩)], .func (.func 31) #[] #[.pointer (some ⟨qp4, 0, none⟩), .pointer (some ⟨qo4, 0, none⟩)]] rfl rfl _ _ HRg9v6.out (by kernel_rfl) rfl (ops_one _ _ _ _ _ _) ?_
             have hm : Mut g9 v6 (v6.setRow g9 #[.func (.func 28) #[] #[.pointer (some ⟨qp4, 0, none⟩), .pointer (some ⟨qo4, 0, none⟩)], .func (.func 30) #[] #[.pointer (some ⟨qp4, 0, none⟩), .pointer (some ⟨qo4, 0, none⟩)], .func (.func 31) #[] #[.pointer (some ⟨qp4, 0, none⟩), .pointer (some ⟨qo4, 0, none⟩)]]) := Mut.of_else (Else.setRow v6 g9 _)
             have HSv7 := zh (HSv6.out.trans (hm.below HGg9.out HSv6.out.size))
             have HW3v7 := zh (HW3v6.out.mut hm HN3xg9.out)
             have HW4v7 := zh (HW4v6.out.mut hm HN4xg9.out)
             have HW8v7 := zh (HW8v6.out.mut hm HN8xg9.out)
             have HW9v7 := zh (HW9v6.out.mut hm HN9xg9.out)
             have HRg10v7 := zh (HRg10v6.out.mut hm HDg10xg9.out)
             have HRg9v7 := zh (HRg9v6.out.setRow #[.func (.func 28) #[] #[.pointer (some ⟨qp4, 0, none⟩), .pointer (some ⟨qo4, 0, none⟩)], .func (.func 30) #[] #[.pointer (some ⟨qp4, 0, none⟩), .pointer (some ⟨qo4, 0, none⟩)], .func (.func 31) #[] #[.pointer (some ⟨qp4, 0, none⟩), .pointer (some ⟨qo4, 0, none⟩)]])
             clear hm
             refine hK.out _ _ HSv7.out ?_
             clear hK K
             (try simp only [Act.put, zA4, zA5, zA6])
             generalize v6.setRow g9 #[.func (.func 28) #[] #[.pointer (some ⟨qp4, 0, none⟩), .pointer (some ⟨qo4, 0, none⟩)], .func (.func 30) #[] #[.pointer (some ⟨qp4, 0, none⟩), .pointer (some ⟨qo4, 0, none⟩)], .func (.func 31) #[] #[.pointer (some ⟨qp4, 0, none⟩), .pointer (some ⟨qo4, 0, none⟩)]] = v7 at *
             (refine wpOU_solo (zO rfl) ?_)
             intro K hK
             rw [if_pos (by rfl)]
             refine wp_store_row _ _ _ rfl g10 #[.func (.func 28) #[] #[.pointer (some ⟨qp9, 0, none⟩), .pointer (some ⟨qo9, 0, none⟩)], .func (.func 30) #[] #[.pointer (some ⟨qp9, 0, none⟩), .pointer (some ⟨qo9, 0, none⟩)], .func (.func 31) #[] #[.pointer (some ⟨qp9, 0, none⟩), .pointer (some ⟨qo9, 0, none⟩)]] rfl rfl _ _ HRg10v7.out (by kernel_rfl) rfl (ops_one _ _ _ _ _ _) ?_
             have hm : Mut g10 v7 (v7.setRow g10 #[.func (.func 28) #[] #[.pointer (some ⟨qp9, 0, none⟩), .pointer (some ⟨qo9, 0, none⟩)], .func (.func 30) #[] #[.pointer (some ⟨qp9, 0, none⟩), .pointer (some ⟨qo9, 0, none⟩)], .func (.func 31) #[] #[.pointer (some ⟨qp9, 0, none⟩), .pointer (some ⟨qo9, 0, none⟩)]]) := Mut.of_else (Else.setRow v7 g10 _)
             have HSv8 := zh (HSv7.out.trans (hm.below HGg10.out HSv7.out.size))
             have HW3v8 := zh (HW3v7.out.mut hm HN3xg10.out)
             have HW4v8 := zh (HW4v7.out.mut hm HN4xg10.out)
             have HW8v8 := zh (HW8v7.out.mut hm HN8xg10.out)
             have HW9v8 := zh (HW9v7.out.mut hm HN9xg10.out)
             have HRg9v8 := zh (HRg9v7.out.mut hm HDg9xg10.out)
             have HRg10v8 := zh (HRg10v7.out.setRow #[.func (.func 28) #[] #[.pointer (some ⟨qp9, 0, none⟩), .pointer (some ⟨qo9, 0, none⟩)], .func (.func 30) #[] #[.pointer (some ⟨qp9, 0, none⟩), .pointer (some ⟨qo9, 0, none⟩)], .func (.func 31) #[] #[.pointer (some ⟨qp9, 0, none⟩), .pointer (some ⟨qo9, 0, none⟩)]])
             clear hm
             refine hK.out _ _ HSv8.out ?_
             clear hK K
             (try simp only [Act.put, zA4, zA5, zA6])
             generalize v7.setRow g10 #[.func (.func 28) #[] #[.pointer (some ⟨qp9, 0, none⟩), .pointer (some ⟨qo9, 0, none⟩)], .func (.func 30) #[] #[.pointer (some ⟨qp9, 0, none⟩), .pointer (some ⟨qo9, 0, none⟩)], .func (.func 31) #[] #[.pointer (some ⟨qp9, 0, none⟩), .pointer (some ⟨qo9, 0, none⟩)]] = v8 at *
             refine wpOU_done ?_
             go_wp2
             go_meet
             case rel => exact ⟨g9, g10, qp3, qo3, qp4, qo4, qp8, qo8, qp9, qo9, rfl, rfl, zh ⟨HGg9.out, HGg10.out⟩, HRg9v8.out, HRg10v8.out, HW3v8.out, HW4v8.out, HW8v8.out, HW9v8.out, HSv8.out⟩
            ·(refine wpOU_solo (zO rfl) ?_)
             intro K hK
             go_simp
             have hb : Below v4.heap.size v4 (v4.alloc (.cells #[.nilFunc, .nilFunc, .nilFunc] 33)) := (zB _ _).alloc (zL _) _
             have HSv5 := zh (HSv4.out.trans (hb.mono HSv4.out.size))
             have HW3v5 := zh (HW3v4.out.below hb)
             have HW4v5 := zh (HW4v4.out.below hb)
             have HW8v5 := zh (HW8v4.out.below hb)
             have HW9v5 := zh (HW9v4.out.below hb)
             have HRg10v5 : Hid (RowAt (v4.alloc (.cells #[.nilFunc, .nilFunc, .nilFunc] 33)) v4.heap.size 33 #[.nilFunc, .nilFunc, .nilFunc]) := zh (RowAt.new _ _ _)
             have HGg10 : Hid (w8.heap.size ≤ v4.heap.size) := zh HSv4.out.size
             have HN3xg10 := zh HW3v4.out.ne_new
             have HN4xg10 := zh HW4v4.out.ne_new
             have HN8xg10 := zh HW8v4.out.ne_new
             have HN9xg10 := zh HW9v4.out.ne_new
             clear hb
             refine hK.out _ _ HSv5.out ?_
             clear hK K
             (try simp only [Act.put, zA4, zA5, zA6])
             generalize v4.heap.size = g10 at *
             generalize (v4.alloc (.cells #[.nilFunc, .nilFunc, .nilFunc] 33)) = v5 at *
             (refine wpOU_solo (zO rfl) ?_)
             intro K hK
             go_simp
             have hb : Below v5.heap.size v5 (v5.alloc (.cells #[.nilFunc, .nilFunc, .nilFunc] 33)) := (zB _ _).alloc (zL _) _
             have HSv6 := zh (HSv5.out.trans (hb.mono HSv5.out.size))
             have HW3v6 := zh (HW3v5.out.below hb)
             have HW4v6 := zh (HW4v5.out.below hb)
             have HW8v6 := zh (HW8v5.out.below hb)
             have HW9v6 := zh (HW9v5.out.below hb)
             have HRg10v6 := zh (HRg10v5.out.below hb HRg10v5.out.lt)
             have HRg9v6 : Hid (RowAt (v5.alloc (.cells #[.nilFunc, .nilFunc, .nilFunc] 33)) v5.heap.size 33 #[.nilFunc, .nilFunc, .nilFunc]) := zh (RowAt.new _ _ _)
             have HGg9 : Hid (w8.heap.size ≤ v5.heap.size) := zh HSv5.out.size
             have HN3xg9 := zh HW3v5.out.ne_new
             have HN4xg9 := zh HW4v5.out.ne_new
             have HN8xg9 := zh HW8v5.out.ne_new
             have HN9xg9 := zh HW9v5.out.ne_new
             have HDg10xg9 : Hid (g10 ≠ v5.heap.size) := zh (Nat.ne_of_lt HRg10v5.out.lt)
             have HDg9xg10 : Hid (v5.heap.size ≠ g10) := zh fun e => HDg10xg9.out e.symm
             clear hb
             refine hK.out _ _ HSv6.out ?_
             clear hK K
             (try simp only [Act.put, zA4, zA5, zA6])
             generalize v5.heap.size = g9 at *
             generalize (v5.alloc (.cells #[.nilFunc, .nilFunc, .nilFunc] 33)) = v6 at *
             (refine wpOU_solo (zO rfl) ?_)
             intro K hK
             rw [if_pos (by rfl)]
             refine wp_store_row _ _ _ rfl g9 #[.func (.func 28) #[] #[.pointer (some ⟨qp4, 0, none⟩), .pointer (some ⟨qo4, 0, none⟩)], .func (.func 30) #[] #[.pointer (some ⟨qp4, 0, none⟩), .pointer (some ⟨qo4, 0, none⟩)], .func (.func 31) #[] #[.pointer (some ⟨qp4, 0, none⟩), .pointer (some ⟨qo4, 0, none⟩)]] rfl rfl _ _ HRg9v6.out (by kernel_rfl) rfl (ops_one _ _ _ _ _ _) ?_
             have hm : Mut g9 v6 (v6.setRow g9 #[.func (.func 28) #[] #[.pointer (some ⟨qp4, 0, none⟩), .pointer (some ⟨qo4, 0, none⟩)], .func (.func 30) #[] #[.pointer (some ⟨qp4, 0, none⟩), .pointer (some ⟨qo4, 0, none⟩)], .func (.func 31) #[] #[.pointer (some ⟨qp4, 0, none⟩), .pointer (some ⟨qo4, 0, none⟩)]]) := Mut.of_else (Else.setRow v6 g9 _)
             have HSv7 := zh (HSv6.out.trans (hm.below HGg9.out HSv6.out.size))
             have HW3v7 := zh (HW3v6.out.mut hm HN3xg9.out)
             have HW4v7 := zh (HW4v6.out.mut hm HN4xg9.out)
             have HW8v7 := zh (HW8v6.out.mut hm HN8xg9.out)
             have HW9v7 := zh (HW9v6.out.mut hm HN9xg9.out)
             have HRg10v7 := zh (HRg10v6.out.mut hm HDg10xg9.out)
             have HRg9v7 := zh (HRg9v6.out.setRow #[.func (.func 28) #[] #[.pointer (some ⟨qp4, 0, none⟩), .pointer (some ⟨qo4, 0, none⟩)], .func (.func 30) #[] #[.pointer (some ⟨qp4, 0, none⟩), .pointer (some ⟨qo4, 0, none⟩)], .func (.func 31) #[] #[.pointer (some ⟨qp4, 0, none⟩), .pointer (some ⟨qo4, 0, none⟩)]])
             clear hm
             refine hK.out _ _ HSv7.out ?_
             clear hK K
             (try simp only [Act.put, zA4, zA5, zA6])
             generalize v6.setRow g9 #[.func (.func 28) #[] #[.pointer (some ⟨qp4, 0, none⟩), .pointer (some ⟨qo4, 0, none⟩)], .func (.func 30) #[] #[.pointer (some ⟨qp4, 0, none⟩), .pointer (some ⟨qo4, 0, none⟩)], .func (.func 31) #[] #[.pointer (some ⟨qp4, 0, none⟩), .pointer (some ⟨qo4, 0, none⟩)]] = v7 at *
             (refine wpOU_solo (zO rfl) ?_)
             intro K hK
             rw [if_pos (by rfl)]
             refine wp_store_row _ _ _ rfl g10 #[.func (.func 28) #[] #[.pointer (some ⟨qp9, 0, none⟩), .pointer (some ⟨qo9, 0, none⟩)], .func (.func 30) #[] #[.pointer (some ⟨qp9, 0, none⟩), .pointer (some ⟨qo9, 0, none⟩)], .func (.func 31) #[] #[.pointer (some ⟨qp9, 0, none⟩), .pointer (some ⟨qo9, 0, none⟩)]] rfl rfl _ _ HRg10v7.out (by kernel_rfl) rfl (ops_one _ _ _ _ _ _) ?_
             have hm : Mut g10 v7 (v7.setRow g10 #[.func (.func 28) #[] #[.pointer (some ⟨qp9, 0, none⟩), .pointer (some ⟨qo9, 0, none⟩)], .func (.func 30) #[] #[.pointer (some ⟨qp9, 0, none⟩), .pointer (some ⟨qo9, 0, none⟩)], .func (.func 31) #[] #[.pointer (some ⟨qp9, 0, none⟩), .pointer (some ⟨qo9, 0, none⟩)]]) := Mut.of_else (Else.setRow v7 g10 _)
             have HSv8 := zh (HSv7.out.trans (hm.below HGg10.out HSv7.out.size))
             have HW3v8 := zh (HW3v7.out.mut hm HN3xg10.out)
             have HW4v8 := zh (HW4v7.out.mut hm HN4xg10.out)
             have HW8v8 := zh (HW8v7.out.mut hm HN8xg10.out)
             have HW9v8 := zh (HW9v7.out.mut hm HN9xg10.out)
             have HRg9v8 := zh (HRg9v7.out.mut hm HDg9xg10.out)
             have HRg10v8 := zh (HRg10v7.out.setRow #[.func (.func 28) #[] #[.pointer (some ⟨qp9, 0, none⟩), .pointer (some ⟨qo9, 0, none⟩)], .func (.func 30) #[] #[.pointer (some ⟨qp9, 0, none⟩), .pointer (some ⟨qo9, 0, none⟩)], .func (.func 31) #[] #[.pointer (some ⟨qp9, 0, none⟩), .pointer (some ⟨qo9, 0, none⟩)]])
             clear hm
             refine hK.out _ _ HSv8.out ?_
             clear hK K
             (try simp only [Act.put, zA4, zA5, zA6])
             generalize v7.setRow g10 #[.func (.func 28) #[] #[.pointer (some ⟨qp9, 0, none⟩), .pointer (some ⟨qo9, 0, none⟩)], .func (.func 30) #[] #[.pointer (some ⟨qp9, 0, none⟩), .pointer (some ⟨qo9, 0, none⟩)], .func (.func 31) #[] #[.pointer (some ⟨qp9, 0, none⟩), .pointer (some ⟨qo9, 0, none⟩)]] = v8 at *
             refine wpOU_done ?_
             go_wp2
             go_meet
             case rel => exact ⟨g9, g10, qp3, qo3, qp4, qo4, qp8, qo8, qp9, qo9, rfl, rfl, zh ⟨HGg9.out, HGg10.out⟩, HRg9v8.out, HRg10v8.out, HW3v8.out, HW4v8.out, HW8v8.out, HW9v8.out, HSv8.out⟩
           ·(refine wpOU_solo (zO rfl) ?_)
            intro K hK
            go_simp
            have hb : Below v3.heap.size v3 (v3.alloc (.cells #[.nilFunc, .nilFunc, .nilFunc] 33)) := (zB _ _).alloc (zL _) _
            have HSv4 := zh (HSv3.out.trans (hb.mono HSv3.out.size))
            have HW3v4 := zh (HW3v3.out.below hb)
            have HW4v4 := zh (HW4v3.out.below hb)
            have HW8v4 := zh (HW8v3.out.below hb)
            have HRg9v4 : Hid (RowAt (v3.alloc (.cells #[.nilFunc, .nilFunc, .nilFunc] 33)) v3.heap.size 33 #[.nilFunc, .nilFunc, .nilFunc]) := zh (RowAt.new _ _ _)
            have HGg9 : Hid (w8.heap.size ≤ v3.heap.size) := zh HSv3.out.size
            have HN3xg9 := zh HW3v3.out.ne_new
            have HN4xg9 := zh HW4v3.out.ne_new
            have HN8xg9 := zh HW8v3.out.ne_new
            clear hb
            refine hK.out _ _ HSv4.out ?_
            clear hK K
            (try simp only [Act.put, zA4, zA5, zA6])
            generalize v3.heap.size = g9 at *
            generalize (v3.alloc (.cells #[.nilFunc, .nilFunc, .nilFunc] 33)) = v4 at *
            refine wpOU_two ?_ ?_
            ·(refine wpOU_solo (zO rfl) ?_)
             intro K hK
             go_simp
             refine (HWc.out v4 _ _ _ _ _ _ HSv4.out).mono ?_
             rintro e v5 ⟨qo9, qp9, rfl, ho, hp, h1, h2, hb⟩
             have HSv5 := zh (HSv4.out.trans (hb.mono HSv4.out.size))
             have HW3v5 := zh (HW3v4.out.below hb)
             have HW4v5 := zh (HW4v4.out.below hb)
             have HW8v5 := zh (HW8v4.out.below hb)
             have HRg9v5 := zh (HRg9v4.out.below hb HRg9v4.out.lt)
             have HN9xg9 := zh (ne_old HRg9v4.out.lt h2 h1)
             have HW9v5 : Hid (Wrp v5 w8.heap.size qp9 qo9 gc 28 30 31 #[.pointer (some ⟨qp8, 0, none⟩), .pointer (some ⟨qo8, 0, none⟩)] #[.pointer (some ⟨qp8, 0, none⟩), .pointer (some ⟨qo8, 0, none⟩)] #[.pointer (some ⟨qp8, 0, none⟩), .pointer (some ⟨qo8, 0, none⟩)]) := zh ⟨hp, ho, zM HSv4.out.size h2, zM HSv4.out.size h1⟩
             clear ho hp h1 h2 hb
             refine hK.out _ _ HSv5.out ?_
             clear hK K
             (try simp only [Act.put, zA4, zA5, zA6])
             (refine wpOU_solo (zO rfl) ?_)
             intro K hK
             go_simp
             have hb : Below v5.heap.size v5 (v5.alloc (.cells #[.nilFunc, .nilFunc, .nilFunc] 33)) := (zB _ _).alloc (zL _) _
             have HSv6 := zh (HSv5.out.trans (hb.mono HSv5.out.size))
             have HW3v6 := zh (HW3v5.out.below hb)
             have HW4v6 := zh (HW4v5.out.below hb)
             have HW8v6 := zh (HW8v5.out.below hb)
             have HW9v6 := zh (HW9v5.out.below hb)
             have HRg9v6 := zh (HRg9v5.out.below hb HRg9v5.out.lt)
             have HRg10v6 : Hid (RowAt (v5.alloc (.cells #[.nilFunc, .nilFunc, .nilFunc] 33)) v5.heap.size 33 #[.nilFunc, .nilFunc, .nilFunc]) := zh (RowAt.new _ _ _)
             have HGg10 : Hid (w8.heap.size ≤ v5.heap.size) := zh HSv5.out.size
             have HN3xg10 := zh HW3v5.out.ne_new
             have HN4xg10 := zh HW4v5.out.ne_new
             have HN8xg10 := zh HW8v5.out.ne_new
             have HN9xg10 := zh HW9v5.out.ne_new
             have HDg9xg10 : Hid (g9 ≠ v5.heap.size) := zh (Nat.ne_of_lt HRg9v5.out.lt)
             have HDg10xg9 : Hid (v5.heap.size ≠ g9) := zh fun e => HDg9xg10.out e.symm
             clear hb
             refine hK.out _ _ HSv6.out ?_
             clear hK K
             (try simp only [Act.put, zA4, zA5, zA6])
             generalize v5.heap.size = g10 at *
             generalize (v5.alloc (.cells #[.nilFunc, .nilFunc, .nilFunc] 33)) = v6 at *
             (refine wpOU_solo (zO rfl) ?_)
             intro K hK
             rw [if_pos (by rfl)]
             refine wp_store_row _ _ _ rfl g9 #[.func (.func 28) #[] #[.pointer (some ⟨qp4, 0, none⟩), .pointer (some ⟨qo4, 0, none⟩)], .func (.func 30) #[] #[.pointer (some ⟨qp4, 0, none⟩), .pointer (some ⟨qo4, 0, none⟩)], .func (.func 31) #[] #[.pointer (some ⟨qp4, 0, none⟩), .pointer (some ⟨qo4, 0, none⟩)]] rfl rfl _ _ HRg9v6.out (by kernel_rfl) rfl (ops_one _ _ _ _ _ _) ?_
             have hm : Mut g9 v6 (v6.setRow g9 #[.func (.func 28) #[] #[.pointer (some ⟨qp4, 0, none⟩), .pointer (some ⟨qo4, 0, none⟩)], .func (.func 30) #[] #[.pointer (some ⟨qp4, 0, none⟩), .pointer (some ⟨qo4, 0, none⟩)], .func (.func 31) #[] #[.pointer (some ⟨qp4, 0, none⟩), .pointer (some ⟨qo4, 0, none⟩)]]) := Mut.of_else (Else.setRow v6 g9 _)
             have HSv7 := zh (HSv6.out.trans (hm.below HGg9.out HSv6.out.size))
             have HW3v7 := zh (HW3v6.out.mut hm HN3xg9.out)
             have HW4v7 := zh (HW4v6.out.mut hm HN4xg9.out)
             have HW8v7 := zh (HW8v6.out.mut hm HN8xg9.out)
             have HW9v7 := zh (HW9v6.out.mut hm HN9xg9.out)
             have HRg10v7 := zh (HRg10v6.out.mut hm HDg10xg9.out)
             have HRg9v7 := zh (HRg9v6.out.setRow #[.func (.func 28) #[] #[.pointer (some ⟨qp4, 0, none⟩), .pointer (some ⟨qo4, 0, none⟩)], .func (.func 30) #[] #[.pointer (some ⟨qp4, 0, none⟩), .pointer (some ⟨qo4, 0, none⟩)], .func (.func 31) #[] #[.pointer (some ⟨qp4, 0, none⟩), .pointer (some ⟨qo4, 0, none⟩)]])
             clear hm
             refine hK.out _ _ HSv7.out ?_
             clear hK K
             (try simp only [Act.put, zA4, zA5, zA6])
             generalize v6.setRow g9 #[.func (.func 28) #[] #[.pointer (some ⟨qp4, 0, none⟩), .pointer (some ⟨qo4, 0, none⟩)], .func (.func 30) #[] #[.pointer (some ⟨qp4, 0, none⟩), .pointer (some ⟨qo4, 0, none⟩)], .func (.func 31) #[] #[.pointer (some ⟨qp4, 0, none⟩), .pointer (some ⟨qo4, 0, none⟩)]] = v7 at *
             (refine wpOU_solo (zO rfl) ?_)
             intro K hK
             rw [if_pos (by rfl)]
             refine wp_store_row _ _ _ rfl g10 #[.func (.func 28) #[] #[.pointer (some ⟨qp9, 0, none⟩), .pointer (some ⟨qo9, 0, none⟩)], .func (.func 30) #[] #[.pointer (some ⟨qp9, 0, none⟩), .pointer (some ⟨qo9, 0, none⟩)], .func (.func 31) #[] #[.pointer (some ⟨qp9, 0, none⟩), .pointer (some ⟨qo9, 0, none⟩)]] rfl rfl _ _ HRg10v7.out (by kernel_rfl) rfl (ops_one _ _ _ _ _ _) ?_
             have hm : Mut g10 v7 (v7.setRow g10 #[.func (.func 28) #[] #[.pointer (some ⟨qp9, 0, none⟩), .pointer (some ⟨qo9, 0, none⟩)], .func (.func 30) #[] #[.pointer (some ⟨qp9, 0, none⟩), .pointer (some ⟨qo9, 0, none⟩)], .func (.func 31) #[] #[.pointer (some ⟨qp9, 0, none⟩), .pointer (some ⟨qo9, 0, none⟩)]]) := Mut.of_else (Else.setRow v7 g10 _)
             have HSv8 := zh (HSv7.out.trans (hm.below HGg10.out HSv7.out.size))
             have HW3v8 := zh (HW3v7.out.mut hm HN3xg10.out)
             have HW4v8 := zh (HW4v7.out.mut hm HN4xg10.out)
             have HW8v8 := zh (HW8v7.out.mut hm HN8xg10.out)
             have HW9v8 := zh (HW9v7.out.mut hm HN9xg10.out)
             have HRg9v8 := zh (HRg9v7.out.mut hm HDg9xg10.out)
             have HRg10v8 := zh (HRg10v7.out.setRow #[.func (.func 28) #[] #[.pointer (some ⟨qp9, 0, none⟩), .pointer (some ⟨qo9, 0, none⟩)], .func (.func 30) #[] #[.pointer (some ⟨qp9, 0, none⟩), .pointer (some ⟨qo9, 0, none⟩)], .func (.func 31) #[] #[.pointer (some ⟨qp9, 0, none⟩), .pointer (some ⟨qo9, 0, none⟩)]])
             clear hm
             refine hK.out _ _ HSv8.out ?_
             clear hK K
             (try simp only [Act.put, zA4, zA5, zA6])
             generalize v7.setRow g10 #[.func (.func 28) #[] #[.pointer (some ⟨qp9, 0, none⟩), .pointer (some ⟨qo9, 0, none⟩)], .func (.func 30) #[] #[.pointer (some ⟨qp9, 0, none⟩), .pointer (some ⟨qo9, 0, none⟩)], .func (.func 31) #[] #[.pointer (some ⟨qp9, 0, none⟩), .pointer (some ⟨qo9, 0, none⟩)]] = v8 at *
             refine wpOU_done ?_
             go_wp2
             go_meet
             case rel => exact ⟨g9, g10, qp3, qo3, qp4, qo4, qp8, qo8, qp9, qo9, rfl, rfl, zh ⟨HGg9.out, HGg10.out⟩, HRg9v8.out, HRg10v8.out, HW3v8.out, HW4v8.out, HW8v8.out, HW9v8.out, HSv8.out⟩
            ·(refine wpOU_solo (zO rfl) ?_)
             intro K hK
             go_simp
             have hb : Below v4.heap.size v4 (v4.alloc (.cells #[.nilFunc, .nilFunc, .nilFunc] 33)) := (zB _ _).alloc (zL _) _
             have HSv5 := zh (HSv4.out.trans (hb.mono HSv4.out.size))
             have HW3v5 := zh (HW3v4.out.below hb)
             have HW4v5 := zh (HW4v4.out.below hb)
             have HW8v5 := zh (HW8v4.out.below hb)
             have HRg9v5 := zh (HRg9v4.out.below hb HRg9v4.out.lt)
             have HRg10v5 : Hid (RowAt (v4.alloc (.cells #[.nilFunc, .nilFunc, .nilFunc] 33)) v4.heap.size 33 #[.nilFunc, .nilFunc, .nilFunc]) := zh (RowAt.new _ _ _)
             have HGg10 : Hid (w8.heap.size ≤ v4.heap.size) := zh HSv4.out.size
             have HN3xg10 := zh HW3v4.out.ne_new
             have HN4xg10 := zh HW4v4.out.ne_new
             have HN8xg10 := zh HW8v4.out.ne_new
             have HDg9xg10 : Hid (g9 ≠ v4.heap.size) := zh (Nat.ne_of_lt HRg9v4.out.lt)
             have HDg10xg9 : Hid (v4.heap.size ≠ g9) := zh fun e => HDg9xg10.out e.symm
             clear hb
             refine hK.out _ _ HSv5.out ?_
             clear hK K
             (try simp only [Act.put, zA4, zA5, zA6])
             generalize v4.heap.size = g10 at *
             generalize (v4.alloc (.cells #[.nilFunc, .nilFunc, .nilFunc] 33)) = v5 at *
             (refine wpOU_solo (zO rfl) ?_)
             intro K hK
             go_simp
             refine (HWc.out v5 _ _ _ _ _ _ HSv5.out).mono ?_
             rintro e v6 ⟨qo9, qp9, rfl, ho, hp, h1, h2, hb⟩
             have HSv6 := zh (HSv5.out.trans (hb.mono HSv5.out.size))
             have HW3v6 := zh (HW3v5.out.below hb)
             have HW4v6 := zh (HW4v5.out.below hb)
             have HW8v6 := zh (HW8v5.out.below hb)
             have HRg9v6 := zh (HRg9v5.out.below hb HRg9v5.out.lt)
             have HRg10v6 := zh (HRg10v5.out.below hb HRg10v5.out.lt)
             have HN9xg9 := zh (ne_old HRg9v5.out.lt h2 h1)
             have HN9xg10 := zh (ne_old HRg10v5.out.lt h2 h1)
             have HW9v6 : Hid (Wrp v6 w8.heap.size qp9 qo9 gc 28 30 31 #[.pointer (some ⟨qp8, 0, none⟩), .pointer (some ⟨qo8, 0, none⟩)] #[.pointer (some ⟨qp8, 0, none⟩), .pointer (some ⟨qo8, 0, none⟩)] #[.pointer (some ⟨qp8, 0, none⟩), .pointer (some ⟨qo8, 0, none⟩)]) := zh ⟨hp, ho, zM HSv5.out.size h2, zM HSv5.out.size h1⟩
             clear ho hp h1 h2 hb
             refine hK.out _ _ HSv6.out ?_
             clear hK K
             (try simp only [Act.put, zA4, zA5, zA6])
             (refine wpOU_solo (zO rfl) ?_)
             intro K hK
             rw [if_pos (by rfl)]
             refine wp_store_row _ _ _ rfl g9 #[.func (.func 28) #[] #[.pointer (some ⟨qp4, 0, none⟩), .pointer (some ⟨qo4, 0, none⟩)], .func (.func 30) #[] #[.pointer (some ⟨qp4, 0, none⟩), .pointer (some ⟨qo4, 0, none⟩)], .func (.func 31) #[] #[.pointer (some ⟨qp4, 0, none⟩), .pointer (some ⟨qo4, 0, none⟩)]] rfl rfl _ _ HRg9v6.out (by kernel_rfl) rfl (ops_one _ _ _ _ _ _) ?_
             have hm : Mut g9 v6 (v6.setRow g9 #[.func (.func 28) #[] #[.pointer (some ⟨qp4, 0, none⟩), .pointer (some ⟨qo4, 0, none⟩)], .func (.func 30) #[] #[.pointer (some ⟨qp4, 0, none⟩), .pointer (some ⟨qo4, 0, none⟩)], .func (.func 31) #[] #[.pointer (some ⟨qp4, 0, none⟩), .pointer (some ⟨qo4, 0, none⟩)]]) := Mut.of_else (Else.setRow v6 g9 _)
             have HSv7 := zh (HSv6.out.trans (hm.below HGg9.out HSv6.out.size))
             have HW3v7 := zh (HW3v6.out.mut hm HN3xg9.out)
             have HW4v7 := zh (HW4v6.out.mut hm HN4xg9.out)
             have HW8v7 := zh (HW8v6.out.mut hm HN8xg9.out)
             have HW9v7 := zh (HW9v6.out.mut hm HN9xg9.out)
             have HRg10v7 := zh (HRg10v6.out.mut hm HDg10xg9.out)
             have HRg9v7 := zh (HRg9v6.out.setRow #[.func (.func 28) #[] #[.pointer (some ⟨qp4, 0, none⟩), .pointer (some ⟨qo4, 0, none⟩)], .func (.func 30) #[] #[.pointer (some ⟨qp4, 0, none⟩), .pointer (some ⟨qo4, 0, none⟩)], .func (.func 31) #[] #[.pointer (some ⟨qp4, 0, none⟩), .pointer (some ⟨qo4, 0, none⟩)]])
             clear hm
             refine hK.out _ _ HSv7.out ?_
             clear hK K
             (try simp only [Act.put, zA4, zA5, zA6])
             generalize v6.setRow g9 #[.func (.func 28) #[] #[.pointer (some ⟨qp4, 0, none⟩), .pointer (some ⟨qo4, 0, none⟩)], .func (.func 30) #[] #[.pointer (some ⟨qp4, 0, none⟩), .pointer (some ⟨qo4, 0, none⟩)], .func (.func 31) #[] #[.pointer (some ⟨qp4, 0, none⟩), .pointer (some ⟨qo4, 0, none⟩)]] = v7 at *
             (refine wpOU_solo (zO rfl) ?_)
             intro K hK
             rw [if_pos (by rfl)]
             refine wp_store_row _ _ _ rfl g10 #[.func (.func 28) #[] #[.pointer (some ⟨qp9, 0, none⟩), .pointer (some ⟨qo9, 0, none⟩)], .func (.func 30) #[] #[.pointer (some ⟨qp9, 0, none⟩), .pointer (some ⟨qo9, 0, none⟩)], .func (.func 31) #[] #[.pointer (some ⟨qp9, 0, none⟩), .pointer (some ⟨qo9, 0, none⟩)]] rfl rfl _ _ HRg10v7.out (by kernel_rfl) rfl (ops_one _ _ _ _ _ _) ?_
             have hm : Mut g10 v7 (v7.setRow g10 #[.func (.func 28) #[] #[.pointer (some ⟨qp9, 0, none⟩), .pointer (some ⟨qo9, 0, none⟩)], .func (.func 30) #[] #[.pointer (some ⟨qp9, 0, none⟩), .pointer (some ⟨qo9, 0, none⟩)], .func (.func 31) #[] #[.pointer (some ⟨qp9, 0, none⟩), .pointer (some ⟨qo9, 0, none⟩)]]) := Mut.of_else (Else.setRow v7 g10 _)
             have HSv8 := zh (HSv7.out.trans (hm.below HGg10.out HSv7.out.size))
             have HW3v8 := zh (HW3v7.out.mut hm HN3xg10.out)
             have HW4v8 := zh (HW4v7.out.mut hm HN4xg10.out)
             have HW8v8 := zh (HW8v7.out.mut hm HN8xg10.out)
             have HW9v8 := zh (HW9v7.out.mut hm HN9xg10.out)
             have HRg9v8 := zh (HRg9v7.out.mut hm HDg9xg10.out)
             have HRg10v8 := zh (HRg10v7.out.setRow #[.func (.func 28) #[] #[.pointer (some ⟨qp9, 0, none⟩), .pointer (some ⟨qo9, 0, none⟩)], .func (.func 30) #[] #[.pointer (some ⟨qp9, 0, none⟩), .pointer (some ⟨qo9, 0, none⟩)], .func (.func 31) #[] #[.pointer (some ⟨qp9, 0, none⟩), .pointer (some ⟨qo9, 0, none⟩)]])
             clear hm
             refine hK.out _ _ HSv8.out ?_
             clear hK K
             (try simp only [Act.put, zA4, zA5, zA6])
             generalize v7.setRow g10 #[.func (.func 28) #[] #[.pointer (some ⟨qp9, 0, none⟩), .pointer (some ⟨qo9, 0, none⟩)], .func (.func 30) #[] #[.pointer (some ⟨qp9, 0, none⟩), .pointer (some ⟨qo9, 0, none⟩)], .func (.func 31) #[] #[.pointer (some ⟨qp9, 0, none⟩), .pointer (some ⟨qo9, 0, none⟩)]] = v8 at *
             refine wpOU_done ?_
             go_wp2
             go_meet
             case rel => exact ⟨g9, g10, qp3, qo3, qp4, qo4, qp8, qo8, qp9, qo9, rfl, rfl, zh ⟨HGg9.out, HGg10.out⟩, HRg9v8.out, HRg10v8.out, HW3v8.out, HW4v8.out, HW8v8.out, HW9v8.out, HSv8.out⟩
           ·(refine wpOU_solo (zO rfl) ?_)
            intro K hK
            go_simp
            have hb : Below v3.heap.size v3 (v3.alloc (.cells #[.nilFunc, .nilFunc, .nilFunc] 33)) := (zB _ _).alloc (zL _) _
            have HSv4 := zh (HSv3.out.trans (hb.mono HSv3.out.size))
            have HW3v4 := zh (HW3v3.out.below hb)
            have HW4v4 := zh (HW4v3.out.below hb)
            have HW8v4 := zh (HW8v3.out.below hb)
            have HRg10v4 : Hid (RowAt (v3.alloc (.cells #[.nilFunc, .nilFunc, .nilFunc] 33)) v3.heap.size 33 #[.nilFunc, .nilFunc, .nilFunc]) := zh (RowAt.new _ _ _)
            have HGg10 : Hid (w8.heap.size ≤ v3.heap.size) := zh HSv3.out.size
            have HN3xg10 := zh HW3v3.out.ne_new
            have HN4xg10 := zh HW4v3.out.ne_new
            have HN8xg10 := zh HW8v3.out.ne_new
            clear hb
            refine hK.out _ _ HSv4.out ?_
            clear hK K
            (try simp only [Act.put, zA4, zA5, zA6])
            generalize v3.heap.size = g10 at *
            generalize (v3.alloc (.cells #[.nilFunc, .nilFunc, .nilFunc] 33)) = v4 at *
            refine wpOU_two ?_ ?_
            ·(refine wpOU_solo (zO rfl) ?_)
             intro K hK
             go_simp
             refine (HWc.out v4 _ _ _ _ _ _ HSv4.out).mono ?_
             rintro e v5 ⟨qo9, qp9, rfl, ho, hp, h1, h2, hb⟩
             have HSv5 := zh (HSv4.out.trans (hb.mono HSv4.out.size))
             have HW3v5 := zh (HW3v4.out.below hb)
             have HW4v5 := zh (HW4v4.out.below hb)
             have HW8v5 := zh (HW8v4.out.below hb)
             have HRg10v5 := zh (HRg10v4.out.below hb HRg10v4.out.lt)
             have HN9xg10 := zh (ne_old HRg10v4.out.lt h2 h1)
             have HW9v5 : Hid (Wrp v5 w8.heap.size qp9 qo9 gc 28 30 31 #[.pointer (some ⟨qp8, 0, none⟩), .pointer (some ⟨qo8, 0, none⟩)] #[.pointer (some ⟨qp8, 0, none⟩), .pointer (some ⟨qo8, 0, none⟩)] #[.pointer (some ⟨qp8, 0, none⟩), .pointer (some ⟨qo8, 0, none⟩)]) := zh ⟨hp, ho, zM HSv4.out.size h2, zM HSv4.out.size h1⟩
             clear ho hp h1 h2 hb
             refine hK.out _ _ HSv5.out ?_
             clear hK K
             (try simp only [Act.put, zA4, zA5, zA6])
             (refine wpOU_solo (zO rfl) ?_)
             intro K hK
             go_simp
             have hb : Below v5.heap.size v5 (v5.alloc (.cells #[.nilFunc, .nilFunc, .nilFunc] 33)) := (zB _ _).alloc (zL _) _
             have HSv6 := zh (HSv5.out.trans (hb.mono HSv5.out.size))
             have HW3v6 := zh (HW3v5.out.below hb)
             have HW4v6 := zh (HW4v5.out.below hb)
             have HW8v6 := zh (HW8v5.out.below hb)
             have HW9v6 := zh (HW9v5.out.below hb)
             have HRg10v6 := zh (HRg10v5.out.below hb HRg10v5.out.lt)
             have HRg9v6 : Hid (RowAt (v5.alloc (.cells #[.nilFunc, .nilFunc, .nilFunc] 33)) v5.heap.size 33 #[.nilFunc, .nilFunc, .nilFunc]) := zh (RowAt.new _ _ _)
             have HGg9 : Hid (w8.heap.size ≤ v5.heap.size) := zh HSv5.out.size
             have HN3xg9 := zh HW3v5.out.ne_new
             have HN4xg9 := zh HW4v5.out.ne_new
             have HN8xg9 := zh HW8v5.out.ne_new
             have HN9xg9 := zh HW9v5.out.ne_new
             have HDg10xg9 : Hid (g10 ≠ v5.heap.size) := zh (Nat.ne_of_lt HRg10v5.out.lt)
             have HDg9xg10 : Hid (v5.heap.size ≠ g10) := zh fun e => HDg10xg9.out e.symm
             clear hb
             refine hK.out _ _ HSv6.out ?_
             clear hK K
             (try simp only [Act.put, zA4, zA5, zA6])
             generalize v5.heap.size = g9 at *
             generalize (v5.alloc (.cells #[.nilFunc, .nilFunc, .nilFunc] 33)) = v6 at *
             (refine wpOU_solo (zO rfl) ?_)
             intro K hK
             rw [if_pos (by rfl)]
             refine wp_store_row _ _ _ rfl g9 #[.func (.func 28) #[] #[.pointer (some ⟨qp4, 0, none⟩), .pointer (some ⟨qo4, 0, none⟩)], .func (.func 30) #[] #[.pointer (some ⟨qp4, 0, none⟩), .pointer (some ⟨qo4, 0, none⟩)], .func (.func 31) #[] #[.pointer (some ⟨qp4, 0, none⟩), .pointer (some ⟨qo4, 0, none⟩)]] rfl rfl _ _ HRg9v6.out (by kernel_rfl) rfl (ops_one _ _ _ _ _ _) ?_
             have hm : Mut g9 v6 (v6.setRow g9 #[.func (.func 28) #[] #[.pointer (some ⟨qp4, 0, none⟩), .pointer (some ⟨qo4, 0, none⟩)], .func (.func 30) #[] #[.pointer (some ⟨qp4, 0, none⟩), .pointer (some ⟨qo4, 0, none⟩)], .func (.func 31) #[] #[.pointer (some ⟨qp4, 0, none⟩), .pointer (some ⟨qo4, 0, none⟩)]]) := Mut.of_else (Else.setRow v6 g9 _)
             have HSv7 := zh (HSv6.out.trans (hm.below HGg9.out HSv6.out.size))
             have HW3v7 := zh (HW3v6.out.mut hm HN3xg9.out)
             have HW4v7 := zh (HW4v6.out.mut hm HN4xg9.out)
             have HW8v7 := zh (HW8v6.out.mut hm HN8xg9.out)
             have HW9v7 := zh (HW9v6.out.mut hm HN9xg9.out)
             have HRg10v7 := zh (HRg10v6.out.mut hm HDg10xg9.out)
             have HRg9v7 := zh (HRg9v6.out.setRow #[.func (.func 28) #[] #[.pointer (some ⟨qp4, 0, none⟩), .pointer (some ⟨qo4, 0, none⟩)], .func (.func 30) #[] #[.pointer (some ⟨qp4, 0, none⟩), .pointer (some ⟨qo4, 0, none⟩)], .func (.func 31) #[] #[.pointer (some ⟨qp4, 0, none⟩), .pointer (some ⟨qo4, 0, none⟩)]])
             clear hm
             refine hK.out _ _ HSv7.out ?_
             clear hK K
             (try simp only [Act.put, zA4, zA5, zA6])
             generalize v6.setRow g9 #[.func (.func 28) #[] #[.pointer (some ⟨qp4, 0, none⟩), .pointer (some ⟨qo4, 0, none⟩)], .func (.func 30) #[] #[.pointer (some ⟨qp4, 0, none⟩), .pointer (some ⟨qo4, 0, none⟩)], .func (.func 31) #[] #[.pointer (some ⟨qp4, 0, none⟩), .pointer (some ⟨qo4, 0, none⟩)]] = v7 at *
             (refine wpOU_solo (zO rfl) ?_)
             intro K hK
             rw [if_pos (by rfl)]
             refine wp_store_row _ _ _ rfl g10 #[.func (.func 28) #[] #[.pointer (some ⟨qp9, 0, none⟩), .pointer (some ⟨qo9, 0, none⟩)], .func (.func 30) #[] #[.pointer (some ⟨qp9, 0, none⟩), .pointer (some ⟨qo9, 0, none⟩)], .func (.func 31) #[] #[.pointer (some ⟨qp9, 0, none⟩), .pointer (some ⟨qo9, 0, none⟩)]] rfl rfl _ _ HRg10v7.out (by kernel_rfl) rfl (ops_one _ _ _ _ _ _) ?_
             have hm : Mut g10 v7 (v7.setRow g10 #[.func (.func 28) #[] #[.pointer (some ⟨qp9, 0, none⟩), .pointer (some ⟨qo9, 0, none⟩)], .func (.func 30) #[] #[.pointer (some ⟨qp9, 0, none⟩), .pointer (some ⟨qo9, 0, none⟩)], .func (.func 31) #[] #[.pointer (some ⟨qp9, 0, none⟩), .pointer (some ⟨qo9, 0, none⟩)]]) := Mut.of_else (Else.setRow v7 g10 _)
             have HSv8 := zh (HSv7.out.trans (hm.below HGg10.out HSv7.out.size))
             have HW3v8 := zh (HW3v7.out.mut hm HN3xg10.out)
             have HW4v8 := zh (HW4v7.out.mut hm HN4xg10.out)
             have HW8v8 := zh (HW8v7.out.mut hm HN8xg10.out)
             have HW9v8 := zh (HW9v7.out.mut hm HN9xg10.out)
             have HRg9v8 := zh (HRg9v7.out.mut hm HDg9xg10.out)
             have HRg10v8 := zh (HRg10v7.out.setRow #[.func (.func 28) #[] #[.pointer (some ⟨qp9, 0, none⟩), .pointer (some ⟨qo9, 0, none⟩)], .func (.func 30) #[] #[.pointer (some ⟨qp9, 0, none⟩), .pointer (some ⟨qo9, 0, none⟩)], .func (.func 31) #[] #[.pointer (some ⟨qp9, 0, none⟩), .pointer (some ⟨qo9, 0, none⟩)]])
             clear hm
             refine hK.out _ _ HSv8.out ?_
             clear hK K
             (try simp only [Act.put, zA4, zA5, zA6])
             generalize v7.setRow g10 #[.func (.func 28) #[] #[.pointer (some ⟨qp9, 0, none⟩), .pointer (some ⟨qo9, 0, none⟩)], .func (.func 30) #[] #[.pointer (some ⟨qp9, 0, none⟩), .pointer (some ⟨qo9, 0, none⟩)], .func (.func 31) #[] #[.pointer (some ⟨qp9, 0, none⟩), .pointer (some ⟨qo9, 0, none⟩)]] = v8 at *
             refine wpOU_done ?_
             go_wp2
             go_meet
             case rel => exact ⟨g9, g10, qp3, qo3, qp4, qo4, qp8, qo8, qp9, qo9, rfl, rfl, zh ⟨HGg9.out, HGg10.out⟩, HRg9v8.out, HRg10v8.out, HW3v8.out, HW4v8.out, HW8v8.out, HW9v8.out, HSv8.out⟩
            ·(refine wpOU_solo (zO rfl) ?_)
             intro K hK
             go_simp
             have hb : Below v4.heap.size v4 (v4.alloc (.cells #[.nilFunc, .nilFunc, .nilFunc] 33)) := (zB _ _).alloc (zL _) _
             have HSv5 := zh (HSv4.out.trans (hb.mono HSv4.out.size))
             have HW3v5 := zh (HW3v4.out.below hb)
             have HW4v5 := zh (HW4v4.out.below hb)
             have HW8v5 := zh (HW8v4.out.below hb)
             have HRg10v5 := zh (HRg10v4.out.below hb HRg10v4.out.lt)
             have HRg9v5 : Hid (RowAt (v4.alloc (.cells #[.nilFunc, .nilFunc, .nilFunc] 33)) v4.heap.size 33 #[.nilFunc, .nilFunc, .nilFunc]) := zh (RowAt.new _ _ _)
             have HGg9 : Hid (w8.heap.size ≤ v4.heap.size) := zh HSv4.out.size
             have HN3xg9 := zh HW3v4.out.ne_new
             have HN4xg9 := zh HW4v4.out.ne_new
             have HN8xg9 := zh HW8v4.out.ne_new
             have HDg10xg9 : Hid (g10 ≠ v4.heap.size) := zh (Nat.ne_of_lt HRg10v4.out.lt)
             have HDg9xg10 : Hid (v4.heap.size ≠ g10) := zh fun e => HDg10xg9.out e.symm
             clear hb
             refine hK.out _ _ HSv5.out ?_
             clear hK K
             (try simp only [Act.put, zA4, zA5, zA6])
             generalize v4.heap.size = g9 at *
             generalize (v4.alloc (.cells #[.nilFunc, .nilFunc, .nilFunc] 33)) = v5 at *
             (refine wpOU_solo (zO rfl) ?_)
             intro K hK
             go_simp
             refine (HWc.out v5 _ _ _ _ _ _ HSv5.out).mono ?_
             rintro e v6 ⟨qo9, qp9, rfl, ho, hp, h1, h2, hb⟩
             have HSv6 := zh (HSv5.out.trans (hb.mono HSv5.out.size))
             have HW3v6 := zh (HW3v5.out.below hb)
             have HW4v6 := zh (HW4v5.out.below hb)
             have HW8v6 := zh (HW8v5.out.below hb)
             have HRg10v6 := zh (HRg10v5.out.below hb HRg10v5.out.lt)
             have HRg9v6 := zh (HRg9v5.out.below hb HRg9v5.out.lt)
             have HN9xg10 := zh (ne_old HRg10v5.out.lt h2 h1)
             have HN9xg9 := zh (ne_old HRg9v5.out.lt h2 h1)
             have HW9v6 : Hid (Wrp v6 w8.heap.size qp9 qo9 gc 28 30 31 #[.pointer (some ⟨qp8, 0, none⟩), .pointer (some ⟨qo8, 0, none⟩)] #[.pointer (some ⟨qp8, 0, none⟩), .pointer (some ⟨qo8, 0, none⟩)] #[.pointer (some ⟨qp8, 0, none⟩), .pointer (some ⟨qo8, 0, none⟩)]) := zh ⟨hp, ho, zM HSv5.out.size h2, zM HSv5.out.size h1⟩
             clear ho hp h1 h2 hb
             refine hK.out _ _ HSv6.out ?_
             clear hK K
             (try simp only [Act.put, zA4, zA5, zA6])
             (refine wpOU_solo (zO rfl) ?_)
             intro K hK
             rw [if_pos (by rfl)]
             refine wp_store_row _ _ _ rfl g9 #[.func (.func 28) #[] #[.pointer (some ⟨qp4, 0, none⟩), .pointer (some ⟨qo4, 0, none⟩)], .func (.func 30) #[] #[.pointer (some ⟨qp4, 0, none⟩), .pointer (some ⟨qo4, 0, none⟩)], .func (.func 31) #[] #[.pointer (some ⟨qp4, 0, none⟩), .pointer (some ⟨qo4, 0, none⟩)]] rfl rfl _ _ HRg9v6.out (by kernel_rfl) rfl (ops_one _ _ _ _ _ _) ?_
             have hm : Mut g9 v6 (v6.setRow g9 #[.func (.func 28) #[] #[.pointer (some ⟨qp4, 0, none⟩), .pointer (some ⟨qo4, 0, none⟩)], .func (.func 30) #[] #[.pointer (some ⟨qp4, 0, none⟩), .pointer (some ⟨qo4, 0, none⟩)], .func (.func 31) #[] #[.pointer (some ⟨qp4, 0, none⟩), .pointer (some ⟨qo4, 0, none⟩)]]) := Mut.of_else (Else.setRow v6 g9 _)
             have HSv7 := zh (HSv6.out.trans (hm.below HGg9.out HSv6.out.size))
             have HW3v7 := zh (HW3v6.out.mut hm HN3xg9.out)
             have HW4v7 := zh (HW4v6.out.mut hm HN4xg9.out)
             have HW8v7 := zh (HW8v6.out.mut hm HN8xg9.out)
             have HW9v7 := zh (HW9v6.out.mut hm HN9xg9.out)
             have HRg10v7 := zh (HRg10v6.out.mut hm HDg10xg9.out)
             have HRg9v7 := zh (HRg9v6.out.setRow #[.func (.func 28) #[] #[.pointer (some ⟨qp4, 0, none⟩), .pointer (some ⟨qo4, 0, none⟩)], .func (.func 30) #[] #[.pointer (some ⟨qp4, 0, none⟩), .pointer (some ⟨qo4, 0, none⟩)], .func (.func 31) #[] #[.pointer (some ⟨qp4, 0, none⟩), .pointer (some ⟨qo4, 0, none⟩)]])
             clear hm
             refine hK.out _ _ HSv7.out ?_
             clear hK K
             (try simp only [Act.put, zA4, zA5, zA6])
             generalize v6.setRow g9 #[.func (.func 28) #[] #[.pointer (some ⟨qp4, 0, none⟩), .pointer (some ⟨qo4, 0, none⟩)], .func (.func 30) #[] #[.pointer (some ⟨qp4, 0, none⟩), .pointer (some ⟨qo4, 0, none⟩)], .func (.func 31) #[] #[.pointer (some ⟨qp4, 0, none⟩), .pointer (some ⟨qo4, 0, none⟩)]] = v7 at *
             (refine wpOU_solo (zO rfl) ?_)
             intro K hK
             rw [if_pos (by rfl)]
             refine wp_store_row _ _ _ rfl g10 #[.func (.func 28) #[] #[.pointer (some ⟨qp9, 0, none⟩), .pointer (some ⟨qo9, 0, none⟩)], .func (.func 30) #[] #[.pointer (some ⟨qp9, 0, none⟩), .pointer (some ⟨qo9, 0, none⟩)], .func (.func 31) #[] #[.pointer (some ⟨qp9, 0, none⟩), .pointer (some ⟨qo9, 0, none⟩)]] rfl rfl _ _ HRg10v7.out (by kernel_rfl) rfl (ops_one _ _ _ _ _ _) ?_
             have hm : Mut g10 v7 (v7.setRow g10 #[.func (.func 28) #[] #[.pointer (some ⟨qp9, 0, none⟩), .pointer (some ⟨qo9, 0, none⟩)], .func (.func 30) #[] #[.pointer (some ⟨qp9, 0, none⟩), .pointer (some ⟨qo9, 0, none⟩)], .func (.func 31) #[] #[.pointer (some ⟨qp9, 0, none⟩), .pointer (some ⟨qo9, 0, none⟩)]]) := Mut.of_else (Else.setRow v7 g10 _)
             have HSv8 := zh (HSv7.out.trans (hm.below HGg10.out HSv7.out.size))
             have HW3v8 := zh (HW3v7.out.mut hm HN3xg10.out)
             have HW4v8 := zh (HW4v7.out.mut hm HN4xg10.out)
             have HW8v8 := zh (HW8v7.out.mut hm HN8xg10.out)
             have HW9v8 := zh (HW9v7.out.mut hm HN9xg10.out)
             have HRg9v8 := zh (HRg9v7.out.mut hm HDg9xg10.out)
             have HRg10v8 := zh (HRg10v7.out.setRow #[.func (.func 28) #[] #[.pointer (some ⟨qp9, 0, none⟩), .pointer (some ⟨qo9, 0, none⟩)], .func (.func 30) #[] #[.pointer (some ⟨qp9, 0, none⟩), .pointer (some ⟨qo9, 0, none⟩)], .func (.func 31) #[] #[.pointer (some ⟨qp9, 0, none⟩), .pointer (some ⟨qo9, 0, none⟩)]])
             clear hm
             refine hK.out _ _ HSv8.out ?_
             clear hK K
             (try simp only [Act.put, zA4, zA5, zA6])
             generalize v7.setRow g10 #[.func (.func 28) #[] #[.pointer (some ⟨qp9, 0, none⟩), .pointer (some ⟨qo9, 0, none⟩)], .func (.func 30) #[] #[.pointer (some ⟨qp9, 0, none⟩), .pointer (some ⟨qo9, 0, none⟩)], .func (.func 31) #[] #[.pointer (some ⟨qp9, 0, none⟩), .pointer (some ⟨qo9, 0, none⟩)]] = v8 at *
             refine wpOU_done ?_
             go_wp2
             go_meet
             case rel => exact ⟨g9, g10, qp3, qo3, qp4, qo4, qp8, qo8, qp9, qo9, rfl, rfl, zh ⟨HGg9.out, HGg10.out⟩, HRg9v8.out, HRg10v8.out, HW3v8.out, HW4v8.out, HW8v8.out, HW9v8.out, HSv8.out⟩
          ·(refine wpOU_solo (zO rfl) ?_)
           intro K hK
           go_simp
           have hb : Below v2.heap.size v2 (v2.alloc (.cells #[.nilFunc, .nilFunc, .nilFunc] 33)) := (zB _ _).alloc (zL _) _
           have HSv3 := zh (HSv2.out.trans (hb.mono HSv2.out.size))
           have HW3v3 := zh (HW3v2.out.below hb)
           have HW4v3 := zh (HW4v2.out.below hb)
           have HRg9v3 : Hid (RowAt (v2.alloc (.cells #[.nilFunc, .nilFunc, .nilFunc] 33)) v2.heap.size 33 #[.nilFunc, .nilFunc, .nilFunc]) := zh (RowAt.new _ _ _)
           have HGg9 : Hid (w8.heap.size ≤ v2.heap.size) := zh HSv2.out.size
           have HN3xg9 := zh HW3v2.out.ne_new
           have HN4xg9 := zh HW4v2.out.ne_new
           clear hb
           refine hK.out _ _ HSv3.out ?_
           clear hK K
           (try simp only [Act.put, zA4, zA5, zA6])
           generalize v2.heap.size = g9 at *
           generalize (v2.alloc (.cells #[.nilFunc, .nilFunc, .nilFunc] 33)) = v3 at *
           refine wpOU_two ?_ ?_
           ·(refine wpOU_solo (zO rfl) ?_)
            intro K hK
            go_simp
            refine (HWc.out v3 _ _ _ _ _ _ HSv3.out).mono ?_
            rintro e v4 ⟨qo8, qp8, rfl, ho, hp, h1, h2, hb⟩
            have HSv4 := zh (HSv3.out.trans (hb.mono HSv3.out.size))
            have HW3v4 := zh (HW3v3.out.below hb)
            have HW4v4 := zh (HW4v3.out.below hb)
            have HRg9v4 := zh (HRg9v3.out.below hb HRg9v3.out.lt)
            have HN8xg9 := zh (ne_old HRg9v3.out.lt h2 h1)
            have HW8v4 : Hid (Wrp v4 w8.heap.size qp8 qo8 gc 19 21 43 #[.pointer (some ⟨gow, 0, none⟩)] #[] #[.pointer (some ⟨go, 0, none⟩), .pointer (some ⟨gp, 0, none⟩), .pointer (some ⟨gt, 0, none⟩), .pointer (some ⟨gs, 0, none⟩)]) := zh ⟨hp, ho, zM HSv3.out.size h2, zM HSv3.out.size h1⟩
            clear ho hp h1 h2 hb
            refine hK.out _ _ HSv4.out ?_
            clear hK K
            (try simp only [Act.put, zA4, zA5, zA6])
            refine wpOU_two ?_ ?_
            ·(refine wpOU_solo (zO rfl) ?_)
             intro K hK
             go_simp
             refine (HWc.out v4 _ _ _ _ _ _ HSv4.out).mono ?_
             rintro e v5 ⟨qo9, qp9, rfl, ho, hp, h1, h2, hb⟩
             have HSv5 := zh (HSv4.out.trans (hb.mono HSv4.out.size))
             have HW3v5 := zh (HW3v4.out.below hb)
             have HW4v5 := zh (HW4v4.out.below hb)
             have HW8v5 := zh (HW8v4.out.below hb)
             have HRg9v5 := zh (HRg9v4.out.below hb HRg9v4.out.lt)
             have HN9xg9 := zh (ne_old HRg9v4.out.lt h2 h1)
             have HW9v5 : Hid (Wrp v5 w8.heap.size qp9 qo9 gc 28 30 31 #[.pointer (some ⟨qp8, 0, none⟩), .pointer (some ⟨qo8, 0, none⟩)] #[.pointer (some ⟨qp8, 0, none⟩), .pointer (some ⟨qo8, 0, none⟩)] #[.pointer (some ⟨qp8, 0, none⟩), .pointer (some ⟨qo8, 0, none⟩)]) := zh ⟨hp, ho, zM HSv4.out.size h2, zM HSv4.out.size h1⟩
             clear ho hp h1 h2 hb
             refine hK.out _ _ HSv5.out ?_
             clear hK K
             (try simp only [Act.put, zA4, zA5, zA6])
             (refine wpOU_solo (zO rfl) ?_)
             intro K hK
             go_simp
             have hb : Below v5.heap.size v5 (v5.alloc (.cells #[.nilFunc, .nilFunc, .nilFunc] 33)) := (zB _ _).alloc (zL _) _
             have HSv6 := zh (HSv5.out.trans (hb.mono HSv5.out.size))
             have HW3v6 := zh (HW3v5.out.below hb)
             have HW4v6 := zh (HW4v5.out.below hb)
             have HW8v6 := zh (HW8v5.out.below hb)
             have HW9v6 := zh (HW9v5.out.below hb)
             have HRg9v6 := zh (HRg9v5.out.below hb HRg9v5.out.lt)
             have HRg10v6 : Hid (RowAt (v5.alloc (.cells #[.nilFunc, .nilFunc, .nilFunc] 33)) v5.heap.size 33 #[.nilFunc, .nilFunc, .nilFunc]) := zh (RowAt.new _ _ _)
             have HGg10 : Hid (w8.heap.size ≤ v5.heap.size) := zh HSv5.out.size
             have HN3xg10 := zh HW3v5.out.ne_new
             have HN4xg10 := zh HW4v5.out.ne_new
             have HN8xg10 := zh HW8v5.out.ne_new
             have HN9xg10 := zh HW9v5.out.ne_new
             have HDg9xg10 : Hid (g9 ≠ v5.heap.size) := zh (Nat.ne_of_lt HRg9v5.out.lt)
             have HDg10xg9 : Hid (v5.heap.size ≠ g9) := zh fun e => HDg9xg10.out e.symm
             clear hb
             refine hK.out _ _ HSv6.out ?_
             clear hK K
             (try simp only [Act.put, zA4, zA5, zA6])
             generalize v5.heap.size = g10 at *
             generalize (v5.alloc (.cells #[.nilFunc, .nilFunc, .nilFunc] 33)) = v6 at *
             (refine wpOU_solo (zO rfl) ?_)
             intro K hK
             rw [if_pos (by rfl)]
             refine wp_store_row _ _ _ rfl g9 #[.func (.func 28) #[] #[.pointer (some ⟨qp4, 0, none⟩), .pointer (some ⟨qo4, 0, none⟩)], .func (.func 30) #[] #[.pointer (some ⟨qp4, 0, none⟩), .pointer (some ⟨qo4, 0, none⟩)], .func (.func 31) #[] #[.pointer (some ⟨qp4, 0, none⟩), .pointer (some ⟨qo4, 0, none⟩)]] rfl rfl _ _ HRg9v6.out (by kernel_rfl) rfl (ops_one _ _ _ _ _ _) ?_
             have hm : Mut g9 v6 (v6.setRow g9 #[.func (.func 28) #[] #[.pointer (some ⟨qp4, 0, none⟩), .pointer (some ⟨qo4, 0, none⟩)], .func (.func 30) #[] #[.pointer (some ⟨qp4, 0, none⟩), .pointer (some ⟨qo4, 0, none⟩)], .func (.func 31) #[] #[.pointer (some ⟨qp4, 0, none⟩), .pointer (some ⟨qo4, 0, none⟩)]]) := Mut.of_else (Else.setRow v6 g9 _)
             have HSv7 := zh (HSv6.out.trans (hm.below HGg9.out HSv6.out.size))
             have HW3v7 := zh (HW3v6.out.mut hm HN3xg9.out)
             have HW4v7 := zh (HW4v6.out.mut hm HN4xg9.out)
             have HW8v7 := zh (HW8v6.out.mut hm HN8xg9.out)
             have HW9v7 := zh (HW9v6.out.mut hm HN9xg9.out)
             have HRg10v7 := zh (HRg10v6.out.mut hm HDg10xg9.out)
             have HRg9v7 := zh (HRg9v6.out.setRow #[.func (.func 28) #[] #[.pointer (some ⟨qp4, 0, none⟩), .pointer (some ⟨qo4, 0, none⟩)], .func (.func 30) #[] #[.pointer (some ⟨qp4, 0, none⟩), .pointer (some ⟨qo4, 0, none⟩)], .func (.func 31) #[] #[.pointer (some ⟨qp4, 0, none⟩), .pointer (some ⟨qo4, 0, none⟩)]])
             clear hm
             refine hK.out _ _ HSv7.out ?_
             clear hK K
             (try simp only [Act.put, zA4, zA5, zA6])
             generalize v6.setRow g9 #[.func (.func 28) #[] #[.pointer (some ⟨qp4, 0, none⟩), .pointer (some ⟨qo4, 0, none⟩)], .func (.func 30) #[] #[.pointer (some ⟨qp4, 0, none⟩), .pointer (some ⟨qo4, 0, none⟩)], .func (.func 31) #[] #[.pointer (some ⟨qp4, 0, none⟩), .pointer (some ⟨qo4, 0, none⟩)]] = v7 at *
             (refine wpOU_solo (zO rfl) ?_)
             intro K hK
             rw [if_pos (by rfl)]
             refine wp_store_row _ _ _ rfl g10 #[.func (.func 28) #[] #[.pointer (some ⟨qp9, 0, none⟩), .pointer (some ⟨qo9, 0, none⟩)], .func (.func 30) #[] #[.pointer (some ⟨qp9, 0, none⟩), .pointer (some ⟨qo9, 0, none⟩)], .func (.func 31) #[] #[.pointer (some ⟨qp9, 0, none⟩), .pointer (some ⟨qo9, 0, none⟩)]] rfl rfl _ _ HRg10v7.out (by kernel_rfl) rfl (ops_one _ _ _ _ _ _) ?_
             have hm : Mut g10 v7 (v7.setRow g10 #[.func (.func 28) #[] #[.pointer (some ⟨qp9, 0, none⟩), .pointer (some ⟨qo9, 0, none⟩)], .func (.func 30) #[] #[.pointer (some ⟨qp9, 0, none⟩), .pointer (some ⟨qo9, 0, none⟩)], .func (.func 31) #[] #[.pointer (some ⟨qp9, 0, none⟩), .pointer (some ⟨qo9, 0, none⟩)]]) := Mut.of_else (Else.setRow v7 g10 _)
             have HSv8 := zh (HSv7.out.trans (hm.below HGg10.out HSv7.out.size))
             have HW3v8 := zh (HW3v7.out.mut hm HN3xg10.out)
             have HW4v8 := zh (HW4v7.out.mut hm HN4xg10.out)
             have HW8v8 := zh (HW8v7.out.mut hm HN8xg10.out)
             have HW9v8 := zh (HW9v7.out.mut hm HN9xg10.out)
             have HRg9v8 := zh (HRg9v7.out.mut hm HDg9xg10.out)
             have HRg10v8 := zh (HRg10v7.out.setRow #[.func (.func 28) #[] #[.pointer (some ⟨qp9, 0, none⟩), .pointer (some ⟨qo9, 0, none⟩)], .func (.func 30) #[] #[.pointer (some ⟨qp9, 0, none⟩), .pointer (some ⟨qo9, 0, none⟩)], .func (.func 31) #[] #[.pointer (some ⟨qp9, 0, none⟩), .pointer (some ⟨qo9, 0, none⟩)]])
             clear hm
             refine hK.out _ _ HSv8.out ?_
             clear hK K
             (try simp only [Act.put, zA4, zA5, zA6])
             generalize v7.setRow g10 #[.func (.func 28) #[] #[.pointer (some ⟨qp9, 0, none⟩), .pointer (some ⟨qo9, 0, none⟩)], .func (.func 30) #[] #[.pointer (some ⟨qp9, 0, none⟩), .pointer (some ⟨qo9, 0, none⟩)], .func (.func 31) #[] #[.pointer (some ⟨qp9, 0, none⟩), .pointer (some ⟨qo9, 0, none⟩)]] = v8 at *
             refine wpOU_done ?_
             go_wp2
             go_meet
             case rel => exact ⟨g9, g10, qp3, qo3, qp4, qo4, qp8, qo8, qp9, qo9, rfl, rfl, zh ⟨HGg9.out, HGg10.out⟩, HRg9v8.out, HRg10v8.out, HW3v8.out, HW4v8.out, HW8v8.out, HW9v8.out, HSv8.out⟩
            ·(refine wpOU_solo (zO rfl) ?_)
             intro K hK
             go_simp
             have hb : Below v4.heap.size v4 (v4.alloc (.cells #[.nilFunc, .nilFunc, .nilFunc] 33)) := (zB _ _).alloc (zL _) _
             have HSv5 := zh (HSv4.out.trans (hb.mono HSv4.out.size))
             have HW3v5 := zh (HW3v4.out.below hb)
             have HW4v5 := zh (HW4v4.out.below hb)
             have HW8v5 := zh (HW8v4.out.below hb)
             have HRg9v5 := zh (HRg9v4.out.below hb HRg9v4.out.lt)
             have HRg10v5 : Hid (RowAt (v4.alloc (.cells #[.nilFunc, .nilFunc, .nilFunc] 33)) v4.heap.size 33 #[.nilFunc, .nilFunc, .nilFunc]) := zh (RowAt.new _ _ _)
             have HGg10 : Hid (w8.heap.size ≤ v4.heap.size) := zh HSv4.out.size
             have HN3xg10 := zh HW3v4.out.ne_new
             have HN4xg10 := zh HW4v4.out.ne_new
             have HN8xg10 := zh HW8v4.out.ne_new
             have HDg9xg10 : Hid (g9 ≠ v4.heap.size) := zh (Nat.ne_of_lt HRg9v4.out.lt)
             have HDg10xg9 : Hid (v4.heap.size ≠ g9) := zh fun e => HDg9xg10.out e.symm
             clear hb
             refine hK.out _ _ HSv5.out ?_
             clear hK K
             (try simp only [Act.put, zA4, zA5, zA6])
             generalize v4.heap.size = g10 at *
             generalize (v4.alloc (.cells #[.nilFunc, .nilFunc, .nilFunc] 33)) = v5 at *
             (refine wpOU_solo (zO rfl) ?_)
             intro K hK
             go_simp
             refine (HWc.out v5 _ _ _ _ _ _ HSv5.out).mono ?_
             rintro e v6 ⟨qo9, qp9, rfl, ho, hp, h1, h2, hb⟩
             have HSv6 := zh (HSv5.out.trans (hb.mono HSv5.out.size))
             have HW3v6 := zh (HW3v5.out.below hb)
             have HW4v6 := zh (HW4v5.out.below hb)
             have HW8v6 := zh (HW8v5.out.below hb)
             have HRg9v6 := zh (HRg9v5.out.below hb HRg9v5.out.lt)
             have HRg10v6 := zh (HRg10v5.out.below hb HRg10v5.out.lt)
             have HN9xg9 := zh (ne_old HRg9v5.out.lt h2 h1)
             have HN9xg10 := zh (ne_old HRg10v5.out.lt h2 h1)
             have HW9v6 : Hid (Wrp v6 w8.heap.size qp9 qo9 gc 28 30 31 #[.pointer (some ⟨qp8, 0, none⟩), .pointer (some ⟨qo8, 0, none⟩)] #[.pointer (some ⟨qp8, 0, none⟩), .pointer (some ⟨qo8, 0, none⟩)] #[.pointer (some ⟨qp8, 0, none⟩), .pointer (some ⟨qo8, 0, none⟩)]) := zh ⟨hp, ho, zM HSv5.out.size h2, zM HSv5.out.size h1⟩
             clear ho hp h1 h2 hb
             refine hK.out _ _ HSv6.out ?_
             clear hK K
             (try simp only [Act.put, zA4, zA5, zA6])
             (refine wpOU_solo (zO rfl) ?_)
             intro K hK
             rw [if_pos (by rfl)]
             refine wp_store_row _ _ _ rfl g9 #[.func (.func 28) #[] #[.pointer (some ⟨qp4, 0, none⟩), .pointer (some ⟨qo4, 0, none⟩)], .func (.func 30) #[] #[.pointer (some ⟨qp4, 0, none⟩), .pointer (some ⟨qo4, 0, none⟩)], .func (.func 31) #[] #[.pointer (some ⟨qp4, 0, none⟩), .pointer (some ⟨qo4, 0, none⟩)]] rfl rfl _ _ HRg9v6.out (by kernel_rfl) rfl (ops_one _ _ _ _ _ _) ?_
             have hm : Mut g9 v6 (v6.setRow g9 #[.func (.func 28) #[] #[.pointer (some ⟨qp4, 0, none⟩), .pointer (some ⟨qo4, 0, none⟩)], .func (.func 30) #[] #[.pointer (some ⟨qp4, 0, none⟩), .pointer (some ⟨qo4, 0, none⟩)], .func (.func 31) #[] #[.pointer (some ⟨qp4, 0, none⟩), .pointer (some ⟨qo4, 0, none⟩)]]) := Mut.of_else (Else.setRow v6 g9 _)
             have HSv7 := zh (HSv6.out.trans (hm.below HGg9.out HSv6.out.size))
             have HW3v7 := zh (HW3v6.out.mut hm HN3xg9.out)
             have HW4v7 := zh (HW4v6.out.mut hm HN4xg9.out)
             have HW8v7 := zh (HW8v6.out.mut hm HN8xg9.out)
             have HW9v7 := zh (HW9v6.out.mut hm HN9xg9.out)
             have HRg10v7 := zh (HRg10v6.out.mut hm HDg10xg9.out)
             have HRg9v7 := zh (HRg9v6.out.setRow #[.func (.func 28) #[] #[.pointer (some ⟨qp4, 0, none⟩), .pointer (some ⟨qo4, 0, none⟩)], .func (.func 30) #[] #[.pointer (some ⟨qp4, 0, none⟩), .pointer (some ⟨qo4, 0, none⟩)], .func (.func 31) #[] #[.pointer (some ⟨qp4, 0, none⟩), .pointer (some ⟨qo4, 0, none⟩)]])
             clear hm
             refine hK.out _ _ HSv7.out ?_
             clear hK K
             (try simp only [Act.put, zA4, zA5, zA6])
             generalize v6.setRow g9 #[.func (.func 28) #[] #[.pointer (some ⟨qp4, 0, none⟩), .pointer (some ⟨qo4, 0, none⟩)], .func (.func 30) #[] #[.pointer (some ⟨qp4, 0, none⟩), .pointer (some ⟨qo4, 0, none⟩)], .func (.func 31) #[] #[.pointer (some ⟨qp4, 0, none⟩), .pointer (some ⟨qo4, 0, none⟩)]] = v7 at *
             (refine wpOU_solo (zO rfl) ?_)
             intro K hK
             rw [if_pos (by rfl)]
             refine wp_store_row _ _ _ rfl g10 #[.func (.func 28) #[] #[.pointer (some ⟨qp9, 0, none⟩), .pointer (some ⟨qo9, 0, none⟩)], .func (.func 30) #[] #[.pointer (some ⟨qp9, 0, none⟩), .pointer (some ⟨qo9, 0, none⟩)], .func (.func 31) #[] #[.pointer (some ⟨qp9, 0, none⟩), .pointer (some ⟨qo9, 0, none⟩)]] rfl rfl _ _ HRg10v7.out (by kernel_rfl) rfl (ops_one _ _ _ _ _ _) ?_
             have hm : Mut g10 v7 (v7.setRow g10 #[.func (.func 28) #[] #[.pointer (some ⟨qp9, 0, none⟩), .pointer (some ⟨qo9, 0, none⟩)], .func (.func 30) #[] #[.pointer (some ⟨qp9, 0, none⟩), .pointer (some ⟨qo9, 0, none⟩)], .func (.func 31) #[] #[.pointer (some ⟨qp9, 0, none⟩), .pointer (some ⟨qo9, 0, none⟩)]]) := Mut.of_else (Else.setRow v7 g10 _)
             have HSv8 := zh (HSv7.out.trans (hm.below HGg10.out HSv7.out.size))
             have HW3v8 := zh (HW3v7.out.mut hm HN3xg10.out)
             have HW4v8 := zh (HW4v7.out.mut hm HN4xg10.out)
             have HW8v8 := zh (HW8v7.out.mut hm HN8xg10.out)
             have HW9v8 := zh (HW9v7.out.mut hm HN9xg10.out)
             have HRg9v8 := zh (HRg9v7.out.mut hm HDg9xg10.out)
             have HRg10v8 := zh (HRg10v7.out.setRow #[.func (.func 28) #[] #[.pointer (some ⟨qp9, 0, none⟩), .pointer (some ⟨qo9, 0, none⟩)], .func (.func 30) #[] #[.pointer (some ⟨qp9, 0, none⟩), .pointer (some ⟨qo9, 0, none⟩)], .func (.func 31) #[] #[.pointer (some ⟨qp9, 0, none⟩), .pointer (some ⟨qo9, 0, none⟩)]])
             clear hm
             refine hK.out _ _ HSv8.out ?_
             clear hK K
             (try simp only [Act.put, zA4, zA5, zA6])
             generalize v7.setRow g10 #[.func (.func 28) #[] #[.pointer (some ⟨qp9, 0, none⟩), .pointer (some ⟨qo9, 0, none⟩)], .func (.func 30) #[] #[.pointer (some ⟨qp9, 0, none⟩), .pointer (some ⟨qo9, 0, none⟩)], .func (.func 31) #[] #[.pointer (some ⟨qp9, 0, none⟩), .pointer (some ⟨qo9, 0, none⟩)]] = v8 at *
             refine wpOU_done ?_
             go_wp2
             go_meet
             case rel => exact ⟨g9, g10, qp3, qo3, qp4, qo4, qp8, qo8, qp9, qo9, rfl, rfl, zh ⟨HGg9.out, HGg10.out⟩, HRg9v8.out, HRg10v8.out, HW3v8.out, HW4v8.out, HW8v8.out, HW9v8.out, HSv8.out⟩
           ·(refine wpOU_solo (zO rfl) ?_)
            intro K hK
            go_simp
            have hb : Below v3.heap.size v3 (v3.alloc (.cells #[.nilFunc, .nilFunc, .nilFunc] 33)) := (zB _ _).alloc (zL _) _
            have HSv4 := zh (HSv3.out.trans (hb.mono HSv3.out.size))
            have HW3v4 := zh (HW3v3.out.below hb)
            have HW4v4 := zh (HW4v3.out.below hb)
            have HRg9v4 := zh (HRg9v3.out.below hb HRg9v3.out.lt)
            have HRg10v4 : Hid (RowAt (v3.alloc (.cells #[.nilFunc, .nilFunc, .nilFunc] 33)) v3.heap.size 33 #[.nilFunc, .nilFunc, .nilFunc]) := zh (RowAt.new _ _ _)
            have HGg10 : Hid (w8.heap.size ≤ v3.heap.size) := zh HSv3.out.size
            have HN3xg10 := zh HW3v3.out.ne_new
            have HN4xg10 := zh HW4v3.out.ne_new
            have HDg9xg10 : Hid (g9 ≠ v3.heap.size) := zh (Nat.ne_of_lt HRg9v3.out.lt)
            have HDg10xg9 : Hid (v3.heap.size ≠ g9) := zh fun e => HDg9xg10.out e.symm
            clear hb
            refine hK.out _ _ HSv4.out ?_
            clear hK K
            (try simp only [Act.put, zA4, zA5, zA6])
            generalize v3.heap.size = g10 at *
            generalize (v3.alloc (.cells #[.nilFunc, .nilFunc, .nilFunc] 33)) = v4 at *
            (refine wpOU_solo (zO rfl) ?_)
            intro K hK
            go_simp
            refine (HWc.out v4 _ _ _ _ _ _ HSv4.out).mono ?_
            rintro e v5 ⟨qo8, qp8, rfl, ho, hp, h1, h2, hb⟩
            have HSv5 := zh (HSv4.out.trans (hb.mono HSv4.out.size))
            have HW3v5 := zh (HW3v4.out.below hb)
            have HW4v5 := zh (HW4v4.out.below hb)
            have HRg9v5 := zh (HRg9v4.out.below hb HRg9v4.out.lt)
            have HRg10v5 := zh (HRg10v4.out.below hb HRg10v4.out.lt)
            have HN8xg9 := zh (ne_old HRg9v4.out.lt h2 h1)
            have HN8xg10 := zh (ne_old HRg10v4.out.lt h2 h1)
            have HW8v5 : Hid (Wrp v5 w8.heap.size qp8 qo8 gc 19 21 43 #[.pointer (some ⟨gow, 0, none⟩)] #[] #[.pointer (some ⟨go, 0, none⟩), .pointer (some ⟨gp, 0, none⟩), .pointer (some ⟨gt, 0, none⟩), .pointer (some ⟨gs, 0, none⟩)]) := zh ⟨hp, ho, zM HSv4.out.size h2, zM HSv4.out.size h1⟩
            clear ho hp h1 h2 hb
            refine hK.out _ _ HSv5.out ?_
            clear hK K
            (try simp only [Act.put, zA4, zA5, zA6])
            (refine wpOU_solo (zO rfl) ?_)
            intro K hK
            go_simp
            refine (HWc.out v5 _ _ _ _ _ _ HSv5.out).mono ?_
            rintro e v6 ⟨qo9, qp9, rfl, ho, hp, h1, h2, hb⟩
            have HSv6 := zh (HSv5.out.trans (hb.mono HSv5.out.size))
            have HW3v6 := zh (HW3v5.out.below hb)
            have HW4v6 := zh (HW4v5.out.below hb)
            have HW8v6 := zh (HW8v5.out.below hb)
            have HRg9v6 := zh (HRg9v5.out.below hb HRg9v5.out.lt)
            have HRg10v6 := zh (HRg10v5.out.below hb HRg10v5.out.lt)
            have HN9xg9 := zh (ne_old HRg9v5.out.lt h2 h1)
            have HN9xg10 := zh (ne_old HRg10v5.out.lt h2 h1)
            have HW9v6 : Hid (Wrp v6 w8.heap.size qp9 qo9 gc 28 30 31 #[.pointer (some ⟨qp8, 0, none⟩), .pointer (some ⟨qo8, 0, none⟩)] #[.pointer (some ⟨qp8, 0, none⟩), .pointer (some ⟨qo8, 0, none⟩)] #[.pointer (some ⟨qp8, 0, none⟩), .pointer (some ⟨qo8, 0, none⟩)]) := zh ⟨hp, ho, zM HSv5.out.size h2, zM HSv5.out.size h1⟩
            clear ho hp h1 h2 hb
            refine hK.out _ _ HSv6.out ?_
            clear hK K
            (try simp only [Act.put, zA4, zA5, zA6])
            (refine wpOU_solo (zO rfl) ?_)
            intro K hK
            rw [if_pos (by rfl)]
            refine wp_store_row _ _ _ rfl g9 #[.func (.func 28) #[] #[.pointer (some ⟨qp4, 0, none⟩), .pointer (some ⟨qo4, 0, none⟩)], .func (.func 30) #[] #[.pointer (some ⟨qp4, 0, none⟩), .pointer (some ⟨qo4, 0, none⟩)], .func (.func 31) #[] #[.pointer (some ⟨qp4, 0, none⟩), .pointer (some ⟨qo4, 0, none⟩)]] rfl rfl _ _ HRg9v6.out (by kernel_rfl) rfl (ops_one _ _ _ _ _ _) ?_
            have hm : Mut g9 v6 (v6.setRow g9 #[.func (.func 28) #[] #[.pointer (some ⟨qp4, 0, none⟩), .pointer (some ⟨qo4, 0, none⟩)], .func (.func 30) #[] #[.pointer (some ⟨qp4, 0, none⟩), .pointer (some ⟨qo4, 0, none⟩)], .func (.func 31) #[] #[.pointer (some ⟨qp4, 0, none⟩), .pointer (some ⟨qo4, 0, none⟩)]]) := Mut.of_else (Else.setRow v6 g9 _)
            have HSv7 := zh (HSv6.out.trans (hm.below HGg9.out HSv6.out.size))
            have HW3v7 := zh (HW3v6.out.mut hm HN3xg9.out)
            have HW4v7 := zh (HW4v6.out.mut hm HN4xg9.out)
            have HW8v7 := zh (HW8v6.out.mut hm HN8xg9.out)
            have HW9v7 := zh (HW9v6.out.mut hm HN9xg9.out)
            have HRg10v7 := zh (HRg10v6.out.mut hm HDg10xg9.out)
            have HRg9v7 := zh (HRg9v6.out.setRow #[.func (.func 28) #[] #[.pointer (some ⟨qp4, 0, none⟩), .pointer (some ⟨qo4, 0, none⟩)], .func (.func 30) #[] #[.pointer (some ⟨qp4, 0, none⟩), .pointer (some ⟨qo4, 0, none⟩)], .func (.func 31) #[] #[.pointer (some ⟨qp4, 0, none⟩), .pointer (some ⟨qo4, 0, none⟩)]])
            clear hm
            refine hK.out _ _ HSv7.out ?_
            clear hK K
            (try simp only [Act.put, zA4, zA5, zA6])
            generalize v6.setRow g9 #[.func (.func 28) #[] #[.pointer (some ⟨qp4, 0, none⟩), .pointer (some ⟨qo4, 0, none⟩)], .func (.func 30) #[] #[.pointer (some ⟨qp4, 0, none⟩), .pointer (some ⟨qo4, 0, none⟩)], .func (.func 31) #[] #[.pointer (some ⟨qp4, 0, none⟩), .pointer (some ⟨qo4, 0, none⟩)]] = v7 at *
            (refine wpOU_solo (zO rfl) ?_)
            intro K hK
            rw [if_pos (by rfl)]
            refine wp_store_row _ _ _ rfl g10 #[.func (.func 28) #[] #[.pointer (some ⟨qp9, 0, none⟩), .pointer (some ⟨qo9, 0, none⟩)], .func (.func 30) #[] #[.pointer (some ⟨qp9, 0, none⟩), .pointer (some ⟨qo9, 0, none⟩)], .func (.func 31) #[] #[.pointer (some ⟨qp9, 0, none⟩), .pointer (some ⟨qo9, 0, none⟩)]] rfl rfl _ _ HRg10v7.out (by kernel_rfl) rfl (ops_one _ _ _ _ _ _) ?_
            have hm : Mut g10 v7 (v7.setRow g10 #[.func (.func 28) #[] #[.pointer (some ⟨qp9, 0, none⟩), .pointer (some ⟨qo9, 0, none⟩)], .func (.func 30) #[] #[.pointer (some ⟨qp9, 0, none⟩), .pointer (some ⟨qo9, 0, none⟩)], .func (.func 31) #[] #[.pointer (some ⟨qp9, 0, none⟩), .pointer (some ⟨qo9, 0, none⟩)]]) := Mut.of_else (Else.setRow v7 g10 _)
            have HSv8 := zh (HSv7.out.trans (hm.below HGg10.out HSv7.out.size))
            have HW3v8 := zh (HW3v7.out.mut hm HN3xg10.out)
            have HW4v8 := zh (HW4v7.out.mut hm HN4xg10.out)
            have HW8v8 := zh (HW8v7.out.mut hm HN8xg10.out)
            have HW9v8 := zh (HW9v7.out.mut hm HN9xg10.out)
            have HRg9v8 := zh (HRg9v7.out.mut hm HDg9xg10.out)
            have HRg10v8 := zh (HRg10v7.out.setRow #[.func (.func 28) #[] #[.pointer (some ⟨qp9, 0, none⟩), .pointer (some ⟨qo9, 0, none⟩)], .func (.func 30) #[] #[.pointer (some ⟨qp9, 0, none⟩), .pointer (some ⟨qo9, 0, none⟩)], .func (.func 31) #[] #[.pointer (some ⟨qp9, 0, none⟩), .pointer (some ⟨qo9, 0, none⟩)]])
            clear hm
            refine hK.out _ _ HSv8.out ?_
            clear hK K
            (try simp only [Act.put, zA4, zA5, zA6])
            generalize v7.setRow g10 #[.func (.func 28) #[] #[.pointer (some ⟨qp9, 0, none⟩), .pointer (some ⟨qo9, 0, none⟩)], .func (.func 30) #[] #[.pointer (some ⟨qp9, 0, none⟩), .pointer (some ⟨qo9, 0, none⟩)], .func (.func 31) #[] #[.pointer (some ⟨qp9, 0, none⟩), .pointer (some ⟨qo9, 0, none⟩)]] = v8 at *
            refine wpOU_done ?_
            go_wp2
            go_meet
            case rel => exact ⟨g9, g10, qp3, qo3, qp4, qo4, qp8, qo8, qp9, qo9, rfl, rfl, zh ⟨HGg9.out, HGg10.out⟩, HRg9v8.out, HRg10v8.out, HW3v8.out, HW4v8.out, HW8v8.out, HW9v8.out, HSv8.out⟩
          ·(refine wpOU_solo (zO rfl) ?_)
           intro K hK
           go_simp
           have hb : Below v2.heap.size v2 (v2.alloc (.cells #[.nilFunc, .nilFunc, .nilFunc] 33)) := (zB _ _).alloc (zL _) _
           have HSv3 := zh (HSv2.out.trans (hb.mono HSv2.out.size))
           have HW3v3 := zh (HW3v2.out.below hb)
           have HW4v3 := zh (HW4v2.out.below hb)
           have HRg10v3 : Hid (RowAt (v2.alloc (.cells #[.nilFunc, .nilFunc, .nilFunc] 33)) v2.heap.size 33 #[.nilFunc, .nilFunc, .nilFunc]) := zh (RowAt.new _ _ _)
           have HGg10 : Hid (w8.heap.size ≤ v2.heap.size) := zh HSv2.out.size
           have HN3xg10 := zh HW3v2.out.ne_new
           have HN4xg10 := zh HW4v2.out.ne_new
           clear hb
           refine hK.out _ _ HSv3.out ?_
           clear hK K
           (try simp only [Act.put, zA4, zA5, zA6])
           generalize v2.heap.size = g10 at *
           generalize (v2.alloc (.cells #[.nilFunc, .nilFunc, .nilFunc] 33)) = v3 at *
           refine wpOU_two ?_ ?_
           ·(refine wpOU_solo (zO rfl) ?_)
            intro K hK
            go_simp
            refine (HWc.out v3 _ _ _ _ _ _ HSv3.out).mono ?_
            rintro e v4 ⟨qo8, qp8, rfl, ho, hp, h1, h2, hb⟩
            have HSv4 := zh (HSv3.out.trans (hb.mono HSv3.out.size))
            have HW3v4 := zh (HW3v3.out.below hb)
            have HW4v4 := zh (HW4v3.out.below hb)
            have HRg10v4 := zh (HRg10v3.out.below hb HRg10v3.out.lt)
            have HN8xg10 := zh (ne_old HRg10v3.out.lt h2 h1)
            have HW8v4 : Hid (Wrp v4 w8.heap.size qp8 qo8 gc 19 21 43 #[.pointer (some ⟨gow, 0, none⟩)] #[] #[.pointer (some ⟨go, 0, none⟩), .pointer (some ⟨gp, 0, none⟩), .pointer (some ⟨gt, 0, none⟩), .pointer (some ⟨gs, 0, none⟩)]) := zh ⟨hp, ho, zM HSv3.out.size h2, zM HSv3.out.size h1⟩
            clear ho hp h1 h2 hb
            refine hK.out _ _ HSv4.out ?_
            clear hK K
            (try simp only [Act.put, zA4, zA5, zA6])
            refine wpOU_two ?_ ?_
            ·(refine wpOU_solo (zO rfl) ?_)
             intro K hK
             go_simp
             refine (HWc.out v4 _ _ _ _ _ _ HSv4.out).mono ?_
             rintro e v5 ⟨qo9, qp9, rfl, ho, hp, h1, h2, hb⟩
             have HSv5 := zh (HSv4.out.trans (hb.mono HSv4.out.size))
             have HW3v5 := zh (HW3v4.out.below hb)
             have HW4v5 := zh (HW4v4.out.below hb)
             have HW8v5 := zh (HW8v4.out.below hb)
             have HRg10v5 := zh (HRg10v4.out.below hb HRg10v4.out.lt)
             have HN9xg10 := zh (ne_old HRg10v4.out.lt h2 h1)
             have HW9v5 : Hid (Wrp v5 w8.heap.size qp9 qo9 gc 28 30 31 #[.pointer (some ⟨qp8, 0, none⟩), .pointer (some ⟨qo8, 0, none⟩)] #[.pointer (some ⟨qp8, 0, none⟩), .pointer (some ⟨qo8, 0, none⟩)] #[.pointer (some ⟨qp8, 0, none⟩), .pointer (some ⟨qo8, 0, none⟩)]) := zh ⟨hp, ho, zM HSv4.out.size h2, zM HSv4.out.size h1⟩
             clear ho hp h1 h2 hb
             refine hK.out _ _ HSv5.out ?_
             clear hK K
             (try simp only [Act.put, zA4, zA5, zA6])
             (refine wpOU_solo (zO rfl) ?_)
             intro K hK
             go_simp
             have hb : Below v5.heap.size v5 (v5.alloc (.cells #[.nilFunc, .nilFunc, .nilFunc] 33)) := (zB _ _).alloc (zL _) _
             have HSv6 := zh (HSv5.out.trans (hb.mono HSv5.out.size))
             have HW3v6 := zh (HW3v5.out.below hb)
             have HW4v6 := zh (HW4v5.out.below hb)
             have HW8v6 := zh (HW8v5.out.below hb)
             have HW9v6 := zh (HW9v5.out.below hb)
             have HRg10v6 := zh (HRg10v5.out.below hb HRg10v5.out.lt)
             have HRg9v6 : Hid (RowAt (v5.alloc (.cells #[.nilFunc, .nilFunc, .nilFunc] 33)) v5.heap.size 33 #[.nilFunc, .nilFunc, .nilFunc]) := zh (RowAt.new _ _ _)
             have HGg9 : Hid (w8.heap.size ≤ v5.heap.size) := zh HSv5.out.size
             have HN3xg9 := zh HW3v5.out.ne_new
             have HN4xg9 := zh HW4v5.out.ne_new
             have HN8xg9 := zh HW8v5.out.ne_new
             have HN9xg9 := zh HW9v5.out.ne_new
             have HDg10xg9 : Hid (g10 ≠ v5.heap.size) := zh (Nat.ne_of_lt HRg10v5.out.lt)
             have HDg9xg10 : Hid (v5.heap.size ≠ g10) := zh fun e => HDg10xg9.out e.symm
             clear hb
             refine hK.out _ _ HSv6.out ?_
             clear hK K
             (try simp only [Act.put, zA4, zA5, zA6])
             generalize v5.heap.size = g9 at *
             generalize (v5.alloc (.cells #[.nilFunc, .nilFunc, .nilFunc] 33)) = v6 at *
             (refine wpOU_solo (zO rfl) ?_)
             intro K hK
             rw [if_pos (by rfl)]
             refine wp_store_row _ _ _ rfl g9 #[.func (.func 28) #[] #[.pointer (some ⟨qp4, 0, none⟩), .pointer (some ⟨qo4, 0, none⟩)], .func (.func 30) #[] #[.pointer (some ⟨qp4, 0, none⟩), .pointer (some ⟨qo4, 0, none⟩)], .func (.func 31) #[] #[.pointer (some ⟨qp4, 0, none⟩), .pointer (some ⟨qo4, 0, none⟩)]] rfl rfl _ _ HRg9v6.out (by kernel_rfl) rfl (ops_one _ _ _ _ _ _) ?_
             have hm : Mut g9 v6 (v6.setRow g9 #[.func (.func 28) #[] #[.pointer (some ⟨qp4, 0, none⟩), .pointer (some ⟨qo4, 0, none⟩)], .func (.func 30) #[] #[.pointer (some ⟨qp4, 0, none⟩), .pointer (some ⟨qo4, 0, none⟩)], .func (.func 31) #[] #[.pointer (some ⟨qp4, 0, none⟩), .pointer (some ⟨qo4, 0, none⟩)]]) := Mut.of_else (Else.setRow v6 g9 _)
             have HSv7 := zh (HSv6.out.trans (hm.below HGg9.out HSv6.out.size))
             have HW3v7 := zh (HW3v6.out.mut hm HN3xg9.out)
             have HW4v7 := zh (HW4v6.out.mut hm HN4xg9.out)
             have HW8v7 := zh (HW8v6.out.mut hm HN8xg9.out)
             have HW9v7 := zh (HW9v6.out.mut hm HN9xg9.out)
             have HRg10v7 := zh (HRg10v6.out.mut hm HDg10xg9.out)
             have HRg9v7 := zh (HRg9v6.out.setRow #[.func (.func 28) #[] #[.pointer (some ⟨qp4, 0, none⟩), .pointer (some ⟨qo4, 0, none⟩)], .func (.func 30) #[] #[.pointer (some ⟨qp4, 0, none⟩), .pointer (some ⟨qo4, 0, none⟩)], .func (.func 31) #[] #[.pointer (some ⟨qp4, 0, none⟩), .pointer (some ⟨qo4, 0, none⟩)]])
             clear hm
             refine hK.out _ _ HSv7.out ?_
             clear hK K
             (try simp only [Act.put, zA4, zA5, zA6])
             generalize v6.setRow g9 #[.func (.func 28) #[] #[.pointer (some ⟨qp4, 0, none⟩), .pointer (some ⟨qo4, 0, none⟩)], .func (.func 30) #[] #[.pointer (some ⟨qp4, 0, none⟩), .pointer (some ⟨qo4, 0, none⟩)], .func (.func 31) #[] #[.pointer (some ⟨qp4, 0, none⟩), .pointer (some ⟨qo4, 0, none⟩)]] = v7 at *
             (refine wpOU_solo (zO rfl) ?_)
             intro K hK
             rw [if_pos (by rfl)]
             refine wp_store_row _ _ _ rfl g10 #[.func (.func 28) #[] #[.pointer (some ⟨qp9, 0, none⟩), .pointer (some ⟨qo9, 0, none⟩)], .func (.func 30) #[] #[.pointer (some ⟨qp9, 0, none⟩), .pointer (some ⟨qo9, 0, none⟩)], .func (.func 31) #[] #[.pointer (some ⟨qp9, 0, none⟩), .pointer (some ⟨qo9, 0, none⟩)]] rfl rfl _ _ HRg10v7.out (by kernel_rfl) rfl (ops_one _ _ _ _ _ _) ?_
             have hm : Mut g10 v7 (v7.setRow g10 #[.func (.func 28) #[] #[.pointer (some ⟨qp9, 0, none⟩), .pointer (some ⟨qo9, 0, none⟩)], .func (.func 30) #[] #[.pointer (some ⟨qp9, 0, none⟩), .pointer (some ⟨qo9, 0, none⟩)], .func (.func 31) #[] #[.pointer (some ⟨qp9, 0, none⟩), .pointer (some ⟨qo9, 0, none⟩)]]) := Mut.of_else (Else.setRow v7 g10 _)
             have HSv8 := zh (HSv7.out.trans (hm.below HGg10.out HSv7.out.size))
             have HW3v8 := zh (HW3v7.out.mut hm HN3xg10.out)
             have HW4v8 := zh (HW4v7.out.mut hm HN4xg10.out)
             have HW8v8 := zh (HW8v7.out.mut hm HN8xg10.out)
             have HW9v8 := zh (HW9v7.out.mut hm HN9xg10.out)
             have HRg9v8 := zh (HRg9v7.out.mut hm HDg9xg10.out)
             have HRg10v8 := zh (HRg10v7.out.setRow #[.func (.func 28) #[] #[.pointer (some ⟨qp9, 0, none⟩), .pointer (some ⟨qo9, 0, none⟩)], .func (.func 30) #[] #[.pointer (some ⟨qp9, 0, none⟩), .pointer (some ⟨qo9, 0, none⟩)], .func (.func 31) #[] #[.pointer (some ⟨qp9, 0, none⟩), .pointer (some ⟨qo9, 0, none⟩)]])
             clear hm
             refine hK.out _ _ HSv8.out ?_
             clear hK K
             (try simp only [Act.put, zA4, zA5, zA6])
             generalize v7.setRow g10 #[.func (.func 28) #[] #[.pointer (some ⟨qp9, 0, none⟩), .pointer (some ⟨qo9, 0, none⟩)], .func (.func 30) #[] #[.pointer (some ⟨qp9, 0, none⟩), .pointer (some ⟨qo9, 0, none⟩)], .func (.func 31) #[] #[.pointer (some ⟨qp9, 0, none⟩), .pointer (some ⟨qo9, 0, none⟩)]] = v8 at *
             refine wpOU_done ?_
             go_wp2
             go_meet
             case rel => exact ⟨g9, g10, qp3, qo3, qp4, qo4, qp8, qo8, qp9, qo9, rfl, rfl, zh ⟨HGg9.out, HGg10.out⟩, HRg9v8.out, HRg10v8.out, HW3v8.out, HW4v8.out, HW8v8.out, HW9v8.out, HSv8.out⟩
            ·(refine wpOU_solo (zO rfl) ?_)
             intro K hK
             go_simp
             have hb : Below v4.heap.size v4 (v4.alloc (.cells #[.nilFunc, .nilFunc, .nilFunc] 33)) := (zB _ _).alloc (zL _) _
             have HSv5 := zh (HSv4.out.trans (hb.mono HSv4.out.size))
             have HW3v5 := zh (HW3v4.out.below hb)
             have HW4v5 := zh (HW4v4.out.below hb)
             have HW8v5 := zh (HW8v4.out.below hb)
             have HRg10v5 := zh (HRg10v4.out.below hb HRg10v4.out.lt)
             have HRg9v5 : Hid (RowAt (v4.alloc (.cells #[.nilFunc, .nilFunc, .nilFunc] 33)) v4.heap.size 33 #[.nilFunc, .nilFunc, .nilFunc]) := zh (RowAt.new _ _ _)
             have HGg9 : Hid (w8.heap.size ≤ v4.heap.size) := zh HSv4.out.size
             have HN3xg9 := zh HW3v4.out.ne_new
             have HN4xg9 := zh HW4v4.out.ne_new
             have HN8xg9 := zh HW8v4.out.ne_new
             have HDg10xg9 : Hid (g10 ≠ v4.heap.size) := zh (Nat.ne_of_lt HRg10v4.out.lt)
             have HDg9xg10 : Hid (v4.heap.size ≠ g10) := zh fun e => HDg10xg9.out e.symm
             clear hb
             refine hK.out _ _ HSv5.out ?_
             clear hK K
             (try simp only [Act.put, zA4, zA5, zA6])
             generalize v4.heap.size = g9 at *
             generalize (v4.alloc (.cells #[.nilFunc, .nilFunc, .nilFunc] 33)) = v5 at *
             (refine wpOU_solo (zO rfl) ?_)
             intro K hK
             go_simp
             refine (HWc.out v5 _ _ _ _ _ _ HSv5.out).mono ?_
             rintro e v6 ⟨qo9, qp9, rfl, ho, hp, h1, h2, hb⟩
             have HSv6 := zh (HSv5.out.trans (hb.mono HSv5.out.size))
             have HW3v6 := zh (HW3v5.out.below hb)
             have HW4v6 := zh (HW4v5.out.below hb)
             have HW8v6 := zh (HW8v5.out.below hb)
             have HRg10v6 := zh (HRg10v5.out.below hb HRg10v5.out.lt)
             have HRg9v6 := zh (HRg9v5.out.below hb HRg9v5.out.lt)
             have HN9xg10 := zh (ne_old HRg10v5.out.lt h2 h1)
             have HN9xg9 := zh (ne_old HRg9v5.out.lt h2 h1)
             have HW9v6 : Hid (Wrp v6 w8.heap.size qp9 qo9 gc 28 30 31 #[.pointer (some ⟨qp8, 0, none⟩), .pointer (some ⟨qo8, 0, none⟩)] #[.pointer (some ⟨qp8, 0, none⟩), .pointer (some ⟨qo8, 0, none⟩)] #[.pointer (some ⟨qp8, 0, none⟩), .pointer (some ⟨qo8, 0, none⟩)]) := zh ⟨hp, ho, zM HSv5.out.size h2, zM HSv5.out.size h1⟩
             clear ho hp h1 h2 hb
             refine hK.out _ _ HSv6.out ?_
             clear hK K
             (try simp only [Act.put, zA4, zA5, zA6])
             (refine wpOU_solo (zO rfl) ?_)
             intro K hK
             rw [if_pos (by rfl)]
             refine wp_store_row _ _ _ rfl g9 #[.func (.func 28) #[] #[.pointer (some ⟨qp4, 0, none⟩), .pointer (some ⟨qo4, 0, none⟩)], .func (.func 30) #[] #[.pointer (some ⟨qp4, 0, none⟩), .pointer (some ⟨qo4, 0, none⟩)], .func (.func 31) #[] #[.pointer (some ⟨qp4, 0, none⟩), .pointer (some ⟨qo4, 0, none⟩)]] rfl rfl _ _ HRg9v6.out (by kernel_rfl) rfl (ops_one _ _ _ _ _ _) ?_
             have hm : Mut g9 v6 (v6.setRow g9 #[.func (.func 28) #[] #[.pointer (some ⟨qp4, 0, none⟩), .pointer (some ⟨qo4, 0, none⟩)], .func (.func 30) #[] #[.pointer (some ⟨qp4, 0, none⟩), .pointer (some ⟨qo4, 0, none⟩)], .func (.func 31) #[] #[.pointer (some ⟨qp4, 0, none⟩), .pointer (some ⟨qo4, 0, none⟩)]]) := Mut.of_else (Else.setRow v6 g9 _)
             have HSv7 := zh (HSv6.out.trans (hm.below HGg9.out HSv6.out.size))
             have HW3v7 := zh (HW3v6.out.mut hm HN3xg9.out)
             have HW4v7 := zh (HW4v6.out.mut hm HN4xg9.out)
             have HW8v7 := zh (HW8v6.out.mut hm HN8xg9.out)
             have HW9v7 := zh (HW9v6.out.mut hm HN9xg9.out)
             have HRg10v7 := zh (HRg10v6.out.mut hm HDg10xg9.out)
             have HRg9v7 := zh (HRg9v6.out.setRow #[.func (.func 28) #[] #[.pointer (some ⟨qp4, 0, none⟩), .pointer (some ⟨qo4, 0, none⟩)], .func (.func 30) #[] #[.pointer (some ⟨qp4, 0, none⟩), .pointer (some ⟨qo4, 0, none⟩)], .func (.func 31) #[] #[.pointer (some ⟨qp4, 0, none⟩), .pointer (some ⟨qo4, 0, none⟩)]])
             clear hm
             refine hK.out _ _ HSv7.out ?_
             clear hK K
             (try simp only [Act.put, zA4, zA5, zA6])
             generalize v6.setRow g9 #[.func (.func 28) #[] #[.pointer (some ⟨qp4, 0, none⟩), .pointer (some ⟨qo4, 0, none⟩)], .func (.func 30) #[] #[.pointer (some ⟨qp4, 0, none⟩), .pointer (some ⟨qo4, 0, none⟩)], .func (.func 31) #[] #[.pointer (some ⟨qp4, 0, none⟩), .pointer (some ⟨qo4, 0, none⟩)]] = v7 at *
             (refine wpOU_solo (zO rfl) ?_)
             intro K hK
             rw [if_pos (by rfl)]
             refine wp_store_row _ _ _ rfl g10 #[.func (.func 28) #[] #[.pointer (some ⟨qp9, 0, none⟩), .pointer (some ⟨qo9, 0, none⟩)], .func (.func 30) #[] #[.pointer (some ⟨qp9, 0, none⟩), .pointer (some ⟨qo9, 0, none⟩)], .func (.func 31) #[] #[.pointer (some ⟨qp9, 0, none⟩), .pointer (some ⟨qo9, 0, none⟩)]] rfl rfl _ _ HRg10v7.out (by kernel_rfl) rfl (ops_one _ _ _ _ _ _) ?_
             have hm : Mut g10 v7 (v7.setRow g10 #[.func (.func 28) #[] #[.pointer (some ⟨qp9, 0, none⟩), .pointer (some ⟨qo9, 0, none⟩)], .func (.func 30) #[] #[.pointer (some ⟨qp9, 0, none⟩), .pointer (some ⟨qo9, 0, none⟩)], .func (.func 31) #[] #[.pointer (some ⟨qp9, 0, none⟩), .pointer (some ⟨qo9, 0, none⟩)]]) := Mut.of_else (Else.setRow v7 g10 _)
             have HSv8 := zh (HSv7.out.trans (hm.below HGg10.out HSv7.out.size))
             have HW3v8 := zh (HW3v7.out.mut hm HN3xg10.out)
             have HW4v8 := zh (HW4v7.out.mut hm HN4xg10.out)
             have HW8v8 := zh (HW8v7.out.mut hm HN8xg10.out)
             have HW9v8 := zh (HW9v7.out.mut hm HN9xg10.out)
             have HRg9v8 := zh (HRg9v7.out.mut hm HDg9xg10.out)
             have HRg10v8 := zh (HRg10v7.out.setRow #[.func (.func 28) #[] #[.pointer (some ⟨qp9, 0, none⟩), .pointer (some ⟨qo9, 0, none⟩)], .func (.func 30) #[] #[.pointer (some ⟨qp9, 0, none⟩), .pointer (some ⟨qo9, 0, none⟩)], .func (.func 31) #[] #[.pointer (some ⟨qp9, 0, none⟩), .pointer (some ⟨qo9, 0, none⟩)]])
             clear hm
             refine hK.out _ _ HSv8.out ?_
             clear hK K
             (try simp only [Act.put, zA4, zA5, zA6])
             generalize v7.setRow g10 #[.func (.func 28) #[] #[.pointer (some ⟨qp9, 0, none⟩), .pointer (some ⟨qo9, 0, none⟩)], .func (.func 30) #[] #[.pointer (some ⟨qp9, 0, none⟩), .pointer (some ⟨qo9, 0, none⟩)], .func (.func 31) #[] #[.pointer (some ⟨qp9, 0, none⟩), .pointer (some ⟨qo9, 0, none⟩)]] = v8 at *
             refine wpOU_done ?_
             go_wp2
             go_meet
             case rel => exact ⟨g9, g10, qp3, qo3, qp4, qo4, qp8, qo8, qp9, qo9, rfl, rfl, zh ⟨HGg9.out, HGg10.out⟩, HRg9v8.out, HRg10v8.out, HW3v8.out, HW4v8.out, HW8v8.out, HW9v8.out, HSv8.out⟩
           ·(refine wpOU_solo (zO rfl) ?_)
            intro K hK
            go_simp
            have hb : Below v3.heap.size v3 (v3.alloc (.cells #[.nilFunc, .nilFunc, .nilFunc] 33)) := (zB _ _).alloc (zL _) _
            have HSv4 := zh (HSv3.out.trans (hb.mono HSv3.out.size))
            have HW3v4 := zh (HW3v3.out.below hb)
            have HW4v4 := zh (HW4v3.out.below hb)
            have HRg10v4 := zh (HRg10v3.out.below hb HRg10v3.out.lt)
            have HRg9v4 : Hid (RowAt (v3.alloc (.cells #[.nilFunc, .nilFunc, .nilFunc] 33)) v3.heap.size 33 #[.nilFunc, .nilFunc, .nilFunc]) := zh (RowAt.new _ _ _)
            have HGg9 : Hid (w8.heap.size ≤ v3.heap.size) := zh HSv3.out.size
            have HN3xg9 := zh HW3v3.out.ne_new
            have HN4xg9 := zh HW4v3.out.ne_new
            have HDg10xg9 : Hid (g10 ≠ v3.heap.size) := zh (Nat.ne_of_lt HRg10v3.out.lt)
            have HDg9xg10 : Hid (v3.heap.size ≠ g10) := zh fun e => HDg10xg9.out e.symm
            clear hb
            refine hK.out _ _ HSv4.out ?_
            clear hK K
            (try simp only [Act.put, zA4, zA5, zA6])
            generalize v3.heap.size = g9 at *
            generalize (v3.alloc (.cells #[.nilFunc, .nilFunc, .nilFunc] 33)) = v4 at *
            (refine wpOU_solo (zO rfl) ?_)
            intro K hK
            go_simp
            refine (HWc.out v4 _ _ _ _ _ _ HSv4.out).mono ?_
            rintro e v5 ⟨qo8, qp8, rfl, ho, hp, h1, h2, hb⟩
            have HSv5 := zh (HSv4.out.trans (hb.mono HSv4.out.size))
            have HW3v5 := zh (HW3v4.out.below hb)
            have HW4v5 := zh (HW4v4.out.below hb)
            have HRg10v5 := zh (HRg10v4.out.below hb HRg10v4.out.lt)
            have HRg9v5 := zh (HRg9v4.out.below hb HRg9v4.out.lt)
            have HN8xg10 := zh (ne_old HRg10v4.out.lt h2 h1)
            have HN8xg9 := zh (ne_old HRg9v4.out.lt h2 h1)
            have HW8v5 : Hid (Wrp v5 w8.heap.size qp8 qo8 gc 19 21 43 #[.pointer (some ⟨gow, 0, none⟩)] #[] #[.pointer (some ⟨go, 0, none⟩), .pointer (some ⟨gp, 0, none⟩), .pointer (some ⟨gt, 0, none⟩), .pointer (some ⟨gs, 0, none⟩)]) := zh ⟨hp, ho, zM HSv4.out.size h2, zM HSv4.out.size h1⟩
            clear ho hp h1 h2 hb
            refine hK.out _ _ HSv5.out ?_
            clear hK K
            (try simp only [Act.put, zA4, zA5, zA6])
            (refine wpOU_solo (zO rfl) ?_)
            intro K hK
            go_simp
            refine (HWc.out v5 _ _ _ _ _ _ HSv5.out).mono ?_
            rintro e v6 ⟨qo9, qp9, rfl, ho, hp, h1, h2, hb⟩
            have HSv6 := zh (HSv5.out.trans (hb.mono HSv5.out.size))
            have HW3v6 := zh (HW3v5.out.below hb)
            have HW4v6 := zh (HW4v5.out.below hb)
            have HW8v6 := zh (HW8v5.out.below hb)
            have HRg10v6 := zh (HRg10v5.out.below hb HRg10v5.out.lt)
            have HRg9v6 := zh (HRg9v5.out.below hb HRg9v5.out.lt)
            have HN9xg10 := zh (ne_old HRg10v5.out.lt h2 h1)
            have HN9xg9 := zh (ne_old HRg9v5.out.lt h2 h1)
            have HW9v6 : Hid (Wrp v6 w8.heap.size qp9 qo9 gc 28 30 31 #[.pointer (some ⟨qp8, 0, none⟩), .pointer (some ⟨qo8, 0, none⟩)] #[.pointer (some ⟨qp8, 0, none⟩), .pointer (some ⟨qo8, 0, none⟩)] #[.pointer (some ⟨qp8, 0, none⟩), .pointer (some ⟨qo8, 0, none⟩)]) := zh ⟨hp, ho, zM HSv5.out.size h2, zM HSv5.out.size h1⟩
            clear ho hp h1 h2 hb
            refine hK.out _ _ HSv6.out ?_
            clear hK K
            (try simp only [Act.put, zA4, zA5, zA6])
            (refine wpOU_solo (zO rfl) ?_)
            intro K hK
            rw [if_pos (by rfl)]
            refine wp_store_row _ _ _ rfl g9 #[.func (.func 28) #[] #[.pointer (some ⟨qp4, 0, none⟩), .pointer (some ⟨qo4, 0, none⟩)], .func (.func 30) #[] #[.pointer (some ⟨qp4, 0, none⟩), .pointer (some ⟨qo4, 0, none⟩)], .func (.func 31) #[] #[.pointer (some ⟨qp4, 0, none⟩), .pointer (some ⟨qo4, 0, none⟩)]] rfl rfl _ _ HRg9v6.out (by kernel_rfl) rfl (ops_one _ _ _ _ _ _) ?_
            have hm : Mut g9 v6 (v6.setRow g9 #[.func (.func 28) #[] #[.pointer (some ⟨qp4, 0, none⟩), .pointer (some ⟨qo4, 0, none⟩)], .func (.func 30) #[] #[.pointer (some ⟨qp4, 0, none⟩), .pointer (some ⟨qo4, 0, none⟩)], .func (.func 31) #[] #[.pointer (some ⟨qp4, 0, none⟩), .pointer (some ⟨qo4, 0, none⟩)]]) := Mut.of_else (Else.setRow v6 g9 _)
            have HSv7 := zh (HSv6.out.trans (hm.below HGg9.out HSv6.out.size))
            have HW3v7 := zh (HW3v6.out.mut hm HN3xg9.out)
            have HW4v7 := zh (HW4v6.out.mut hm HN4xg9.out)
            have HW8v7 := zh (HW8v6.out.mut hm HN8xg9.out)
            have HW9v7 := zh (HW9v6.out.mut hm HN9xg9.out)
            have HRg10v7 := zh (HRg10v6.out.mut hm HDg10xg9.out)
            have HRg9v7 := zh (HRg9v6.out.setRow #[.func (.func 28) #[] #[.pointer (some ⟨qp4, 0, none⟩), .pointer (some ⟨qo4, 0, none⟩)], .func (.func 30) #[] #[.pointer (some ⟨qp4, 0, none⟩), .pointer (some ⟨qo4, 0, none⟩)], .func (.func 31) #[] #[.pointer (some ⟨qp4, 0, none⟩), .pointer (some ⟨qo4, 0, none⟩)]])
            clear hm
            refine hK.out _ _ HSv7.out ?_
            clear hK K
            (try simp only [Act.put, zA4, zA5, zA6])
            generalize v6.setRow g9 #[.func (.func 28) #[] #[.pointer (some ⟨qp4, 0, none⟩), .pointer (some ⟨qo4, 0, none⟩)], .func (.func 30) #[] #[.pointer (some ⟨qp4, 0, none⟩), .pointer (some ⟨qo4, 0, none⟩)], .func (.func 31) #[] #[.pointer (some ⟨qp4, 0, none⟩), .pointer (some ⟨qo4, 0, none⟩)]] = v7 at *
            (refine wpOU_solo (zO rfl) ?_)
            intro K hK
            rw [if_pos (by rfl)]
            refine wp_store_row _ _ _ rfl g10 #[.func (.func 28) #[] #[.pointer (some ⟨qp9, 0, none⟩), .pointer (some ⟨qo9, 0, none⟩)], .func (.func 30) #[] #[.pointer (some ⟨qp9, 0, none⟩), .pointer (some ⟨qo9, 0, none⟩)], .func (.func 31) #[] #[.pointer (some ⟨qp9, 0, none⟩), .pointer (some ⟨qo9, 0, none⟩)]] rfl rfl _ _ HRg10v7.out (by kernel_rfl) rfl (ops_one _ _ _ _ _ _) ?_
            have hm : Mut g10 v7 (v7.setRow g10 #[.func (.func 28) #[] #[.pointer (some ⟨qp9, 0, none⟩), .pointer (some ⟨qo9, 0, none⟩)], .func (.func 30) #[] #[.pointer (some ⟨qp9, 0, none⟩), .pointer (some ⟨qo9, 0, none⟩)], .func (.func 31) #[] #[.pointer (some ⟨qp9, 0, none⟩), .pointer (some ⟨qo9, 0, none⟩)]]) := Mut.of_else (Else.setRow v7 g10 _)
            have HSv8 := zh (HSv7.out.trans (hm.below HGg10.out HSv7.out.size))
            have HW3v8 := zh (HW3v7.out.mut hm HN3xg10.out)
            have HW4v8 := zh (HW4v7.out.mut hm HN4xg10.out)
            have HW8v8 := zh (HW8v7.out.mut hm HN8xg10.out)
            have HW9v8 := zh (HW9v7.out.mut hm HN9xg10.out)
            have HRg9v8 := zh (HRg9v7.out.mut hm HDg9xg10.out)
            have HRg10v8 := zh (HRg10v7.out.setRow #[.func (.func 28) #[] #[.pointer (some ⟨qp9, 0, none⟩), .pointer (some ⟨qo9, 0, none⟩)], .func (.func 30) #[] #[.pointer (some ⟨qp9, 0, none⟩), .pointer (some ⟨qo9, 0, none⟩)], .func (.func 31) #[] #[.pointer (some ⟨qp9, 0, none⟩), .pointer (some ⟨qo9, 0, none⟩)]])
            clear hm
            refine hK.out _ _ HSv8.out ?_
            clear hK K
            (try simp only [Act.put, zA4, zA5, zA6])
            generalize v7.setRow g10 #[.func (.func 28) #[] #[.pointer (some ⟨qp9, 0, none⟩), .pointer (some ⟨qo9, 0, none⟩)], .func (.func 30) #[] #[.pointer (some ⟨qp9, 0, none⟩), .pointer (some ⟨qo9, 0, none⟩)], .func (.func 31) #[] #[.pointer (some ⟨qp9, 0, none⟩), .pointer (some ⟨qo9, 0, none⟩)]] = v8 at *
            refine wpOU_done ?_
            go_wp2
            go_meet
            case rel => exact ⟨g9, g10, qp3, qo3, qp4, qo4, qp8, qo8, qp9, qo9, rfl, rfl, zh ⟨HGg9.out, HGg10.out⟩, HRg9v8.out, HRg10v8.out, HW3v8.out, HW4v8.out, HW8v8.out, HW9v8.out, HSv8.out⟩
         ·(refine wpOU_solo (zO rfl) ?_)
          intro K hK
          go_simp
          have hb : Below v1.heap.size v1 (v1.alloc (.cells #[.nilFunc, .nilFunc, .nilFunc] 33)) := (zB _ _).alloc (zL _) _
          have HSv2 := zh (HSv1.out.trans (hb.mono HSv1.out.size))
          have HW3v2 := zh (HW3v1.out.below hb)
          have HRg9v2 : Hid (RowAt (v1.alloc (.cells #[.nilFunc, .nilFunc, .nilFunc] 33)) v1.heap.size 33 #[.nilFunc, .nilFunc, .nilFunc]) := zh (RowAt.new _ _ _)
          have HGg9 : Hid (w8.heap.size ≤ v1.heap.size) := zh HSv1.out.size
          have HN3xg9 := zh HW3v1.out.ne_new
          clear hb
          refine hK.out _ _ HSv2.out ?_
          clear hK K
          (try simp only [Act.put, zA4, zA5, zA6])
          generalize v1.heap.size = g9 at *
          generalize (v1.alloc (.cells #[.nilFunc, .nilFunc, .nilFunc] 33)) = v2 at *
          refine wpOU_two ?_ ?_
          ·(refine wpOU_solo (zO rfl) ?_)
           intro K hK
           go_simp
           refine (HWa.out v2 _ _ _ _ _ _ HSv2.out).mono ?_
           rintro e v3 ⟨qo4, qp4, rfl, ho, hp, h1, h2, hb⟩
           have HSv3 := zh (HSv2.out.trans (hb.mono HSv2.out.size))
           have HW3v3 := zh (HW3v2.out.below hb)
           have HRg9v3 := zh (HRg9v2.out.below hb HRg9v2.out.lt)
           have HN4xg9 := zh (ne_old HRg9v2.out.lt h2 h1)
           have HW4v3 : Hid (Wrp v3 w8.heap.size qp4 qo4 ga 28 30 31 #[.pointer (some ⟨qp3, 0, none⟩), .pointer (some ⟨qo3, 0, none⟩)] #[.pointer (some ⟨qp3, 0, none⟩), .pointer (some ⟨qo3, 0, none⟩)] #[.pointer (some ⟨qp3, 0, none⟩), .pointer (some ⟨qo3, 0, none⟩)]) := zh ⟨hp, ho, zM HSv2.out.size h2, zM HSv2.out.size h1⟩
           clear ho hp h1 h2 hb
           refine hK.out _ _ HSv3.out ?_
           clear hK K
           (try simp only [Act.put, zA4, zA5, zA6])
           refine wpOU_two ?_ ?_
           ·(refine wpOU_solo (zO rfl) ?_)
            intro K hK
            go_simp
            refine (HWc.out v3 _ _ _ _ _ _ HSv3.out).mono ?_
            rintro e v4 ⟨qo8, qp8, rfl, ho, hp, h1, h2, hb⟩
            have HSv4 := zh (HSv3.out.trans (hb.mono HSv3.out.size))
            have HW3v4 := zh (HW3v3.out.below hb)
            have HW4v4 := zh (HW4v3.out.below hb)
            have HRg9v4 := zh (HRg9v3.out.below hb HRg9v3.out.lt)
            have HN8xg9 := zh (ne_old HRg9v3.out.lt h2 h1)
            have HW8v4 : Hid (Wrp v4 w8.heap.size qp8 qo8 gc 19 21 43 #[.pointer (some ⟨gow, 0, none⟩)] #[] #[.pointer (some ⟨go, 0, none⟩), .pointer (some ⟨gp, 0, none⟩), .pointer (some ⟨gt, 0, none⟩), .pointer (some ⟨gs, 0, none⟩)]) := zh ⟨hp, ho, zM HSv3.out.size h2, zM HSv3.out.size h1⟩
            clear ho hp h1 h2 hb
            refine hK.out _ _ HSv4.out ?_
            clear hK K
            (try simp only [Act.put, zA4, zA5, zA6])
            refine wpOU_two ?_ ?_
            ·(refine wpOU_solo (zO rfl) ?_)
             intro K hK
             go_simp
             refine (HWc.out v4 _ _ _ _ _ _ HSv4.out).mono ?_
             rintro e v5 ⟨qo9, qp9, rfl, ho, hp, h1, h2, hb⟩
             have HSv5 := zh (HSv4.out.trans (hb.mono HSv4.out.size))
             have HW3v5 := zh (HW3v4.out.below hb)
             have HW4v5 := zh (HW4v4.out.below hb)
             have HW8v5 := zh (HW8v4.out.below hb)
             have HRg9v5 := zh (HRg9v4.out.below hb HRg9v4.out.lt)
             have HN9xg9 := zh (ne_old HRg9v4.out.lt h2 h1)
             have HW9v5 : Hid (Wrp v5 w8.heap.size qp9 qo9 gc 28 30 31 #[.pointer (some ⟨qp8, 0, none⟩), .pointer (some ⟨qo8, 0, none⟩)] #[.pointer (some ⟨qp8, 0, none⟩), .pointer (some ⟨qo8, 0, none⟩)] #[.pointer (some ⟨qp8, 0, none⟩), .pointer (some ⟨qo8, 0, none⟩)]) := zh ⟨hp, ho, zM HSv4.out.size h2, zM HSv4.out.size h1⟩
             clear ho hp h1 h2 hb
             refine hK.out _ _ HSv5.out ?_
             clear hK K
             (try simp only [Act.put, zA4, zA5, zA6])
             (refine wpOU_solo (zO rfl) ?_)
             intro K hK
             go_simp
             have hb : Below v5.heap.size v5 (v5.alloc (.cells #[.nilFunc, .nilFunc, .nilFunc] 33)) := (zB _ _).alloc (zL _) _
             have HSv6 := zh (HSv5.out.trans (hb.mono HSv5.out.size))
             have HW3v6 := zh (HW3v5.out.below hb)
             have HW4v6 := zh (HW4v5.out.below hb)
             have HW8v6 := zh (HW8v5.out.below hb)
             have HW9v6 := zh (HW9v5.out.below hb)
             have HRg9v6 := zh (HRg9v5.out.below hb HRg9v5.out.lt)
             have HRg10v6 : Hid (RowAt (v5.alloc (.cells #[.nilFunc, .nilFunc, .nilFunc] 33)) v5.heap.size 33 #[.nilFunc, .nilFunc, .nilFunc]) := zh (RowAt.new _ _ _)
             have HGg10 : Hid (w8.heap.size ≤ v5.heap.size) := zh HSv5.out.size
             have HN3xg10 := zh HW3v5.out.ne_new
             have HN4xg10 := zh HW4v5.out.ne_new
             have HN8xg10 := zh HW8v5.out.ne_new
             have HN9xg10 := zh HW9v5.out.ne_new
             have HDg9xg10 : Hid (g9 ≠ v5.heap.size) := zh (Nat.ne_of_lt HRg9v5.out.lt)
             have HDg10xg9 : Hid (v5.heap.size ≠ g9) := zh fun e => HDg9xg10.out e.symm
             clear hb
             refine hK.out _ _ HSv6.out ?_
             clear hK K
             (try simp only [Act.put, zA4, zA5, zA6])
             generalize v5.heap.size = g10 at *
             generalize (v5.alloc (.cells #[.nilFunc, .nilFunc, .nilFunc] 33)) = v6 at *
             (refine wpOU_solo (zO rfl) ?_)
             intro K hK
             rw [if_pos (by rfl)]
             refine wp_store_row _ _ _ rfl g9 #[.func (.func 28) #[] #[.pointer (some ⟨qp4, 0, none⟩), .pointer (some ⟨qo4, 0, none⟩)], .func (.func 30) #[] #[.pointer (some ⟨qp4, 0, none⟩), .pointer (some ⟨qo4, 0, none⟩)], .func (.func 31) #[] #[.pointer (some ⟨qp4, 0, none⟩), .pointer (some ⟨qo4, 0, none⟩)]] rfl rfl _ _ HRg9v6.out (by kernel_rfl) rfl (ops_one _ _ _ _ _ _) ?_
             have hm : Mut g9 v6 (v6.setRow g9 #[.func (.func 28) #[] #[.pointer (some ⟨qp4, 0, none⟩), .pointer (some ⟨qo4, 0, none⟩)], .func (.func 30) #[] #[.pointer (some ⟨qp4, 0, none⟩), .pointer (some ⟨qo4, 0, none⟩)], .func (.func 31) #[] #[.pointer (some ⟨qp4, 0, none⟩), .pointer (some ⟨qo4, 0, none⟩)]]) := Mut.of_else (Else.setRow v6 g9 _)
             have HSv7 := zh (HSv6.out.trans (hm.below HGg9.out HSv6.out.size))
             have HW3v7 := zh (HW3v6.out.mut hm HN3xg9.out)
             have HW4v7 := zh (HW4v6.out.mut hm HN4xg9.out)
             have HW8v7 := zh (HW8v6.out.mut hm HN8xg9.out)
             have HW9v7 := zh (HW9v6.out.mut hm HN9xg9.out)
             have HRg10v7 := zh (HRg10v6.out.mut hm HDg10xg9.out)
             have HRg9v7 := zh (HRg9v6.out.setRow #[.func (.func 28) #[] #[.pointer (some ⟨qp4, 0, none⟩), .pointer (some ⟨qo4, 0, none⟩)], .func (.func 30) #[] #[.pointer (some ⟨qp4, 0, none⟩), .pointer (some ⟨qo4, 0, none⟩)], .func (.func 31) #[] #[.pointer (some ⟨qp4, 0, none⟩), .pointer (some ⟨qo4, 0, none⟩)]])
             clear hm
             refine hK.out _ _ HSv7.out ?_
             clear hK K
             (try simp only [Act.put, zA4, zA5, zA6])
             generalize v6.setRow g9 #[.func (.func 28) #[] #[.pointer (some ⟨qp4, 0, none⟩), .pointer (some ⟨qo4, 0, none⟩)], .func (.func 30) #[] #[.pointer (some ⟨qp4, 0, none⟩), .pointer (some ⟨qo4, 0, none⟩)], .func (.func 31) #[] #[.pointer (some ⟨qp4, 0, none⟩), .pointer (some ⟨qo4, 0, none⟩)]] = v7 at *
             (refine wpOU_solo (zO rfl) ?_)
             intro K hK
             rw [if_pos (by rfl)]
             refine wp_store_row _ _ _ rfl g10 #[.func (.func 28) #[] #[.pointer (some ⟨qp9, 0, none⟩), .pointer (some ⟨qo9, 0, none⟩)], .func (.func 30) #[] #[.pointer (some ⟨qp9, 0, none⟩), .pointer (some ⟨qo9, 0, none⟩)], .func (.func 31) #[] #[.pointer (some ⟨qp9, 0, none⟩), .pointer (some ⟨qo9, 0, none⟩)]] rfl rfl _ _ HRg10v7.out (by kernel_rfl) rfl (ops_one _ _ _ _ _ _) ?_
             have hm : Mut g10 v7 (v7.setRow g10 #[.func (.func 28) #[] #[.pointer (some ⟨qp9, 0, none⟩), .pointer (some ⟨qo9, 0, none⟩)], .func (.func 30) #[] #[.pointer (some ⟨qp9, 0, none⟩), .pointer (some ⟨qo9, 0, none⟩)], .func (.func 31) #[] #[.pointer (some ⟨qp9, 0, none⟩), .pointer (some ⟨qo9, 0, none⟩)]]) := Mut.of_else (Else.setRow v7 g10 _)
             have HSv8 := zh (HSv7.out.trans (hm.below HGg10.out HSv7.out.size))
             have HW3v8 := zh (HW3v7.out.mut hm HN3xg10.out)
             have HW4v8 := zh (HW4v7.out.mut hm HN4xg10.out)
             have HW8v8 := zh (HW8v7.out.mut hm HN8xg10.out)
             have HW9v8 := zh (HW9v7.out.mut hm HN9xg10.out)
             have HRg9v8 := zh (HRg9v7.out.mut hm HDg9xg10.out)
             have HRg10v8 := zh (HRg10v7.out.setRow #[.func (.func 28) #[] #[.pointer (some ⟨qp9, 0, none⟩), .pointer (some ⟨qo9, 0, none⟩)], .func (.func 30) #[] #[.pointer (some ⟨qp9, 0, none⟩), .pointer (some ⟨qo9, 0, none⟩)], .func (.func 31) #[] #[.pointer (some ⟨qp9, 0, none⟩), .pointer (some ⟨qo9, 0, none⟩)]])
             clear hm
             refine hK.out _ _ HSv8.out ?_
             clear hK K
             (try simp only [Act.put, zA4, zA5, zA6])
             generalize v7.setRow g10 #[.func (.func 28) #[] #[.pointer (some ⟨qp9, 0, none⟩), .pointer (some ⟨qo9, 0, none⟩)], .func (.func 30) #[] #[.pointer (some ⟨qp9, 0, none⟩), .pointer (some ⟨qo9, 0, none⟩)], .func (.func 31) #[] #[.pointer (some ⟨qp9, 0, none⟩), .pointer (some ⟨qo9, 0, none⟩)]] = v8 at *
             refine wpOU_done ?_
             go_wp2
             go_meet
             case rel => exact ⟨g9, g10, qp3, qo3, qp4, qo4, qp8, qo8, qp9, qo9, rfl, rfl, zh ⟨HGg9.out, HGg10.out⟩, HRg9v8.out, HRg10v8.out, HW3v8.out, HW4v8.out, HW8v8.out, HW9v8.out, HSv8.out⟩
            ·(refine wpOU_solo (zO rfl) ?_)
             intro K hK
             go_simp
             have hb : Below v4.heap.size v4 (v4.alloc (.cells #[.nilFunc, .nilFunc, .nilFunc] 33)) := (zB _ _).alloc (zL _) _
             have HSv5 := zh (HSv4.out.trans (hb.mono HSv4.out.size))
             have HW3v5 := zh (HW3v4.out.below hb)
             have HW4v5 := zh (HW4v4.out.below hb)
             have HW8v5 := zh (HW8v4.out.below hb)
             have HRg9v5 := zh (HRg9v4.out.below hb HRg9v4.out.lt)
             have HRg10v5 : Hid (RowAt (v4.alloc (.cells #[.nilFunc, .nilFunc, .nilFunc] 33)) v4.heap.size 33 #[.nilFunc, .nilFunc, .nilFunc]) := zh (RowAt.new _ _ _)
             have HGg10 : Hid (w8.heap.size ≤ v4.heap.size) := zh HSv4.out.size
             have HN3xg10 := zh HW3v4.out.ne_new
             have HN4xg10 := zh HW4v4.out.ne_new
             have HN8xg10 := zh HW8v4.out.ne_new
             have HDg9xg10 : Hid (g9 ≠ v4.heap.size) := zh (Nat.ne_of_lt HRg9v4.out.lt)
             have HDg10xg9 : Hid (v4.heap.size ≠ g9) := zh fun e => HDg9xg10.out e.symm
             clear hb
             refine hK.out _ _ HSv5.out ?_
             clear hK K
             (try simp only [Act.put, zA4, zA5, zA6])
             generalize v4.heap.size = g10 at *
             generalize (v4.alloc (.cells #[.nilFunc, .nilFunc, .nilFunc] 33)) = v5 at *
             (refine wpOU_solo (zO rfl) ?_)
             intro K hK
             go_simp
             refine (HWc.out v5 _ _ _ _ _ _ HSv5.out).mono ?_
             rintro e v6 ⟨qo9, qp9, rfl, ho, hp, h1, h2, hb⟩
             have HSv6 := zh (HSv5.out.trans (hb.mono HSv5.out.size))
             have HW3v6 := zh (HW3v5.out.below hb)
             have HW4v6 := zh (HW4v5.out.below hb)
             have HW8v6 := zh (HW8v5.out.below hb)
             have HRg9v6 := zh (HRg9v5.out.below hb HRg9v5.out.lt)
             have HRg10v6 := zh (HRg10v5.out.below hb HRg10v5.out.lt)
             have HN9xg9 := zh (ne_old HRg9v5.out.lt h2 h1)
             have HN9xg10 := zh (ne_old HRg10v5.out.lt h2 h1)
             have HW9v6 : Hid (Wrp v6 w8.heap.size qp9 qo9 gc 28 30 31 #[.pointer (some ⟨qp8, 0, none⟩), .pointer (some ⟨qo8, 0, none⟩)] #[.pointer (some ⟨qp8, 0, none⟩), .pointer (some ⟨qo8, 0, none⟩)] #[.pointer (some ⟨qp8, 0, none⟩), .pointer (some ⟨qo8, 0, none⟩)]) := zh ⟨hp, ho, zM HSv5.out.size h2, zM HSv5.out.size h1⟩
             clear ho hp h1 h2 hb
             refine hK.out _ _ HSv6.out ?_
             clear hK K
             (try simp only [Act.put, zA4, zA5, zA6])
             (refine wpOU_solo (zO rfl) ?_)
             intro K hK
             rw [if_pos (by rfl)]
             refine wp_store_row _ _ _ rfl g9 #[.func (.func 28) #[] #[.pointer (some ⟨qp4, 0, none⟩), .pointer (some ⟨qo4, 0, none⟩)], .func (.func 30) #[] #[.pointer (some ⟨qp4, 0, none⟩), .pointer (some ⟨qo4, 0, none⟩)], .func (.func 31) #[] #[.pointer (some ⟨qp4, 0, none⟩), .pointer (some ⟨qo4, 0, none⟩)]] rfl rfl _ _ HRg9v6.out (by kernel_rfl) rfl (ops_one _ _ _ _ _ _) ?_
             have hm : Mut g9 v6 (v6.setRow g9 #[.func (.func 28) #[] #[.pointer (some ⟨qp4, 0, none⟩), .pointer (some ⟨qo4, 0, none⟩)], .func (.func 30) #[] #[.pointer (some ⟨qp4, 0, none⟩), .pointer (some ⟨qo4, 0, none⟩)], .func (.func 31) #[] #[.pointer (some ⟨qp4, 0, none⟩), .pointer (some ⟨qo4, 0, none⟩)]]) := Mut.of_else (Else.setRow v6 g9 _)
             have HSv7 := zh (HSv6.out.trans (hm.below HGg9.out HSv6.out.size))
             have HW3v7 := zh (HW3v6.out.mut hm HN3xg9.out)
             have HW4v7 := zh (HW4v6.out.mut hm HN4xg9.out)
             have HW8v7 := zh (HW8v6.out.mut hm HN8xg9.out)
             have HW9v7 := zh (HW9v6.out.mut hm HN9xg9.out)
             have HRg10v7 := zh (HRg10v6.out.mut hm HDg10xg9.out)
             have HRg9v7 := zh (HRg9v6.out.setRow #[.func (.func 28) #[] #[.pointer (some ⟨qp4, 0, none⟩), .pointer (some ⟨qo4, 0, none⟩)], .func (.func 30) #[] #[.pointer (some ⟨qp4, 0, none⟩), .pointer (some ⟨qo4, 0, none⟩)], .func (.func 31) #[] #[.pointer (some ⟨qp4, 0, none⟩), .pointer (some ⟨qo4, 0, none⟩)]])
             clear hm
             refine hK.out _ _ HSv7.out ?_
             clear hK K
             (try simp only [Act.put, zA4, zA5, zA6])
             generalize v6.setRow g9 #[.func (.func 28) #[] #[.pointer (some ⟨qp4, 0, none⟩), .pointer (some ⟨qo4, 0, none⟩)], .func (.func 30) #[] #[.pointer (some ⟨qp4, 0, none⟩), .pointer (some ⟨qo4, 0, none⟩)], .func (.func 31) #[] #[.pointer (some ⟨qp4, 0, none⟩), .pointer (some ⟨qo4, 0, none⟩)]] = v7 at *
             (refine wpOU_solo (zO rfl) ?_)
             intro K hK
             rw [if_pos (by rfl)]
             refine wp_store_row _ _ _ rfl g10 #[.func (.func 28) #[] #[.pointer (some ⟨qp9, 0, none⟩), .pointer (some ⟨qo9, 0, none⟩)], .func (.func 30) #[] #[.pointer (some ⟨qp9, 0, none⟩), .pointer (some ⟨qo9, 0, none⟩)], .func (.func 31) #[] #[.pointer (some ⟨qp9, 0, none⟩), .pointer (some ⟨qo9, 0, none⟩)]] rfl rfl _ _ HRg10v7.out (by kernel_rfl) rfl (ops_one _ _ _ _ _ _) ?_
             have hm : Mut g10 v7 (v7.setRow g10 #[.func (.func 28) #[] #[.pointer (some ⟨qp9, 0, none⟩), .pointer (some ⟨qo9, 0, none⟩)], .func (.func 30) #[] #[.pointer (some ⟨qp9, 0, none⟩), .pointer (some ⟨qo9, 0, none⟩)], .func (.func 31) #[] #[.pointer (some ⟨qp9, 0, none⟩), .pointer (some ⟨qo9, 0, none⟩)]]) := Mut.of_else (Else.setRow v7 g10 _)
             have HSv8 := zh (HSv7.out.trans (hm.below HGg10.out HSv7.out.size))
             have HW3v8 := zh (HW3v7.out.mut hm HN3xg10.out)
             have HW4v8 := zh (HW4v7.out.mut hm HN4xg10.out)
             have HW8v8 := zh (HW8v7.out.mut hm HN8xg10.out)
             have HW9v8 := zh (HW9v7.out.mut hm HN9xg10.out)
             have HRg9v8 := zh (HRg9v7.out.mut hm HDg9xg10.out)
             have HRg10v8 := zh (HRg10v7.out.setRow #[.func (.func 28) #[] #[.pointer (some ⟨qp9, 0, none⟩), .pointer (some ⟨qo9, 0, none⟩)], .func (.func 30) #[] #[.pointer (some ⟨qp9, 0, none⟩), .pointer (some ⟨qo9, 0, none⟩)], .func (.func 31) #[] #[.pointer (some ⟨qp9, 0, none⟩), .pointer (some ⟨qo9, 0, none⟩)]])
             clear hm
             refine hK.out _ _ HSv8.out ?_
             clear hK K
             (try simp only [Act.put, zA4, zA5, zA6])
             generalize v7.setRow g10 #[.func (.func 28) #[] #[.pointer (some ⟨qp9, 0, none⟩), .pointer (some ⟨qo9, 0, none⟩)], .func (.func 30) #[] #[.pointer (some ⟨qp9, 0, none⟩), .pointer (some ⟨qo9, 0, none⟩)], .func (.func 31) #[] #[.pointer (some ⟨qp9, 0, none⟩), .pointer (some ⟨qo9, 0, none⟩)]] = v8 at *
             refine wpOU_done ?_
             go_wp2
             go_meet
             case rel => exact ⟨g9, g10, qp3, qo3, qp4, qo4, qp8, qo8, qp9, qo9, rfl, rfl, zh ⟨HGg9.out, HGg10.out⟩, HRg9v8.out, HRg10v8.out, HW3v8.out, HW4v8.out, HW8v8.out, HW9v8.out, HSv8.out⟩
           ·(refine wpOU_solo (zO rfl) ?_)
            intro K hK
            go_simp
            have hb : Below v3.heap.size v3 (v3.alloc (.cells #[.nilFunc, .nilFunc, .nilFunc] 33)) := (zB _ _).alloc (zL _) _
            have HSv4 := zh (HSv3.out.trans (hb.mono HSv3.out.size))
            have HW3v4 := zh (HW3v3.out.below hb)
            have HW4v4 := zh (HW4v3.out.below hb)
            have HRg9v4 := zh (HRg9v3.out.below hb HRg9v3.out.lt)
            have HRg10v4 : Hid (RowAt (v3.alloc (.cells #[.nilFunc, .nilFunc, .nilFunc] 33)) v3.heap.size 33 #[.nilFunc, .nilFunc, .nilFunc]) := zh (RowAt.new _ _ _)
            have HGg10 : Hid (w8.heap.size ≤ v3.heap.size) := zh HSv3.out.size
            have HN3xg10 := zh HW3v3.out.ne_new
            have HN4xg10 := zh HW4v3.out.ne_new
            have HDg9xg10 : Hid (g9 ≠ v3.heap.size) := zh (Nat.ne_of_lt HRg9v3.out.lt)
            have HDg10xg9 : Hid (v3.heap.size ≠ g9) := zh fun e => HDg9xg10.out e.symm
            clear hb
            refine hK.out _ _ HSv4.out ?_
            clear hK K
            (try simp only [Act.put, zA4, zA5, zA6])
            generalize v3.heap.size = g10 at *
            generalize (v3.alloc (.cells #[.nilFunc, .nilFunc, .nilFunc] 33)) = v4 at *
            (refine wpOU_solo (zO rfl) ?_)
            intro K hK
            go_simp
            refine (HWc.out v4 _ _ _ _ _ _ HSv4.out).mono ?_
            rintro e v5 ⟨qo8, qp8, rfl, ho, hp, h1, h2, hb⟩
            have HSv5 := zh (HSv4.out.trans (hb.mono HSv4.out.size))
            have HW3v5 := zh (HW3v4.out.below hb)
            have HW4v5 := zh (HW4v4.out.below hb)
            have HRg9v5 := zh (HRg9v4.out.below hb HRg9v4.out.lt)
            have HRg10v5 := zh (HRg10v4.out.below hb HRg10v4.out.lt)
            have HN8xg9 := zh (ne_old HRg9v4.out.lt h2 h1)
            have HN8xg10 := zh (ne_old HRg10v4.out.lt h2 h1)
            have HW8v5 : Hid (Wrp v5 w8.heap.size qp8 qo8 gc 19 21 43 #[.pointer (some ⟨gow, 0, none⟩)] #[] #[.pointer (some ⟨go, 0, none⟩), .pointer (some ⟨gp, 0, none⟩), .pointer (some ⟨gt, 0, none⟩), .pointer (some ⟨gs, 0, none⟩)]) := zh ⟨hp, ho, zM HSv4.out.size h2, zM HSv4.out.size h1⟩
            clear ho hp h1 h2 hb
            refine hK.out _ _ HSv5.out ?_
            clear hK K
            (try simp only [Act.put, zA4, zA5, zA6])
            (refine wpOU_solo (zO rfl) ?_)
            intro K hK
            go_simp
            refine (HWc.out v5 _ _ _ _ _ _ HSv5.out).mono ?_
            rintro e v6 ⟨qo9, qp9, rfl, ho, hp, h1, h2, hb⟩
            have HSv6 := zh (HSv5.out.trans (hb.mono HSv5.out.size))
            have HW3v6 := zh (HW3v5.out.below hb)
            have HW4v6 := zh (HW4v5.out.below hb)
            have HW8v6 := zh (HW8v5.out.below hb)
            have HRg9v6 := zh (HRg9v5.out.below hb HRg9v5.out.lt)
            have HRg10v6 := zh (HRg10v5.out.below hb HRg10v5.out.lt)
            have HN9xg9 := zh (ne_old HRg9v5.out.lt h2 h1)
            have HN9xg10 := zh (ne_old HRg10v5.out.lt h2 h1)
            have HW9v6 : Hid (Wrp v6 w8.heap.size qp9 qo9 gc 28 30 31 #[.pointer (some ⟨qp8, 0, none⟩), .pointer (some ⟨qo8, 0, none⟩)] #[.pointer (some ⟨qp8, 0, none⟩), .pointer (some ⟨qo8, 0, none⟩)] #[.pointer (some ⟨qp8, 0, none⟩), .pointer (some ⟨qo8, 0, none⟩)]) := zh ⟨hp, ho, zM HSv5.out.size h2, zM HSv5.out.size h1⟩
            clear ho hp h1 h2 hb
            refine hK.out _ _ HSv6.out ?_
            clear hK K
            (try simp only [Act.put, zA4, zA5, zA6])
            (refine wpOU_solo (zO rfl) ?_)
            intro K hK
            rw [if_pos (by rfl)]
            refine wp_store_row _ _ _ rfl g9 #[.func (.func 28) #[] #[.pointer (some ⟨qp4, 0, none⟩), .pointer (some ⟨qo4, 0, none⟩)], .func (.func 30) #[] #[.pointer (some ⟨qp4, 0, none⟩), .pointer (some ⟨qo4, 0, none⟩)], .func (.func 31) #[] #[.pointer (some ⟨qp4, 0, none⟩), .pointer (some ⟨qo4, 0, none⟩)]] rfl rfl _ _ HRg9v6.out (by kernel_rfl) rfl (ops_one _ _ _ _ _ _) ?_
            have hm : Mut g9 v6 (v6.setRow g9 #[.func (.func 28) #[] #[.pointer (some ⟨qp4, 0, none⟩), .pointer (some ⟨qo4, 0, none⟩)], .func (.func 30) #[] #[.pointer (some ⟨qp4, 0, none⟩), .pointer (some ⟨qo4, 0, none⟩)], .func (.func 31) #[] #[.pointer (some ⟨qp4, 0, none⟩), .pointer (some ⟨qo4, 0, none⟩)]]) := Mut.of_else (Else.setRow v6 g9 _)
            have HSv7 := zh (HSv6.out.trans (hm.below HGg9.out HSv6.out.size))
            have HW3v7 := zh (HW3v6.out.mut hm HN3xg9.out)
            have HW4v7 := zh (HW4v6.out.mut hm HN4xg9.out)
            have HW8v7 := zh (HW8v6.out.mut hm HN8xg9.out)
            have HW9v7 := zh (HW9v6.out.mut hm HN9xg9.out)
            have HRg10v7 := zh (HRg10v6.out.mut hm HDg10xg9.out)
            have HRg9v7 := zh (HRg9v6.out.setRow #[.func (.func 28) #[] #[.pointer (some ⟨qp4, 0, none⟩), .pointer (some ⟨qo4, 0, none⟩)], .func (.func 30) #[] #[.pointer (some ⟨qp4, 0, none⟩), .pointer (some ⟨qo4, 0, none⟩)], .func (.func 31) #[] #[.pointer (some ⟨qp4, 0, none⟩), .pointer (some ⟨qo4, 0, none⟩)]])
            clear hm
            refine hK.out _ _ HSv7.out ?_
            clear hK K
            (try simp only [Act.put, zA4, zA5, zA6])
            generalize v6.setRow g9 #[.func (.func 28) #[] #[.pointer (some ⟨qp4, 0, none⟩), .pointer (some ⟨qo4, 0, none⟩)], .func (.func 30) #[] #[.pointer (some ⟨qp4, 0, none⟩), .pointer (some ⟨qo4, 0, none⟩)], .func (.func 31) #[] #[.pointer (some ⟨qp4, 0, none⟩), .pointer (some ⟨qo4, 0, none⟩)]] = v7 at *
            (refine wpOU_solo (zO rfl) ?_)
            intro K hK
            rw [if_pos (by rfl)]
            refine wp_store_row _ _ _ rfl g10 #[.func (.func 28) #[] #[.pointer (some ⟨qp9, 0, none⟩), .pointer (some ⟨qo9, 0, none⟩)], .func (.func 30) #[] #[.pointer (some ⟨qp9, 0, none⟩), .pointer (some ⟨qo9, 0, none⟩)], .func (.func 31) #[] #[.pointer (some ⟨qp9, 0, none⟩), .pointer (some ⟨qo9, 0, none⟩)]] rfl rfl _ _ HRg10v7.out (by kernel_rfl) rfl (ops_one _ _ _ _ _ _) ?_
            have hm : Mut g10 v7 (v7.setRow g10 #[.func (.func 28) #[] #[.pointer (some ⟨qp9, 0, none⟩), .pointer (some ⟨qo9, 0, none⟩)], .func (.func 30) #[] #[.pointer (some ⟨qp9, 0, none⟩), .pointer (some ⟨qo9, 0, none⟩)], .func (.func 31) #[] #[.pointer (some ⟨qp9, 0, none⟩), .pointer (some ⟨qo9, 0, none⟩)]]) := Mut.of_else (Else.setRow v7 g10 _)
            have HSv8 := zh (HSv7.out.trans (hm.below HGg10.out HSv7.out.size))
            have HW3v8 := zh (HW3v7.out.mut hm HN3xg10.out)
            have HW4v8 := zh (HW4v7.out.mut hm HN4xg10.out)
            have HW8v8 := zh (HW8v7.out.mut hm HN8xg10.out)
            have HW9v8 := zh (HW9v7.out.mut hm HN9xg10.out)
            have HRg9v8 := zh (HRg9v7.out.mut hm HDg9xg10.out)
            have HRg10v8 := zh (HRg10v7.out.setRow #[.func (.func 28) #[] #[.pointer (some ⟨qp9, 0, none⟩), .pointer (some ⟨qo9, 0, none⟩)], .func (.func 30) #[] #[.pointer (some ⟨qp9, 0, none⟩), .pointer (some ⟨qo9, 0, none⟩)], .func (.func 31) #[] #[.pointer (some ⟨qp9, 0, none⟩), .pointer (some ⟨qo9, 0, none⟩)]])
            clear hm
            refine hK.out _ _ HSv8.out ?_
            clear hK K
            (try simp only [Act.put, zA4, zA5, zA6])
            generalize v7.setRow g10 #[.func (.func 28) #[] #[.pointer (some ⟨qp9, 0, none⟩), .pointer (some ⟨qo9, 0, none⟩)], .func (.func 30) #[] #[.pointer (some ⟨qp9, 0, none⟩), .pointer (some ⟨qo9, 0, none⟩)], .func (.func 31) #[] #[.pointer (some ⟨qp9, 0, none⟩), .pointer (some ⟨qo9, 0, none⟩)]] = v8 at *
            refine wpOU_done ?_
            go_wp2
            go_meet
            case rel => exact ⟨g9, g10, qp3, qo3, qp4, qo4, qp8, qo8, qp9, qo9, rfl, rfl, zh ⟨HGg9.out, HGg10.out⟩, HRg9v8.out, HRg10v8.out, HW3v8.out, HW4v8.out, HW8v8.out, HW9v8.out, HSv8.out⟩
          ·(refine wpOU_solo (zO rfl) ?_)
           intro K hK
           go_simp
           have hb : Below v2.heap.size v2 (v2.alloc (.cells #[.nilFunc, .nilFunc, .nilFunc] 33)) := (zB _ _).alloc (zL _) _
           have HSv3 := zh (HSv2.out.trans (hb.mono HSv2.out.size))
           have HW3v3 := zh (HW3v2.out.below hb)
           have HRg9v3 := zh (HRg9v2.out.below hb HRg9v2.out.lt)
           have HRg10v3 : Hid (RowAt (v2.alloc (.cells #[.nilFunc, .nilFunc, .nilFunc] 33)) v2.heap.size 33 #[.nilFunc, .nilFunc, .nilFunc]) := zh (RowAt.new _ _ _)
           have HGg10 : Hid (w8.heap.size ≤ v2.heap.size) := zh HSv2.out.size
           have HN3xg10 := zh HW3v2.out.ne_new
           have HDg9xg10 : Hid (g9 ≠ v2.heap.size) := zh (Nat.ne_of_lt HRg9v2.out.lt)
           have HDg10xg9 : Hid (v2.heap.size ≠ g9) := zh fun e => HDg9xg10.out e.symm
           clear hb
           refine hK.out _ _ HSv3.out ?_
           clear hK K
           (try simp only [Act.put, zA4, zA5, zA6])
           generalize v2.heap.size = g10 at *
           generalize (v2.alloc (.cells #[.nilFunc, .nilFunc, .nilFunc] 33)) = v3 at *
           (refine wpOU_solo (zO rfl) ?_)
           intro K hK
           go_simp
           refine (HWa.out v3 _ _ _ _ _ _ HSv3.out).mono ?_
           rintro e v4 ⟨qo4, qp4, rfl, ho, hp, h1, h2, hb⟩
           have HSv4 := zh (HSv3.out.trans (hb.mono HSv3.out.size))
           have HW3v4 := zh (HW3v3.out.below hb)
           have HRg9v4 := zh (HRg9v3.out.below hb HRg9v3.out.lt)
           have HRg10v4 := zh (HRg10v3.out.below hb HRg10v3.out.lt)
           have HN4xg9 := zh (ne_old HRg9v3.out.lt h2 h1)
           have HN4xg10 := zh (ne_old HRg10v3.out.lt h2 h1)
           have HW4v4 : Hid (Wrp v4 w8.heap.size qp4 qo4 ga 28 30 31 #[.pointer (some ⟨qp3, 0, none⟩), .pointer (some ⟨qo3, 0, none⟩)] #[.pointer (some ⟨qp3, 0, none⟩), .pointer (some ⟨qo3, 0, none⟩)] #[.pointer (some ⟨qp3, 0, none⟩), .pointer (some ⟨qo3, 0, none⟩)]) := zh ⟨hp, ho, zM HSv3.out.size h2, zM HSv3.out.size h1⟩
           clear ho hp h1 h2 hb
           refine hK.out _ _ HSv4.out ?_
           clear hK K
           (try simp only [Act.put, zA4, zA5, zA6])
           (refine wpOU_solo (zO rfl) ?_)
           intro K hK
           go_simp
           refine (HWc.out v4 _ _ _ _ _ _ HSv4.out).mono ?_
           rintro e v5 ⟨qo8, qp8, rfl, ho, hp, h1, h2, hb⟩
           have HSv5 := zh (HSv4.out.trans (hb.mono HSv4.out.size))
           have HW3v5 := zh (HW3v4.out.below hb)
           have HW4v5 := zh (HW4v4.out.below hb)
           have HRg9v5 := zh (HRg9v4.out.below hb HRg9v4.out.lt)
           have HRg10v5 := zh (HRg10v4.out.below hb HRg10v4.out.lt)
           have HN8xg9 := zh (ne_old HRg9v4.out.lt h2 h1)
           have HN8xg10 := zh (ne_old HRg10v4.out.lt h2 h1)
           have HW8v5 : Hid (Wrp v5 w8.heap.size qp8 qo8 gc 19 21 43 #[.pointer (some ⟨gow, 0, none⟩)] #[] #[.pointer (some ⟨go, 0, none⟩), .pointer (some ⟨gp, 0, none⟩), .pointer (some ⟨gt, 0, none⟩), .pointer (some ⟨gs, 0, none⟩)]) := zh ⟨hp, ho, zM HSv4.out.size h2, zM HSv4.out.size h1⟩
           clear ho hp h1 h2 hb
           refine hK.out _ _ HSv5.out ?_
           clear hK K
           (try simp only [Act.put, zA4, zA5, zA6])
           (refine wpOU_solo (zO rfl) ?_)
           intro K hK
           go_simp
           refine (HWc.out v5 _ _ _ _ _ _ HSv5.out).mono ?_
           rintro e v6 ⟨qo9, qp9, rfl, ho, hp, h1, h2, hb⟩
           have HSv6 := zh (HSv5.out.trans (hb.mono HSv5.out.size))
           have HW3v6 := zh (HW3v5.out.below hb)
           have HW4v6 := zh (HW4v5.out.below hb)
           have HW8v6 := zh (HW8v5.out.below hb)
           have HRg9v6 := zh (HRg9v5.out.below hb HRg9v5.out.lt)
           have HRg10v6 := zh (HRg10v5.out.below hb HRg10v5.out.lt)
           have HN9xg9 := zh (ne_old HRg9v5.out.lt h2 h1)
           have HN9xg10 := zh (ne_old HRg10v5.out.lt h2 h1)
           have HW9v6 : Hid (Wrp v6 w8.heap.size qp9 qo9 gc 28 30 31 #[.pointer (some ⟨qp8, 0, none⟩), .pointer (some ⟨qo8, 0, none⟩)] #[.pointer (some ⟨qp8, 0, none⟩), .pointer (some ⟨qo8, 0, none⟩)] #[.pointer (some ⟨qp8, 0, none⟩), .pointer (some ⟨qo8, 0, none⟩)]) := zh ⟨hp, ho, zM HSv5.out.size h2, zM HSv5.out.size h1⟩
           clear ho hp h1 h2 hb
           refine hK.out _ _ HSv6.out ?_
           clear hK K
           (try simp only [Act.put, zA4, zA5, zA6])
           (refine wpOU_solo (zO rfl) ?_)
           intro K hK
           rw [if_pos (by rfl)]
           refine wp_store_row _ _ _ rfl g9 #[.func (.func 28) #[] #[.pointer (some ⟨qp4, 0, none⟩), .pointer (some ⟨qo4, 0, none⟩)], .func (.func 30) #[] #[.pointer (some ⟨qp4, 0, none⟩), .pointer (some ⟨qo4, 0, none⟩)], .func (.func 31) #[] #[.pointer (some ⟨qp4, 0, none⟩), .pointer (some ⟨qo4, 0, none⟩)]] rfl rfl _ _ HRg9v6.out (by kernel_rfl) rfl (ops_one _ _ _ _ _ _) ?_
           have hm : Mut g9 v6 (v6.setRow g9 #[.func (.func 28) #[] #[.pointer (some ⟨qp4, 0, none⟩), .pointer (some ⟨qo4, 0, none⟩)], .func (.func 30) #[] #[.pointer (some ⟨qp4, 0, none⟩), .pointer (some ⟨qo4, 0, none⟩)], .func (.func 31) #[] #[.pointer (some ⟨qp4, 0, none⟩), .pointer (some ⟨qo4, 0, none⟩)]]) := Mut.of_else (Else.setRow v6 g9 _)
           have HSv7 := zh (HSv6.out.trans (hm.below HGg9.out HSv6.out.size))
           have HW3v7 := zh (HW3v6.out.mut hm HN3xg9.out)
           have HW4v7 := zh (HW4v6.out.mut hm HN4xg9.out)
           have HW8v7 := zh (HW8v6.out.mut hm HN8xg9.out)
           have HW9v7 := zh (HW9v6.out.mut hm HN9xg9.out)
           have HRg10v7 := zh (HRg10v6.out.mut hm HDg10xg9.out)
           have HRg9v7 := zh (HRg9v6.out.setRow #[.func (.func 28) #[] #[.pointer (some ⟨qp4, 0, none⟩), .pointer (some ⟨qo4, 0, none⟩)], .func (.func 30) #[] #[.pointer (some ⟨qp4, 0, none⟩), .pointer (some ⟨qo4, 0, none⟩)], .func (.func 31) #[] #[.pointer (some ⟨qp4, 0, none⟩), .pointer (some ⟨qo4, 0, none⟩)]])
           clear hm
           refine hK.out _ _ HSv7.out ?_
           clear hK K
           (try simp only [Act.put, zA4, zA5, zA6])
           generalize v6.setRow g9 #[.func (.func 28) #[] #[.pointer (some ⟨qp4, 0, none⟩), .pointer (some ⟨qo4, 0, none⟩)], .func (.func 30) #[] #[.pointer (some ⟨qp4, 0, none⟩), .pointer (some ⟨qo4, 0, none⟩)], .func (.func 31) #[] #[.pointer (some ⟨qp4, 0, none⟩), .pointer (some ⟨qo4, 0, none⟩)]] = v7 at *
           (refine wpOU_solo (zO rfl) ?_)
           intro K hK
           rw [if_pos (by rfl)]
           refine wp_store_row _ _ _ rfl g10 #[.func (.func 28) #[] #[.pointer (some ⟨qp9, 0, none⟩), .pointer (some ⟨qo9, 0, none⟩)], .func (.func 30) #[] #[.pointer (some ⟨qp9, 0, none⟩), .pointer (some ⟨qo9, 0, none⟩)], .func (.func 31) #[] #[.pointer (some ⟨qp9, 0, none⟩), .pointer (some ⟨qo9, 0, none⟩)]] rfl rfl _ _ HRg10v7.out (by kernel_rfl) rfl (ops_one _ _ _ _ _ _) ?_
           have hm : Mut g10 v7 (v7.setRow g10 #[.func (.func 28) #[] #[.pointer (some ⟨qp9, 0, none⟩), .pointer (some ⟨qo9, 0, none⟩)], .func (.func 30) #[] #[.pointer (some ⟨qp9, 0, none⟩), .pointer (some ⟨qo9, 0, none⟩)], .func (.func 31) #[] #[.pointer (some ⟨qp9, 0, none⟩), .pointer (some ⟨qo9, 0, none⟩)]]) := Mut.of_else (Else.setRow v7 g10 _)
           have HSv8 := zh (HSv7.out.trans (hm.below HGg10.out HSv7.out.size))
           have HW3v8 := zh (HW3v7.out.mut hm HN3xg10.out)
           have HW4v8 := zh (HW4v7.out.mut hm HN4xg10.out)
           have HW8v8 := zh (HW8v7.out.mut hm HN8xg10.out)
           have HW9v8 := zh (HW9v7.out.mut hm HN9xg10.out)
           have HRg9v8 := zh (HRg9v7.out.mut hm HDg9xg10.out)
           have HRg10v8 := zh (HRg10v7.out.setRow #[.func (.func 28) #[] #[.pointer (some ⟨qp9, 0, none⟩), .pointer (some ⟨qo9, 0, none⟩)], .func (.func 30) #[] #[.pointer (some ⟨qp9, 0, none⟩), .pointer (some ⟨qo9, 0, none⟩)], .func (.func 31) #[] #[.pointer (some ⟨qp9, 0, none⟩), .pointer (some ⟨qo9, 0, none⟩)]])
           clear hm
           refine hK.out _ _ HSv8.out ?_
           clear hK K
           (try simp only [Act.put, zA4, zA5, zA6])
           generalize v7.setRow g10 #[.func (.func 28) #[] #[.pointer (some ⟨qp9, 0, none⟩), .pointer (some ⟨qo9, 0, none⟩)], .func (.func 30) #[] #[.pointer (some ⟨qp9, 0, none⟩), .pointer (some ⟨qo9, 0, none⟩)], .func (.func 31) #[] #[.pointer (some ⟨qp9, 0, none⟩), .pointer (some ⟨qo9, 0, none⟩)]] = v8 at *
           refine wpOU_done ?_
           go_wp2
           go_meet
           case rel => exact ⟨g9, g10, qp3, qo3, qp4, qo4, qp8, qo8, qp9, qo9, rfl, rfl, zh ⟨HGg9.out, HGg10.out⟩, HRg9v8.out, HRg10v8.out, HW3v8.out, HW4v8.out, HW8v8.out, HW9v8.out, HSv8.out⟩
         ·(refine wpOU_solo (zO rfl) ?_)
          intro K hK
          go_simp
          have hb : Below v1.heap.size v1 (v1.alloc (.cells #[.nilFunc, .nilFunc, .nilFunc] 33)) := (zB _ _).alloc (zL _) _
          have HSv2 := zh (HSv1.out.trans (hb.mono HSv1.out.size))
          have HW3v2 := zh (HW3v1.out.below hb)
          have HRg10v2 : Hid (RowAt (v1.alloc (.cells #[.nilFunc, .nilFunc, .nilFunc] 33)) v1.heap.size 33 #[.nilFunc, .nilFunc, .nilFunc]) := zh (RowAt.new _ _ _)
          have HGg10 : Hid (w8.heap.size ≤ v1.heap.size) := zh HSv1.out.size
          have HN3xg10 := zh HW3v1.out.ne_new
          clear hb
          refine hK.out _ _ HSv2.out ?_
          clear hK K
          (try simp only [Act.put, zA4, zA5, zA6])
          generalize v1.heap.size = g10 at *
          generalize (v1.alloc (.cells #[.nilFunc, .nilFunc, .nilFunc] 33)) = v2 at *
          refine wpOU_two ?_ ?_
          ·(refine wpOU_solo (zO rfl) ?_)
           intro K hK
           go_simp
           refine (HWa.out v2 _ _ _ _ _ _ HSv2.out).mono ?_
           rintro e v3 ⟨qo4, qp4, rfl, ho, hp, h1, h2, hb⟩
           have HSv3 := zh (HSv2.out.trans (hb.mono HSv2.out.size))
           have HW3v3 := zh (HW3v2.out.below hb)
           have HRg10v3 := zh (HRg10v2.out.below hb HRg10v2.out.lt)
           have HN4xg10 := zh (ne_old HRg10v2.out.lt h2 h1)
           have HW4v3 : Hid (Wrp v3 w8.heap.size qp4 qo4 ga 28 30 31 #[.pointer (some ⟨qp3, 0, none⟩), .pointer (some ⟨qo3, 0, none⟩)] #[.pointer (some ⟨qp3, 0, none⟩), .pointer (some ⟨qo3, 0, none⟩)] #[.pointer (some ⟨qp3, 0, none⟩), .pointer (some ⟨qo3, 0, none⟩)]) := zh ⟨hp, ho, zM HSv2.out.size h2, zM HSv2.out.size h1⟩
           clear ho hp h1 h2 hb
           refine hK.out _ _ HSv3.out ?_
           clear hK K
           (try simp only [Act.put, zA4, zA5, zA6])
           refine wpOU_two ?_ ?_
           ·(refine wpOU_solo (zO rfl) ?_)
            intro K hK
            go_simp
            refine (HWc.out v3 _ _ _ _ _ _ HSv3.out).mono ?_
            rintro e v4 ⟨qo8, qp8, rfl, ho, hp, h1, h2, hb⟩
            have HSv4 := zh (HSv3.out.trans (hb.mono HSv3.out.size))
            have HW3v4 := zh (HW3v3.out.below hb)
            have HW4v4 := zh (HW4v3.out.below hb)
            have HRg10v4 := zh (HRg10v3.out.below hb HRg10v3.out.lt)
            have HN8xg10 := zh (ne_old HRg10v3.out.lt h2 h1)
            have HW8v4 : Hid (Wrp v4 w8.heap.size qp8 qo8 gc 19 21 43 #[.pointer (some ⟨gow, 0, none⟩)] #[] #[.pointer (some ⟨go, 0, none⟩), .pointer (some ⟨gp, 0, none⟩), .pointer (some ⟨gt, 0, none⟩), .pointer (some ⟨gs, 0, none⟩)]) := zh ⟨hp, ho, zM HSv3.out.size h2, zM HSv3.out.size h1⟩
            clear ho hp h1 h2 hb
            refine hK.out _ _ HSv4.out ?_
            clear hK K
            (try simp only [Act.put, zA4, zA5, zA6])
            refine wpOU_two ?_ ?_
            ·(refine wpOU_solo (zO rfl) ?_)
             intro K hK
             go_simp
             refine (HWc.out v4 _ _ _ _ _ _ HSv4.out).mono ?_
             rintro e v5 ⟨qo9, qp9, rfl, ho, hp, h1, h2, hb⟩
             have HSv5 := zh (HSv4.out.trans (hb.mono HSv4.out.size))
             have HW3v5 := zh (HW3v4.out.below hb)
             have HW4v5 := zh (HW4v4.out.below hb)
             have HW8v5 := zh (HW8v4.out.below hb)
             have HRg10v5 := zh (HRg10v4.out.below hb HRg10v4.out.lt)
             have HN9xg10 := zh (ne_old HRg10v4.out.lt h2 h1)
             have HW9v5 : Hid (Wrp v5 w8.heap.size qp9 qo9 gc 28 30 31 #[.pointer (some ⟨qp8, 0, none⟩), .pointer (some ⟨qo8, 0, none⟩)] #[.pointer (some ⟨qp8, 0, none⟩), .pointer (some ⟨qo8, 0, none⟩)] #[.pointer (some ⟨qp8, 0, none⟩), .pointer (some ⟨qo8, 0, none⟩)]) := zh ⟨hp, ho, zM HSv4.out.size h2, zM HSv4.out.size h1⟩
             clear ho hp h1 h2 hb
             refine hK.out _ _ HSv5.out ?_
             clear hK K
             (try simp only [Act.put, zA4, zA5, zA6])
             (refine wpOU_solo (zO rfl) ?_)
             intro K hK
             go_simp
             have hb : Below v5.heap.size v5 (v5.alloc (.cells #[.nilFunc, .nilFunc, .nilFunc] 33)) := (zB _ _).alloc (zL _) _
             have HSv6 := zh (HSv5.out.trans (hb.mono HSv5.out.size))
             have HW3v6 := zh (HW3v5.out.below hb)
             have HW4v6 := zh (HW4v5.out.below hb)
             have HW8v6 := zh (HW8v5.out.below hb)
             have HW9v6 := zh (HW9v5.out.below hb)
             have HRg10v6 := zh (HRg10v5.out.below hb HRg10v5.out.lt)
             have HRg9v6 : Hid (RowAt (v5.alloc (.cells #[.nilFunc, .nilFunc, .nilFunc] 33)) v5.heap.size 33 #[.nilFunc, .nilFunc, .nilFunc]) := zh (RowAt.new _ _ _)
             have HGg9 : Hid (w8.heap.size ≤ v5.heap.size) := zh HSv5.out.size
             have HN3xg9 := zh HW3v5.out.ne_new
             have HN4xg9 := zh HW4v5.out.ne_new
             have HN8xg9 := zh HW8v5.out.ne_new
             have HN9xg9 := zh HW9v5.out.ne_new
             have HDg10xg9 : Hid (g10 ≠ v5.heap.size) := zh (Nat.ne_of_lt HRg10v5.out.lt)
             have HDg9xg10 : Hid (v5.heap.size ≠ g10) := zh fun e => HDg10xg9.out e.symm
             clear hb
             refine hK.out _ _ HSv6.out ?_
             clear hK K
             (try simp only [Act.put, zA4, zA5, zA6])
             generalize v5.heap.size = g9 at *
             generalize (v5.alloc (.cells #[.nilFunc, .nilFunc, .nilFunc] 33)) = v6 at *
             (refine wpOU_solo (zO rfl) ?_)
             intro K hK
             rw [if_pos (by rfl)]
             refine wp_store_row _ _ _ rfl g9 #[.func (.func 28) #[] #[.pointer (some ⟨qp4, 0, none⟩), .pointer (some ⟨qo4, 0, none⟩)], .func (.func 30) #[] #[.pointer (some ⟨qp4, 0, none⟩), .pointer (some ⟨qo4, 0, none⟩)], .func (.func 31) #[] #[.pointer (some ⟨qp4, 0, none⟩), .pointer (some ⟨qo4, 0, none⟩)]] rfl rfl _ _ HRg9v6.out (by kernel_rfl) rfl (ops_one _ _ _ _ _ _) ?_
             have hm : Mut g9 v6 (v6.setRow g9 #[.func (.func 28) #[] #[.pointer (some ⟨qp4, 0, none⟩), .pointer (some ⟨qo4, 0, none⟩)], .func (.func 30) #[] #[.pointer (some ⟨qp4, 0, none⟩), .pointer (some ⟨qo4, 0, none⟩)], .func (.func 31) #[] #[.pointer (some ⟨qp4, 0, none⟩), .pointer (some ⟨qo4, 0, none⟩)]]) := Mut.of_else (Else.setRow v6 g9 _)
             have HSv7 := zh (HSv6.out.trans (hm.below HGg9.out HSv6.out.size))
             have HW3v7 := zh (HW3v6.out.mut hm HN3xg9.out)
             have HW4v7 := zh (HW4v6.out.mut hm HN4xg9.out)
             have HW8v7 := zh (HW8v6.out.mut hm HN8xg9.out)
             have HW9v7 := zh (HW9v6.out.mut hm HN9xg9.out)
             have HRg10v7 := zh (HRg10v6.out.mut hm HDg10xg9.out)
             have HRg9v7 := zh (HRg9v6.out.setRow #[.func (.func 28) #[] #[.pointer (some ⟨qp4, 0, none⟩), .pointer (some ⟨qo4, 0, none⟩)], .func (.func 30) #[] #[.pointer (some ⟨qp4, 0, none⟩), .pointer (some ⟨qo4, 0, none⟩)], .func (.func 31) #[] #[.pointer (some ⟨qp4, 0, none⟩), .pointer (some ⟨qo4, 0, none⟩)]])
             clear hm
             refine hK.out _ _ HSv7.out ?_
             clear hK K
             (try simp only [Act.put, zA4, zA5, zA6])
             generalize v6.setRow g9 #[.func (.func 28) #[] #[.pointer (some ⟨qp4, 0, none⟩), .pointer (some ⟨qo4, 0, none⟩)], .func (.func 30) #[] #[.pointer (some ⟨qp4, 0, none⟩), .pointer (some ⟨qo4, 0, none⟩)], .func (.func 31) #[] #[.pointer (some ⟨qp4, 0, none⟩), .pointer (some ⟨qo4, 0, none⟩)]] = v7 at *
             (refine wpOU_solo (zO rfl) ?_)
             intro K hK
             rw [if_pos (by rfl)]
             refine wp_store_row _ _ _ rfl g10 #[.func (.func 28) #[] #[.pointer (some ⟨qp9, 0, none⟩), .pointer (some ⟨qo9, 0, none⟩)], .func (.func 30) #[] #[.pointer (some ⟨qp9, 0, none⟩), .pointer (some ⟨qo9, 0, none⟩)], .func (.func 31) #[] #[.pointer (some ⟨qp9, 0, none⟩), .pointer (some ⟨qo9, 0, none⟩)]] rfl rfl _ _ HRg10v7.out (by kernel_rfl) rfl (ops_one _ _ _ _ _ _) ?_
             have hm : Mut g10 v7 (v7.setRow g10 #[.func (.func 28) #[] #[.pointer (some ⟨qp9, 0, none⟩), .pointer (some ⟨qo9, 0, none⟩)], .func (.func 30) #[] #[.pointer (some ⟨qp9, 0, none⟩), .pointer (some ⟨qo9, 0, none⟩)], .func (.func 31) #[] #[.pointer (some ⟨qp9, 0, none⟩), .pointer (some ⟨qo9, 0, none⟩)]]) := Mut.of_else (Else.setRow v7 g10 _)
             have HSv8 := zh (HSv7.out.trans (hm.below HGg10.out HSv7.out.size))
             have HW3v8 := zh (HW3v7.out.mut hm HN3xg10.out)
             have HW4v8 := zh (HW4v7.out.mut hm HN4xg10.out)
             have HW8v8 := zh (HW8v7.out.mut hm HN8xg10.out)
             have HW9v8 := zh (HW9v7.out.mut hm HN9xg10.out)
             have HRg9v8 := zh (HRg9v7.out.mut hm HDg9xg10.out)
             have HRg10v8 := zh (HRg10v7.out.setRow #[.func (.func 28) #[] #[.pointer (some ⟨qp9, 0, none⟩), .pointer (some ⟨qo9, 0, none⟩)], .func (.func 30) #[] #[.pointer (some ⟨qp9, 0, none⟩), .pointer (some ⟨qo9, 0, none⟩)], .func (.func 31) #[] #[.pointer (some ⟨qp9, 0, none⟩), .pointer (some ⟨qo9, 0, none⟩)]])
             clear hm
             refine hK.out _ _ HSv8.out ?_
             clear hK K
             (try simp only [Act.put, zA4, zA5, zA6])
             generalize v7.setRow g10 #[.func (.func 28) #[] #[.pointer (some ⟨qp9, 0, none⟩), .pointer (some ⟨qo9, 0, none⟩)], .func (.func 30) #[] #[.pointer (some ⟨qp9, 0, none⟩), .pointer (some ⟨qo9, 0, none⟩)], .func (.func 31) #[] #[.pointer (some ⟨qp9, 0, none⟩), .pointer (some ⟨qo9, 0, none⟩)]] = v8 at *
             refine wpOU_done ?_
             go_wp2
             go_meet
             case rel => exact ⟨g9, g10, qp3, qo3, qp4, qo4, qp8, qo8, qp9, qo9, rfl, rfl, zh ⟨HGg9.out, HGg10.out⟩, HRg9v8.out, HRg10v8.out, HW3v8.out, HW4v8.out, HW8v8.out, HW9v8.out, HSv8.out⟩
            ·(refine wpOU_solo (zO rfl) ?_)
             intro K hK
             go_simp
             have hb : Below v4.heap.size v4 (v4.alloc (.cells #[.nilFunc, .nilFunc, .nilFunc] 33)) := (zB _ _).alloc (zL _) _
             have HSv5 := zh (HSv4.out.trans (hb.mono HSv4.out.size))
             have HW3v5 := zh (HW3v4.out.below hb)
             have HW4v5 := zh (HW4v4.out.below hb)
             have HW8v5 := zh (HW8v4.out.below hb)
             have HRg10v5 := zh (HRg10v4.out.below hb HRg10v4.out.lt)
             have HRg9v5 : Hid (RowAt (v4.alloc (.cells #[.nilFunc, .nilFunc, .nilFunc] 33)) v4.heap.size 33 #[.nilFunc, .nilFunc, .nilFunc]) := zh (RowAt.new _ _ _)
             have HGg9 : Hid (w8.heap.size ≤ v4.heap.size) := zh HSv4.out.size
             have HN3xg9 := zh HW3v4.out.ne_new
             have HN4xg9 := zh HW4v4.out.ne_new
             have HN8xg9 := zh HW8v4.out.ne_new
             have HDg10xg9 : Hid (g10 ≠ v4.heap.size) := zh (Nat.ne_of_lt HRg10v4.out.lt)
             have HDg9xg10 : Hid (v4.heap.size ≠ g10) := zh fun e => HDg10xg9.out e.symm
             clear hb
             refine hK.out _ _ HSv5.out ?_
             clear hK K
             (try simp only [Act.put, zA4, zA5, zA6])
             generalize v4.heap.size = g9 at *
             generalize (v4.alloc (.cells #[.nilFunc, .nilFunc, .nilFunc] 33)) = v5 at *
             (refine wpOU_solo (zO rfl) ?_)
             intro K hK
             go_simp
             refine (HWc.out v5 _ _ _ _ _ _ HSv5.out).mono ?_
             rintro e v6 ⟨qo9, qp9, rfl, ho, hp, h1, h2, hb⟩
             have HSv6 := zh (HSv5.out.trans (hb.mono HSv5.out.size))
             have HW3v6 := zh (HW3v5.out.below hb)
             have HW4v6 := zh (HW4v5.out.below hb)
             have HW8v6 := zh (HW8v5.out.below hb)
             have HRg10v6 := zh (HRg10v5.out.below hb HRg10v5.out.lt)
             have HRg9v6 := zh (HRg9v5.out.below hb HRg9v5.out.lt)
             have HN9xg10 := zh (ne_old HRg10v5.out.lt h2 h1)
             have HN9xg9 := zh (ne_old HRg9v5.out.lt h2 h1)
             have HW9v6 : Hid (Wrp v6 w8.heap.size qp9 qo9 gc 28 30 31 #[.pointer (some ⟨qp8, 0, none⟩), .pointer (some ⟨qo8, 0, none⟩)] #[.pointer (some ⟨qp8, 0, none⟩), .pointer (some ⟨qo8, 0, none⟩)] #[.pointer (some ⟨qp8, 0, none⟩), .pointer (some ⟨qo8, 0, none⟩)]) := zh ⟨hp, ho, zM HSv5.out.size h2, zM HSv5.out.size h1⟩
             clear ho hp h1 h2 hb
             refine hK.out _ _ HSv6.out ?_
             clear hK K
             (try simp only [Act.put, zA4, zA5, zA6])
             (refine wpOU_solo (zO rfl) ?_)
             intro K hK
             rw [if_pos (by rfl)]
             refine wp_store_row _ _ _ rfl g9 #[.func (.func 28) #[] #[.pointer (some ⟨qp4, 0, none⟩), .pointer (some ⟨qo4, 0, none⟩)], .func (.func 30) #[] #[.pointer (some ⟨qp4, 0, none⟩), .pointer (some ⟨qo4, 0, none⟩)], .func (.func 31) #[] #[.pointer (some ⟨qp4, 0, none⟩), .pointer (some ⟨qo4, 0, none⟩)]] rfl rfl _ _ HRg9v6.out (by kernel_rfl) rfl (ops_one _ _ _ _ _ _) ?_
             have hm : Mut g9 v6 (v6.setRow g9 #[.func (.func 28) #[] #[.pointer (some ⟨qp4, 0, none⟩), .pointer (some ⟨qo4, 0, none⟩)], .func (.func 30) #[] #[.pointer (some ⟨qp4, 0, none⟩), .pointer (some ⟨qo4, 0, none⟩)], .func (.func 31) #[] #[.pointer (some ⟨qp4, 0, none⟩), .pointer (some ⟨qo4, 0, none⟩)]]) := Mut.of_else (Else.setRow v6 g9 _)
             have HSv7 := zh (HSv6.out.trans (hm.below HGg9.out HSv6.out.size))
             have HW3v7 := zh (HW3v6.out.mut hm HN3xg9.out)
             have HW4v7 := zh (HW4v6.out.mut hm HN4xg9.out)
             have HW8v7 := zh (HW8v6.out.mut hm HN8xg9.out)
             have HW9v7 := zh (HW9v6.out.mut hm HN9xg9.out)
             have HRg10v7 := zh (HRg10v6.out.mut hm HDg10xg9.out)
             have HRg9v7 := zh (HRg9v6.out.setRow #[.func (.func 28) #[] #[.pointer (some ⟨qp4, 0, none⟩), .pointer (some ⟨qo4, 0, none⟩)], .func (.func 30) #[] #[.pointer (some ⟨qp4, 0, none⟩), .pointer (some ⟨qo4, 0, none⟩)], .func (.func 31) #[] #[.pointer (some ⟨qp4, 0, none⟩), .pointer (some ⟨qo4, 0, none⟩)]])
             clear hm
             refine hK.out _ _ HSv7.out ?_
             clear hK K
             (try simp only [Act.put, zA4, zA5, zA6])
             generalize v6.setRow g9 #[.func (.func 28) #[] #[.pointer (some ⟨qp4, 0, none⟩), .pointer (some ⟨qo4, 0, none⟩)], .func (.func 30) #[] #[.pointer (some ⟨qp4, 0, none⟩), .pointer (some ⟨qo4, 0, none⟩)], .func (.func 31) #[] #[.pointer (some ⟨qp4, 0, none⟩), .pointer (some ⟨qo4, 0, none⟩)]] = v7 at *
             (refine wpOU_solo (zO rfl) ?_)
             intro K hK
             rw [if_pos (by rfl)]
             refine wp_store_row _ _ _ rfl g10 #[.func (.func 28) #[] #[.pointer (some ⟨qp9, 0, none⟩), .pointer (some ⟨qo9, 0, none⟩)], .func (.func 30) #[] #[.pointer (some ⟨qp9, 0, none⟩), .pointer (some ⟨qo9, 0, none⟩)], .func (.func 31) #[] #[.pointer (some ⟨qp9, 0, none⟩), .pointer (some ⟨qo9, 0, none⟩)]] rfl rfl _ _ HRg10v7.out (by kernel_rfl) rfl (ops_one _ _ _ _ _ _) ?_
             have hm : Mut g10 v7 (v7.setRow g10 #[.func (.func 28) #[] #[.pointer (some ⟨qp9, 0, none⟩), .pointer (some ⟨qo9, 0, none⟩)], .func (.func 30) #[] #[.pointer (some ⟨qp9, 0, none⟩), .pointer (some ⟨qo9, 0, none⟩)], .func (.func 31) #[] #[.pointer (some ⟨qp9, 0, none⟩), .pointer (some ⟨qo9, 0, none⟩)]]) := Mut.of_else (Else.setRow v7 g10 _)
             have HSv8 := zh (HSv7.out.trans (hm.below HGg10.out HSv7.out.size))
             have HW3v8 := zh (HW3v7.out.mut hm HN3xg10.out)
             have HW4v8 := zh (HW4v7.out.mut hm HN4xg10.out)
             have HW8v8 := zh (HW8v7.out.mut hm HN8xg10.out)
             have HW9v8 := zh (HW9v7.out.mut hm HN9xg10.out)
             have HRg9v8 := zh (HRg9v7.out.mut hm HDg9xg10.out)
             have HRg10v8 := zh (HRg10v7.out.setRow #[.func (.func 28) #[] #[.pointer (some ⟨qp9, 0, none⟩), .pointer (some ⟨qo9, 0, none⟩)], .func (.func 30) #[] #[.pointer (some ⟨qp9, 0, none⟩), .pointer (some ⟨qo9, 0, none⟩)], .func (.func 31) #[] #[.pointer (some ⟨qp9, 0, none⟩), .pointer (some ⟨qo9, 0, none⟩)]])
             clear hm
             refine hK.out _ _ HSv8.out ?_
             clear hK K
             (try simp only [Act.put, zA4, zA5, zA6])
             generalize v7.setRow g10 #[.func (.func 28) #[] #[.pointer (some ⟨qp9, 0, none⟩), .pointer (some ⟨qo9, 0, none⟩)], .func (.func 30) #[] #[.pointer (some ⟨qp9, 0, none⟩), .pointer (some ⟨qo9, 0, none⟩)], .func (.func 31) #[] #[.pointer (some ⟨qp9, 0, none⟩), .pointer (some ⟨qo9, 0, none⟩)]] = v8 at *
             refine wpOU_done ?_
             go_wp2
             go_meet
             case rel => exact ⟨g9, g10, qp3, qo3, qp4, qo4, qp8, qo8, qp9, qo9, rfl, rfl, zh ⟨HGg9.out, HGg10.out⟩, HRg9v8.out, HRg10v8.out, HW3v8.out, HW4v8.out, HW8v8.out, HW9v8.out, HSv8.out⟩
           ·(refine wpOU_solo (zO rfl) ?_)
            intro K hK
            go_simp
            have hb : Below v3.heap.size v3 (v3.alloc (.cells #[.nilFunc, .nilFunc, .nilFunc] 33)) := (zB _ _).alloc (zL _) _
            have HSv4 := zh (HSv3.out.trans (hb.mono HSv3.out.size))
            have HW3v4 := zh (HW3v3.out.below hb)
            have HW4v4 := zh (HW4v3.out.below hb)
            have HRg10v4 := zh (HRg10v3.out.below hb HRg10v3.out.lt)
            have HRg9v4 : Hid (RowAt (v3.alloc (.cells #[.nilFunc, .nilFunc, .nilFunc] 33)) v3.heap.size 33 #[.nilFunc, .nilFunc, .nilFunc]) := zh (RowAt.new _ _ _)
            have HGg9 : Hid (w8.heap.size ≤ v3.heap.size) := zh HSv3.out.size
            have HN3xg9 := zh HW3v3.out.ne_new
            have HN4xg9 := zh HW4v3.out.ne_new
            have HDg10xg9 : Hid (g10 ≠ v3.heap.size) := zh (Nat.ne_of_lt HRg10v3.out.lt)
            have HDg9xg10 : Hid (v3.heap.size ≠ g10) := zh fun e => HDg10xg9.out e.symm
            clear hb
            refine hK.out _ _ HSv4.out ?_
            clear hK K
            (try simp only [Act.put, zA4, zA5, zA6])
            generalize v3.heap.size = g9 at *
            generalize (v3.alloc (.cells #[.nilFunc, .nilFunc, .nilFunc] 33)) = v4 at *
            (refine wpOU_solo (zO rfl) ?_)
            intro K hK
            go_simp
            refine (HWc.out v4 _ _ _ _ _ _ HSv4.out).mono ?_
            rintro e v5 ⟨qo8, qp8, rfl, ho, hp, h1, h2, hb⟩
            have HSv5 := zh (HSv4.out.trans (hb.mono HSv4.out.size))
            have HW3v5 := zh (HW3v4.out.below hb)
            have HW4v5 := zh (HW4v4.out.below hb)
            have HRg10v5 := zh (HRg10v4.out.below hb HRg10v4.out.lt)
            have HRg9v5 := zh (HRg9v4.out.below hb HRg9v4.out.lt)
            have HN8xg10 := zh (ne_old HRg10v4.out.lt h2 h1)
            have HN8xg9 := zh (ne_old HRg9v4.out.lt h2 h1)
            have HW8v5 : Hid (Wrp v5 w8.heap.size qp8 qo8 gc 19 21 43 #[.pointer (some ⟨gow, 0, none⟩)] #[] #[.pointer (some ⟨go, 0, none⟩), .pointer (some ⟨gp, 0, none⟩), .pointer (some ⟨gt, 0, none⟩), .pointer (some ⟨gs, 0, none⟩)]) := zh ⟨hp, ho, zM HSv4.out.size h2, zM HSv4.out.size h1⟩
            clear ho hp h1 h2 hb
            refine hK.out _ _ HSv5.out ?_
            clear hK K
            (try simp only [Act.put, zA4, zA5, zA6])
            (refine wpOU_solo (zO rfl) ?_)
            intro K hK
            go_simp
            refine (HWc.out v5 _ _ _ _ _ _ HSv5.out).mono ?_
            rintro e v6 ⟨qo9, qp9, rfl, ho, hp, h1, h2, hb⟩
            have HSv6 := zh (HSv5.out.trans (hb.mono HSv5.out.size))
            have HW3v6 := zh (HW3v5.out.below hb)
            have HW4v6 := zh (HW4v5.out.below hb)
            have HW8v6 := zh (HW8v5.out.below hb)
            have HRg10v6 := zh (HRg10v5.out.below hb HRg10v5.out.lt)
            have HRg9v6 := zh (HRg9v5.out.below hb HRg9v5.out.lt)
            have HN9xg10 := zh (ne_old HRg10v5.out.lt h2 h1)
            have HN9xg9 := zh (ne_old HRg9v5.out.lt h2 h1)
            have HW9v6 : Hid (Wrp v6 w8.heap.size qp9 qo9 gc 28 30 31 #[.pointer (some ⟨qp8, 0, none⟩), .pointer (some ⟨qo8, 0, none⟩)] #[.pointer (some ⟨qp8, 0, none⟩), .pointer (some ⟨qo8, 0, none⟩)] #[.pointer (some ⟨qp8, 0, none⟩), .pointer (some ⟨qo8, 0, none⟩)]) := zh ⟨hp, ho, zM HSv5.out.size h2, zM HSv5.out.size h1⟩
            clear ho hp h1 h2 hb
            refine hK.out _ _ HSv6.out ?_
            clear hK K
            (try simp only [Act.put, zA4, zA5, zA6])
            (refine wpOU_solo (zO rfl) ?_)
            intro K hK
            rw [if_pos (by rfl)]
            refine wp_store_row _ _ _ rfl g9 #[.func (.func 28) #[] #[.pointer (some ⟨qp4, 0, none⟩), .pointer (some ⟨qo4, 0, none⟩)], .func (.func 30) #[] #[.pointer (some ⟨qp4, 0, none⟩), .pointer (some ⟨qo4, 0, none⟩)], .func (.func 31) #[] #[.pointer (some ⟨qp4, 0, none⟩), .pointer (some ⟨qo4, 0, none⟩)]] rfl rfl _ _ HRg9v6.out (by kernel_rfl) rfl (ops_one _ _ _ _ _ _) ?_
            have hm : Mut g9 v6 (v6.setRow g9 #[.func (.func 28) #[] #[.pointer (some ⟨qp4, 0, none⟩), .pointer (some ⟨qo4, 0, none⟩)], .func (.func 30) #[] #[.pointer (some ⟨qp4, 0, none⟩), .pointer (some ⟨qo4, 0, none⟩)], .func (.func 31) #[] #[.pointer (some ⟨qp4, 0, none⟩), .pointer (some ⟨qo4, 0, none⟩)]]) := Mut.of_else (Else.setRow v6 g9 _)
            have HSv7 := zh (HSv6.out.trans (hm.below HGg9.out HSv6.out.size))
            have HW3v7 := zh (HW3v6.out.mut hm HN3xg9.out)
            have HW4v7 := zh (HW4v6.out.mut hm HN4xg9.out)
            have HW8v7 := zh (HW8v6.out.mut hm HN8xg9.out)
            have HW9v7 := zh (HW9v6.out.mut hm HN9xg9.out)
            have HRg10v7 := zh (HRg10v6.out.mut hm HDg10xg9.out)
            have HRg9v7 := zh (HRg9v6.out.setRow #[.func (.func 28) #[] #[.pointer (some ⟨qp4, 0, none⟩), .pointer (some ⟨qo4, 0, none⟩)], .func (.func 30) #[] #[.pointer (some ⟨qp4, 0, none⟩), .pointer (some ⟨qo4, 0, none⟩)], .func (.func 31) #[] #[.pointer (some ⟨qp4, 0, none⟩), .pointer (some ⟨qo4, 0, none⟩)]])
            clear hm
            refine hK.out _ _ HSv7.out ?_
            clear hK K
            (try simp only [Act.put, zA4, zA5, zA6])
            generalize v6.setRow g9 #[.func (.func 28) #[] #[.pointer (some ⟨qp4, 0, none⟩), .pointer (some ⟨qo4, 0, none⟩)], .func (.func 30) #[] #[.pointer (some ⟨qp4, 0, none⟩), .pointer (some ⟨qo4, 0, none⟩)], .func (.func 31) #[] #[.pointer (some ⟨qp4, 0, none⟩), .pointer (some ⟨qo4, 0, none⟩)]] = v7 at *
            (refine wpOU_solo (zO rfl) ?_)
            intro K hK
            rw [if_pos (by rfl)]
            refine wp_store_row _ _ _ rfl g10 #[.func (.func 28) #[] #[.pointer (some ⟨qp9, 0, none⟩), .pointer (some ⟨qo9, 0, none⟩)], .func (.func 30) #[] #[.pointer (some ⟨qp9, 0, none⟩), .pointer (some ⟨qo9, 0, none⟩)], .func (.func 31) #[] #[.pointer (some ⟨qp9, 0, none⟩), .pointer (some ⟨qo9, 0, none⟩)]] rfl rfl _ _ HRg10v7.out (by kernel_rfl) rfl (ops_one _ _ _ _ _ _) ?_
            have hm : Mut g10 v7 (v7.setRow g10 #[.func (.func 28) #[] #[.pointer (some ⟨qp9, 0, none⟩), .pointer (some ⟨qo9, 0, none⟩)], .func (.func 30) #[] #[.pointer (some ⟨qp9, 0, none⟩), .pointer (some ⟨qo9, 0, none⟩)], .func (.func 31) #[] #[.pointer (some ⟨qp9, 0, none⟩), .pointer (some ⟨qo9, 0, none⟩)]]) := Mut.of_else (Else.setRow v7 g10 _)
            have HSv8 := zh (HSv7.out.trans (hm.below HGg10.out HSv7.out.size))
            have HW3v8 := zh (HW3v7.out.mut hm HN3xg10.out)
            have HW4v8 := zh (HW4v7.out.mut hm HN4xg10.out)
            have HW8v8 := zh (HW8v7.out.mut hm HN8xg10.out)
            have HW9v8 := zh (HW9v7.out.mut hm HN9xg10.out)
            have HRg9v8 := zh (HRg9v7.out.mut hm HDg9xg10.out)
            have HRg10v8 := zh (HRg10v7.out.setRow #[.func (.func 28) #[] #[.pointer (some ⟨qp9, 0, none⟩), .pointer (some ⟨qo9, 0, none⟩)], .func (.func 30) #[] #[.pointer (some ⟨qp9, 0, none⟩), .pointer (some ⟨qo9, 0, none⟩)], .func (.func 31) #[] #[.pointer (some ⟨qp9, 0, none⟩), .pointer (some ⟨qo9, 0, none⟩)]])
            clear hm
            refine hK.out _ _ HSv8.out ?_
            clear hK K
            (try simp only [Act.put, zA4, zA5, zA6])
            generalize v7.setRow g10 #[.func (.func 28) #[] #[.pointer (some ⟨qp9, 0, none⟩), .pointer (some ⟨qo9, 0, none⟩)], .func (.func 30) #[] #[.pointer (some ⟨qp9, 0, none⟩), .pointer (some ⟨qo9, 0, none⟩)], .func (.func 31) #[] #[.pointer (some ⟨qp9, 0, none⟩), .pointer (some ⟨qo9, 0, none⟩)]] = v8 at *
            refine wpOU_done ?_
            go_wp2
            go_meet
            case rel => exact ⟨g9, g10, qp3, qo3, qp4, qo4, qp8, qo8, qp9, qo9, rfl, rfl, zh ⟨HGg9.out, HGg10.out⟩, HRg9v8.out, HRg10v8.out, HW3v8.out, HW4v8.out, HW8v8.out, HW9v8.out, HSv8.out⟩
          ·(refine wpOU_solo (zO rfl) ?_)
           intro K hK
           go_simp
           have hb : Below v2.heap.size v2 (v2.alloc (.cells #[.nilFunc, .nilFunc, .nilFunc] 33)) := (zB _ _).alloc (zL _) _
           have HSv3 := zh (HSv2.out.trans (hb.mono HSv2.out.size))
           have HW3v3 := zh (HW3v2.out.below hb)
           have HRg10v3 := zh (HRg10v2.out.below hb HRg10v2.out.lt)
           have HRg9v3 : Hid (RowAt (v2.alloc (.cells #[.nilFunc, .nilFunc, .nilFunc] 33)) v2.heap.size 33 #[.nilFunc, .nilFunc, .nilFunc]) := zh (RowAt.new _ _ _)
           have HGg9 : Hid (w8.heap.size ≤ v2.heap.size) := zh HSv2.out.size
           have HN3xg9 := zh HW3v2.out.ne_new
           have HDg10xg9 : Hid (g10 ≠ v2.heap.size) := zh (Nat.ne_of_lt HRg10v2.out.lt)
           have HDg9xg10 : Hid (v2.heap.size ≠ g10) := zh fun e => HDg10xg9.out e.symm
           clear hb
           refine hK.out _ _ HSv3.out ?_
           clear hK K
           (try simp only [Act.put, zA4, zA5, zA6])
           generalize v2.heap.size = g9 at *
           generalize (v2.alloc (.cells #[.nilFunc, .nilFunc, .nilFunc] 33)) = v3 at *
           (refine wpOU_solo (zO rfl) ?_)
           intro K hK
           go_simp
           refine (HWa.out v3 _ _ _ _ _ _ HSv3.out).mono ?_
           rintro e v4 ⟨qo4, qp4, rfl, ho, hp, h1, h2, hb⟩
           have HSv4 := zh (HSv3.out.trans (hb.mono HSv3.out.size))
           have HW3v4 := zh (HW3v3.out.below hb)
           have HRg10v4 := zh (HRg10v3.out.below hb HRg10v3.out.lt)
           have HRg9v4 := zh (HRg9v3.out.below hb HRg9v3.out.lt)
           have HN4xg10 := zh (ne_old HRg10v3.out.lt h2 h1)
           have HN4xg9 := zh (ne_old HRg9v3.out.lt h2 h1)
           have HW4v4 : Hid (Wrp v4 w8.heap.size qp4 qo4 ga 28 30 31 #[.pointer (some ⟨qp3, 0, none⟩), .pointer (some ⟨qo3, 0, none⟩)] #[.pointer (some ⟨qp3, 0, none⟩), .pointer (some ⟨qo3, 0, none⟩)] #[.pointer (some ⟨qp3, 0, none⟩), .pointer (some ⟨qo3, 0, none⟩)]) := zh ⟨hp, ho, zM HSv3.out.size h2, zM HSv3.out.size h1⟩
           clear ho hp h1 h2 hb
           refine hK.out _ _ HSv4.out ?_
           clear hK K
           (try simp only [Act.put, zA4, zA5, zA6])
           (refine wpOU_solo (zO rfl) ?_)
           intro K hK
           go_simp
           refine (HWc.out v4 _ _ _ _ _ _ HSv4.out).mono ?_
           rintro e v5 ⟨qo8, qp8, rfl, ho, hp, h1, h2, hb⟩
           have HSv5 := zh (HSv4.out.trans (hb.mono HSv4.out.size))
           have HW3v5 := zh (HW3v4.out.below hb)
           have HW4v5 := zh (HW4v4.out.below hb)
           have HRg10v5 := zh (HRg10v4.out.below hb HRg10v4.out.lt)
           have HRg9v5 := zh (HRg9v4.out.below hb HRg9v4.out.lt)
           have HN8xg10 := zh (ne_old HRg10v4.out.lt h2 h1)
           have HN8xg9 := zh (ne_old HRg9v4.out.lt h2 h1)
           have HW8v5 : Hid (Wrp v5 w8.heap.size qp8 qo8 gc 19 21 43 #[.pointer (some ⟨gow, 0, none⟩)] #[] #[.pointer (some ⟨go, 0, none⟩), .pointer (some ⟨gp, 0, none⟩), .pointer (some ⟨gt, 0, none⟩), .pointer (some ⟨gs, 0, none⟩)]) := zh ⟨hp, ho, zM HSv4.out.size h2, zM HSv4.out.size h1⟩
           clear ho hp h1 h2 hb
           refine hK.out _ _ HSv5.out ?_
           clear hK K
           (try simp only [Act.put, zA4, zA5, zA6])
           (refine wpOU_solo (zO rfl) ?_)
           intro K hK
           go_simp
           refine (HWc.out v5 _ _ _ _ _ _ HSv5.out).mono ?_
           rintro e v6 ⟨qo9, qp9, rfl, ho, hp, h1, h2, hb⟩
           have HSv6 := zh (HSv5.out.trans (hb.mono HSv5.out.size))
           have HW3v6 := zh (HW3v5.out.below hb)
           have HW4v6 := zh (HW4v5.out.below hb)
           have HW8v6 := zh (HW8v5.out.below hb)
           have HRg10v6 := zh (HRg10v5.out.below hb HRg10v5.out.lt)
           have HRg9v6 := zh (HRg9v5.out.below hb HRg9v5.out.lt)
           have HN9xg10 := zh (ne_old HRg10v5.out.lt h2 h1)
           have HN9xg9 := zh (ne_old HRg9v5.out.lt h2 h1)
           have HW9v6 : Hid (Wrp v6 w8.heap.size qp9 qo9 gc 28 30 31 #[.pointer (some ⟨qp8, 0, none⟩), .pointer (some ⟨qo8, 0, none⟩)] #[.pointer (some ⟨qp8, 0, none⟩), .pointer (some ⟨qo8, 0, none⟩)] #[.pointer (some ⟨qp8, 0, none⟩), .pointer (some ⟨qo8, 0, none⟩)]) := zh ⟨hp, ho, zM HSv5.out.size h2, zM HSv5.out.size h1⟩
           clear ho hp h1 h2 hb
           refine hK.out _ _ HSv6.out ?_
           clear hK K
           (try simp only [Act.put, zA4, zA5, zA6])
           (refine wpOU_solo (zO rfl) ?_)
           intro K hK
           rw [if_pos (by rfl)]
           refine wp_store_row _ _ _ rfl g9 #[.func (.func 28) #[] #[.pointer (some ⟨qp4, 0, none⟩), .pointer (some ⟨qo4, 0, none⟩)], .func (.func 30) #[] #[.pointer (some ⟨qp4, 0, none⟩), .pointer (some ⟨qo4, 0, none⟩)], .func (.func 31) #[] #[.pointer (some ⟨qp4, 0, none⟩), .pointer (some ⟨qo4, 0, none⟩)]] rfl rfl _ _ HRg9v6.out (by kernel_rfl) rfl (ops_one _ _ _ _ _ _) ?_
           have hm : Mut g9 v6 (v6.setRow g9 #[.func (.func 28) #[] #[.pointer (some ⟨qp4, 0, none⟩), .pointer (some ⟨qo4, 0, none⟩)], .func (.func 30) #[] #[.pointer (some ⟨qp4, 0, none⟩), .pointer (some ⟨qo4, 0, none⟩)], .func (.func 31) #[] #[.pointer (some ⟨qp4, 0, none⟩), .pointer (some ⟨qo4, 0, none⟩)]]) := Mut.of_else (Else.setRow v6 g9 _)
           have HSv7 := zh (HSv6.out.trans (hm.below HGg9.out HSv6.out.size))
           have HW3v7 := zh (HW3v6.out.mut hm HN3xg9.out)
           have HW4v7 := zh (HW4v6.out.mut hm HN4xg9.out)
           have HW8v7 := zh (HW8v6.out.mut hm HN8xg9.out)
           have HW9v7 := zh (HW9v6.out.mut hm HN9xg9.out)
           have HRg10v7 := zh (HRg10v6.out.mut hm HDg10xg9.out)
           have HRg9v7 := zh (HRg9v6.out.setRow #[.func (.func 28) #[] #[.pointer (some ⟨qp4, 0, none⟩), .pointer (some ⟨qo4, 0, none⟩)], .func (.func 30) #[] #[.pointer (some ⟨qp4, 0, none⟩), .pointer (some ⟨qo4, 0, none⟩)], .func (.func 31) #[] #[.pointer (some ⟨qp4, 0, none⟩), .pointer (some ⟨qo4, 0, none⟩)]])
           clear hm
           refine hK.out _ _ HSv7.out ?_
           clear hK K
           (try simp only [Act.put, zA4, zA5, zA6])
           generalize v6.setRow g9 #[.func (.func 28) #[] #[.pointer (some ⟨qp4, 0, none⟩), .pointer (some ⟨qo4, 0, none⟩)], .func (.func 30) #[] #[.pointer (some ⟨qp4, 0, none⟩), .pointer (some ⟨qo4, 0, none⟩)], .func (.func 31) #[] #[.pointer (some ⟨qp4, 0, none⟩), .pointer (some ⟨qo4, 0, none⟩)]] = v7 at *
           (refine wpOU_solo (zO rfl) ?_)
           intro K hK
           rw [if_pos (by rfl)]
           refine wp_store_row _ _ _ rfl g10 #[.func (.func 28) #[] #[.pointer (some ⟨qp9, 0, none⟩), .pointer (some ⟨qo9, 0, none⟩)], .func (.func 30) #[] #[.pointer (some ⟨qp9, 0, none⟩), .pointer (some ⟨qo9, 0, none⟩)], .func (.func 31) #[] #[.pointer (some ⟨qp9, 0, none⟩), .pointer (some ⟨qo9, 0, none⟩)]] rfl rfl _ _ HRg10v7.out (by kernel_rfl) rfl (ops_one _ _ _ _ _ _) ?_
           have hm : Mut g10 v7 (v7.setRow g10 #[.func (.func 28) #[] #[.pointer (some ⟨qp9, 0, none⟩), .pointer (some ⟨qo9, 0, none⟩)], .func (.func 30) #[] #[.pointer (some ⟨qp9, 0, none⟩), .pointer (some ⟨qo9, 0, none⟩)], .func (.func 31) #[] #[.pointer (some ⟨qp9, 0, none⟩), .pointer (some ⟨qo9, 0, none⟩)]]) := Mut.of_else (Else.setRow v7 g10 _)
           have HSv8 := zh (HSv7.out.trans (hm.below HGg10.out HSv7.out.size))
           have HW3v8 := zh (HW3v7.out.mut hm HN3xg10.out)
           have HW4v8 := zh (HW4v7.out.mut hm HN4xg10.out)
           have HW8v8 := zh (HW8v7.out.mut hm HN8xg10.out)
           have HW9v8 := zh (HW9v7.out.mut hm HN9xg10.out)
           have HRg9v8 := zh (HRg9v7.out.mut hm HDg9xg10.out)
           have HRg10v8 := zh (HRg10v7.out.setRow #[.func (.func 28) #[] #[.pointer (some ⟨qp9, 0, none⟩), .pointer (some ⟨qo9, 0, none⟩)], .func (.func 30) #[] #[.pointer (some ⟨qp9, 0, none⟩), .pointer (some ⟨qo9, 0, none⟩)], .func (.func 31) #[] #[.pointer (some ⟨qp9, 0, none⟩), .pointer (some ⟨qo9, 0, none⟩)]])
           clear hm
           refine hK.out _ _ HSv8.out ?_
           clear hK K
           (try simp only [Act.put, zA4, zA5, zA6])
           generalize v7.setRow g10 #[.func (.func 28) #[] #[.pointer (some ⟨qp9, 0, none⟩), .pointer (some ⟨qo9, 0, none⟩)], .func (.func 30) #[] #[.pointer (some ⟨qp9, 0, none⟩), .pointer (some ⟨qo9, 0, none⟩)], .func (.func 31) #[] #[.pointer (some ⟨qp9, 0, none⟩), .pointer (some ⟨qo9, 0, none⟩)]] = v8 at *
           refine wpOU_done ?_
           go_wp2
           go_meet
           case rel => exact ⟨g9, g10, qp3, qo3, qp4, qo4, qp8, qo8, qp9, qo9, rfl, rfl, zh ⟨HGg9.out, HGg10.out⟩, HRg9v8.out, HRg10v8.out, HW3v8.out, HW4v8.out, HW8v8.out, HW9v8.out, HSv8.out⟩
        ·(refine wpOU_solo (zO rfl) ?_)
         intro K hK
         go_simp
         have hb : Below v0.heap.size v0 (v0.alloc (.cells #[.nilFunc, .nilFunc, .nilFunc] 33)) := (zB _ _).alloc (zL _) _
         have HSv1 := zh (HSv0.out.trans (hb.mono HSv0.out.size))
         have HRg9v1 : Hid (RowAt (v0.alloc (.cells #[.nilFunc, .nilFunc, .nilFunc] 33)) v0.heap.size 33 #[.nilFunc, .nilFunc, .nilFunc]) := zh (RowAt.new _ _ _)
         have HGg9 : Hid (w8.heap.size ≤ v0.heap.size) := zh HSv0.out.size
         clear hb
         refine hK.out _ _ HSv1.out ?_
         clear hK K
         (try simp only [Act.put, zA4, zA5, zA6])
         generalize v0.heap.size = g9 at *
         generalize (v0.alloc (.cells #[.nilFunc, .nilFunc, .nilFunc] 33)) = v1 at *
         refine wpOU_two ?_ ?_
         ·(refine wpOU_solo (zO rfl) ?_)
          intro K hK
          go_simp
          refine (HWb.out v1 _ _ _ _ _ _ HSv1.out).mono ?_
          rintro e v2 ⟨qo3, qp3, rfl, ho, hp, h1, h2, hb⟩
          have HSv2 := zh (HSv1.out.trans (hb.mono HSv1.out.size))
          have HRg9v2 := zh (HRg9v1.out.below hb HRg9v1.out.lt)
          have HN3xg9 := zh (ne_old HRg9v1.out.lt h2 h1)
          have HW3v2 : Hid (Wrp v2 w8.heap.size qp3 qo3 gb 19 21 43 #[.pointer (some ⟨gow, 0, none⟩)] #[] #[.pointer (some ⟨go, 0, none⟩), .pointer (some ⟨gp, 0, none⟩), .pointer (some ⟨gt, 0, none⟩), .pointer (some ⟨gs, 0, none⟩)]) := zh ⟨hp, ho, zM HSv1.out.size h2, zM HSv1.out.size h1⟩
          clear ho hp h1 h2 hb
          refine hK.out _ _ HSv2.out ?_
          clear hK K
          (try simp only [Act.put, zA4, zA5, zA6])
          refine wpOU_two ?_ ?_
          ·(refine wpOU_solo (zO rfl) ?_)
           intro K hK
           go_simp
           refine (HWa.out v2 _ _ _ _ _ _ HSv2.out).mono ?_
           rintro e v3 ⟨qo4, qp4, rfl, ho, hp, h1, h2, hb⟩
           have HSv3 := zh (HSv2.out.trans (hb.mono HSv2.out.size))
           have HW3v3 := zh (HW3v2.out.below hb)
           have HRg9v3 := zh (HRg9v2.out.below hb HRg9v2.out.lt)
           have HN4xg9 := zh (ne_old HRg9v2.out.lt h2 h1)
           have HW4v3 : Hid (Wrp v3 w8.heap.size qp4 qo4 ga 28 30 31 #[.pointer (some ⟨qp3, 0, none⟩), .pointer (some ⟨qo3, 0, none⟩)] #[.pointer (some ⟨qp3, 0, none⟩), .pointer (some ⟨qo3, 0, none⟩)] #[.pointer (some ⟨qp3, 0, none⟩), .pointer (some ⟨qo3, 0, none⟩)]) := zh ⟨hp, ho, zM HSv2.out.size h2, zM HSv2.out.size h1⟩
           clear ho hp h1 h2 hb
           refine hK.out _ _ HSv3.out ?_
           clear hK K
           (try simp only [Act.put, zA4, zA5, zA6])
           refine wpOU_two ?_ ?_
           ·(refine wpOU_solo (zO rfl) ?_)
            intro K hK
            go_simp
            refine (HWc.out v3 _ _ _ _ _ _ HSv3.out).mono ?_
            rintro e v4 ⟨qo8, qp8, rfl, ho, hp, h1, h2, hb⟩
            have HSv4 := zh (HSv3.out.trans (hb.mono HSv3.out.size))
            have HW3v4 := zh (HW3v3.out.below hb)
            have HW4v4 := zh (HW4v3.out.below hb)
            have HRg9v4 := zh (HRg9v3.out.below hb HRg9v3.out.lt)
            have HN8xg9 := zh (ne_old HRg9v3.out.lt h2 h1)
            have HW8v4 : Hid (Wrp v4 w8.heap.size qp8 qo8 gc 19 21 43 #[.pointer (some ⟨gow, 0, none⟩)] #[] #[.pointer (some ⟨go, 0, none⟩), .pointer (some ⟨gp, 0, none⟩), .pointer (some ⟨gt, 0, none⟩), .pointer (some ⟨gs, 0, none⟩)]) := zh ⟨hp, ho, zM HSv3.out.size h2, zM HSv3.out.size h1⟩
            clear ho hp h1 h2 hb
            refine hK.out _ _ HSv4.out ?_
            clear hK K
            (try simp only [Act.put, zA4, zA5, zA6])
            refine wpOU_two ?_ ?_
            ·(refine wpOU_solo (zO rfl) ?_)
             intro K hK
             go_simp
             refine (HWc.out v4 _ _ _ _ _ _ HSv4.out).mono ?_
             rintro e v5 ⟨qo9, qp9, rfl, ho, hp, h1, h2, hb⟩
             have HSv5 := zh (HSv4.out.trans (hb.mono HSv4.out.size))
             have HW3v5 := zh (HW3v4.out.below hb)
             have HW4v5 := zh (HW4v4.out.below hb)
             have HW8v5 := zh (HW8v4.out.below hb)
             have HRg9v5 := zh (HRg9v4.out.below hb HRg9v4.out.lt)
             have HN9xg9 := zh (ne_old HRg9v4.out.lt h2 h1)
             have HW9v5 : Hid (Wrp v5 w8.heap.size qp9 qo9 gc 28 30 31 #[.pointer (some ⟨qp8, 0, none⟩), .pointer (some ⟨qo8, 0, none⟩)] #[.pointer (some ⟨qp8, 0, none⟩), .pointer (some ⟨qo8, 0, none⟩)] #[.pointer (some ⟨qp8, 0, none⟩), .pointer (some ⟨qo8, 0, none⟩)]) := zh ⟨hp, ho, zM HSv4.out.size h2, zM HSv4.out.size h1⟩
             clear ho hp h1 h2 hb
             refine hK.out _ _ HSv5.out ?_
             clear hK K
             (try simp only [Act.put, zA4, zA5, zA6])
             (refine wpOU_solo (zO rfl) ?_)
             intro K hK
             go_simp
             have hb : Below v5.heap.size v5 (v5.alloc (.cells #[.nilFunc, .nilFunc, .nilFunc] 33)) := (zB _ _).alloc (zL _) _
             have HSv6 := zh (HSv5.out.trans (hb.mono HSv5.out.size))
             have HW3v6 := zh (HW3v5.out.below hb)
             have HW4v6 := zh (HW4v5.out.below hb)
             have HW8v6 := zh (HW8v5.out.below hb)
             have HW9v6 := zh (HW9v5.out.below hb)
             have HRg9v6 := zh (HRg9v5.out.below hb HRg9v5.out.lt)
             have HRg10v6 : Hid (RowAt (v5.alloc (.cells #[.nilFunc, .nilFunc, .nilFunc] 33)) v5.heap.size 33 #[.nilFunc, .nilFunc, .nilFunc]) := zh (RowAt.new _ _ _)
             have HGg10 : Hid (w8.heap.size ≤ v5.heap.size) := zh HSv5.out.size
             have HN3xg10 := zh HW3v5.out.ne_new
             have HN4xg10 := zh HW4v5.out.ne_new
             have HN8xg10 := zh HW8v5.out.ne_new
             have HN9xg10 := zh HW9v5.out.ne_new
             have HDg9xg10 : Hid (g9 ≠ v5.heap.size) := zh (Nat.ne_of_lt HRg9v5.out.lt)
             have HDg10xg9 : Hid (v5.heap.size ≠ g9) := zh fun e => HDg9xg10.out e.symm
             clear hb
             refine hK.out _ _ HSv6.out ?_
             clear hK K
             (try simp only [Act.put, zA4, zA5, zA6])
             generalize v5.heap.size = g10 at *
             generalize (v5.alloc (.cells #[.nilFunc, .nilFunc, .nilFunc] 33)) = v6 at *
             (refine wpOU_solo (zO rfl) ?_)
             intro K hK
             rw [if_pos (by rfl)]
             refine wp_store_row _ _ _ rfl g9 #[.func (.func 28) #[] #[.pointer (some ⟨qp4, 0, none⟩), .pointer (some ⟨qo4, 0, none⟩)], .func (.func 30) #[] #[.pointer (some ⟨qp4, 0, none⟩), .pointer (some ⟨qo4, 0, none⟩)], .func (.func 31) #[] #[.pointer (some ⟨qp4, 0, none⟩), .pointer (some ⟨qo4, 0, none⟩)]] rfl rfl _ _ HRg9v6.out (by kernel_rfl) rfl (ops_one _ _ _ _ _ _) ?_
             have hm : Mut g9 v6 (v6.setRow g9 #[.func (.func 28) #[] #[.pointer (some ⟨qp4, 0, none⟩), .pointer (some ⟨qo4, 0, none⟩)], .func (.func 30) #[] #[.pointer (some ⟨qp4, 0, none⟩), .pointer (some ⟨qo4, 0, none⟩)], .func (.func 31) #[] #[.pointer (some ⟨qp4, 0, none⟩), .pointer (some ⟨qo4, 0, none⟩)]]) := Mut.of_else (Else.setRow v6 g9 _)
             have HSv7 := zh (HSv6.out.trans (hm.below HGg9.out HSv6.out.size))
             have HW3v7 := zh (HW3v6.out.mut hm HN3xg9.out)
             have HW4v7 := zh (HW4v6.out.mut hm HN4xg9.out)
             have HW8v7 := zh (HW8v6.out.mut hm HN8xg9.out)
             have HW9v7 := zh (HW9v6.out.mut hm HN9xg9.out)
             have HRg10v7 := zh (HRg10v6.out.mut hm HDg10xg9.out)
             have HRg9v7 := zh (HRg9v6.out.setRow #[.func (.func 28) #[] #[.pointer (some ⟨qp4, 0, none⟩), .pointer (some ⟨qo4, 0, none⟩)], .func (.func 30) #[] #[.pointer (some ⟨qp4, 0, none⟩), .pointer (some ⟨qo4, 0, none⟩)], .func (.func 31) #[] #[.pointer (some ⟨qp4, 0, none⟩), .pointer (some ⟨qo4, 0, none⟩)]])
             clear hm
             refine hK.out _ _ HSv7.out ?_
             clear hK K
             (try simp only [Act.put, zA4, zA5, zA6])
             generalize v6.setRow g9 #[.func (.func 28) #[] #[.pointer (some ⟨qp4, 0, none⟩), .pointer (some ⟨qo4, 0, none⟩)], .func (.func 30) #[] #[.pointer (some ⟨qp4, 0, none⟩), .pointer (some ⟨qo4, 0, none⟩)], .func (.func 31) #[] #[.pointer (some ⟨qp4, 0, none⟩), .pointer (some ⟨qo4, 0, none⟩)]] = v7 at *
             (refine wpOU_solo (zO rfl) ?_)
             intro K hK
             rw [if_pos (by rfl)]
             refine wp_store_row _ _ _ rfl g10 #[.func (.func 28) #[] #[.pointer (some ⟨qp9, 0, none⟩), .pointer (some ⟨qo9, 0, none⟩)], .func (.func 30) #[] #[.pointer (some ⟨qp9, 0, none⟩), .pointer (some ⟨qo9, 0, none⟩)], .func (.func 31) #[] #[.pointer (some ⟨qp9, 0, none⟩), .pointer (some ⟨qo9, 0, none⟩)]] rfl rfl _ _ HRg10v7.out (by kernel_rfl) rfl (ops_one _ _ _ _ _ _) ?_
             have hm : Mut g10 v7 (v7.setRow g10 #[.func (.func 28) #[] #[.pointer (some ⟨qp9, 0, none⟩), .pointer (some ⟨qo9, 0, none⟩)], .func (.func 30) #[] #[.pointer (some ⟨qp9, 0, none⟩), .pointer (some ⟨qo9, 0, none⟩)], .func (.func 31) #[] #[.pointer (some ⟨qp9, 0, none⟩), .pointer (some ⟨qo9, 0, none⟩)]]) := Mut.of_else (Else.setRow v7 g10 _)
             have HSv8 := zh (HSv7.out.trans (hm.below HGg10.out HSv7.out.size))
             have HW3v8 := zh (HW3v7.out.mut hm HN3xg10.out)
             have HW4v8 := zh (HW4v7.out.mut hm HN4xg10.out)
             have HW8v8 := zh (HW8v7.out.mut hm HN8xg10.out)
             have HW9v8 := zh (HW9v7.out.mut hm HN9xg10.out)
             have HRg9v8 := zh (HRg9v7.out.mut hm HDg9xg10.out)
             have HRg10v8 := zh (HRg10v7.out.setRow #[.func (.func 28) #[] #[.pointer (some ⟨qp9, 0, none⟩), .pointer (some ⟨qo9, 0, none⟩)], .func (.func 30) #[] #[.pointer (some ⟨qp9, 0, none⟩), .pointer (some ⟨qo9, 0, none⟩)], .func (.func 31) #[] #[.pointer (some ⟨qp9, 0, none⟩), .pointer (some ⟨qo9, 0, none⟩)]])
             clear hm
             refine hK.out _ _ HSv8.out ?_
             clear hK K
             (try simp only [Act.put, zA4, zA5, zA6])
             generalize v7.setRow g10 #[.func (.func 28) #[] #[.pointer (some ⟨qp9, 0, none⟩), .pointer (some ⟨qo9, 0, none⟩)], .func (.func 30) #[] #[.pointer (some ⟨qp9, 0, none⟩), .pointer (some ⟨qo9, 0, none⟩)], .func (.func 31) #[] #[.pointer (some ⟨qp9, 0, none⟩), .pointer (some ⟨qo9, 0, none⟩)]] = v8 at *
             refine wpOU_done ?_
             go_wp2
             go_meet
             case rel => exact ⟨g9, g10, qp3, qo3, qp4, qo4, qp8, qo8, qp9, qo9, rfl, rfl, zh ⟨HGg9.out, HGg10.out⟩, HRg9v8.out, HRg10v8.out, HW3v8.out, HW4v8.out, HW8v8.out, HW9v8.out, HSv8.out⟩
            ·(refine wpOU_solo (zO rfl) ?_)
             intro K hK
             go_simp
             have hb : Below v4.heap.size v4 (v4.alloc (.cells #[.nilFunc, .nilFunc, .nilFunc] 33)) := (zB _ _).alloc (zL _) _
             have HSv5 := zh (HSv4.out.trans (hb.mono HSv4.out.size))
             have HW3v5 := zh (HW3v4.out.below hb)
             have HW4v5 := zh (HW4v4.out.below hb)
             have HW8v5 := zh (HW8v4.out.below hb)
             have HRg9v5 := zh (HRg9v4.out.below hb HRg9v4.out.lt)
             have HRg10v5 : Hid (RowAt (v4.alloc (.cells #[.nilFunc, .nilFunc, .nilFunc] 33)) v4.heap.size 33 #[.nilFunc, .nilFunc, .nilFunc]) := zh (RowAt.new _ _ _)
             have HGg10 : Hid (w8.heap.size ≤ v4.heap.size) := zh HSv4.out.size
             have HN3xg10 := zh HW3v4.out.ne_new
             have HN4xg10 := zh HW4v4.out.ne_new
             have HN8xg10 := zh HW8v4.out.ne_new
             have HDg9xg10 : Hid (g9 ≠ v4.heap.size) := zh (Nat.ne_of_lt HRg9v4.out.lt)
             have HDg10xg9 : Hid (v4.heap.size ≠ g9) := zh fun e => HDg9xg10.out e.symm
             clear hb
             refine hK.out _ _ HSv5.out ?_
             clear hK K
             (try simp only [Act.put, zA4, zA5, zA6])
             generalize v4.heap.size = g10 at *
             generalize (v4.alloc (.cells #[.nilFunc, .nilFunc, .nilFunc] 33)) = v5 at *
             (refine wpOU_solo (zO rfl) ?_)
             intro K hK
             go_simp
             refine (HWc.out v5 _ _ _ _ _ _ HSv5.out).mono ?_
             rintro e v6 ⟨qo9, qp9, rfl, ho, hp, h1, h2, hb⟩
             have HSv6 := zh (HSv5.out.trans (hb.mono HSv5.out.size))
             have HW3v6 := zh (HW3v5.out.below hb)
             have HW4v6 := zh (HW4v5.out.below hb)
             have HW8v6 := zh (HW8v5.out.below hb)
             have HRg9v6 := zh (HRg9v5.out.below hb HRg9v5.out.lt)
             have HRg10v6 := zh (HRg10v5.out.below hb HRg10v5.out.lt)
             have HN9xg9 := zh (ne_old HRg9v5.out.lt h2 h1)
             have HN9xg10 := zh (ne_old HRg10v5.out.lt h2 h1)
             have HW9v6 : Hid (Wrp v6 w8.heap.size qp9 qo9 gc 28 30 31 #[.pointer (some ⟨qp8, 0, none⟩), .pointer (some ⟨qo8, 0, none⟩)] #[.pointer (some ⟨qp8, 0, none⟩), .pointer (some ⟨qo8, 0, none⟩)] #[.pointer (some ⟨qp8, 0, none⟩), .pointer (some ⟨qo8, 0, none⟩)]) := zh ⟨hp, ho, zM HSv5.out.size h2, zM HSv5.out.size h1⟩
             clear ho hp h1 h2 hb
             refine hK.out _ _ HSv6.out ?_
             clear hK K
             (try simp only [Act.put, zA4, zA5, zA6])
             (refine wpOU_solo (zO rfl) ?_)
             intro K hK
             rw [if_pos (by rfl)]
             refine wp_store_row _ _ _ rfl g9 #[.func (.func 28) #[] #[.pointer (some ⟨qp4, 0, none⟩), .pointer (some ⟨qo4, 0, none⟩)], .func (.func 30) #[] #[.pointer (some ⟨qp4, 0, none⟩), .pointer (some ⟨qo4, 0, none⟩)], .func (.func 31) #[] #[.pointer (some ⟨qp4, 0, none⟩), .pointer (some ⟨qo4, 0, none⟩)]] rfl rfl _ _ HRg9v6.out (by kernel_rfl) rfl (ops_one _ _ _ _ _ _) ?_
             have hm : Mut g9 v6 (v6.setRow g9 #[.func (.func 28) #[] #[.pointer (some ⟨qp4, 0, none⟩), .pointer (some ⟨qo4, 0, none⟩)], .func (.func 30) #[] #[.pointer (some ⟨qp4, 0, none⟩), .pointer (some ⟨qo4, 0, none⟩)], .func (.func 31) #[] #[.pointer (some ⟨qp4, 0, none⟩), .pointer (some ⟨qo4, 0, none⟩)]]) := Mut.of_else (Else.setRow v6 g9 _)
             have HSv7 := zh (HSv6.out.trans (hm.below HGg9.out HSv6.out.size))
             have HW3v7 := zh (HW3v6.out.mut hm HN3xg9.out)
             have HW4v7 := zh (HW4v6.out.mut hm HN4xg9.out)
             have HW8v7 := zh (HW8v6.out.mut hm HN8xg9.out)
             have HW9v7 := zh (HW9v6.out.mut hm HN9xg9.out)
             have HRg10v7 := zh (HRg10v6.out.mut hm HDg10xg9.out)
             have HRg9v7 := zh (HRg9v6.out.setRow #[.func (.func 28) #[] #[.pointer (some ⟨qp4, 0, none⟩), .pointer (some ⟨qo4, 0, none⟩)], .func (.func 30) #[] #[.pointer (some ⟨qp4, 0, none⟩), .pointer (some ⟨qo4, 0, none⟩)], .func (.func 31) #[] #[.pointer (some ⟨qp4, 0, none⟩), .pointer (some ⟨qo4, 0, none⟩)]])
             clear hm
             refine hK.out _ _ HSv7.out ?_
             clear hK K
             (try simp only [Act.put, zA4, zA5, zA6])
             generalize v6.setRow g9 #[.func (.func 28) #[] #[.pointer (some ⟨qp4, 0, none⟩), .pointer (some ⟨qo4, 0, none⟩)], .func (.func 30) #[] #[.pointer (some ⟨qp4, 0, none⟩), .pointer (some ⟨qo4, 0, none⟩)], .func (.func 31) #[] #[.pointer (some ⟨qp4, 0, none⟩), .pointer (some ⟨qo4, 0, none⟩)]] = v7 at *
             (refine wpOU_solo (zO rfl) ?_)
             intro K hK
             rw [if_pos (by rfl)]
             refine wp_store_row _ _ _ rfl g10 #[.func (.func 28) #[] #[.pointer (some ⟨qp9, 0, none⟩), .pointer (some ⟨qo9, 0, none⟩)], .func (.func 30) #[] #[.pointer (some ⟨qp9, 0, none⟩), .pointer (some ⟨qo9, 0, none⟩)], .func (.func 31) #[] #[.pointer (some ⟨qp9, 0, none⟩), .pointer (some ⟨qo9, 0, none⟩)]] rfl rfl _ _ HRg10v7.out (by kernel_rfl) rfl (ops_one _ _ _ _ _ _) ?_
             have hm : Mut g10 v7 (v7.setRow g10 #[.func (.func 28) #[] #[.pointer (some ⟨qp9, 0, none⟩), .pointer (some ⟨qo9, 0, none⟩)], .func (.func 30) #[] #[.pointer (some ⟨qp9, 0, none⟩), .pointer (some ⟨qo9, 0, none⟩)], .func (.func 31) #[] #[.pointer (some ⟨qp9, 0, none⟩), .pointer (some ⟨qo9, 0, none⟩)]]) := Mut.of_else (Else.setRow v7 g10 _)
             have HSv8 := zh (HSv7.out.trans (hm.below HGg10.out HSv7.out.size))
             have HW3v8 := zh (HW3v7.out.mut hm HN3xg10.out)
             have HW4v8 := zh (HW4v7.out.mut hm HN4xg10.out)
             have HW8v8 := zh (HW8v7.out.mut hm HN8xg10.out)
             have HW9v8 := zh (HW9v7.out.mut hm HN9xg10.out)
             have HRg9v8 := zh (HRg9v7.out.mut hm HDg9xg10.out)
             have HRg10v8 := zh (HRg10v7.out.setRow #[.func (.func 28) #[] #[.pointer (some ⟨qp9, 0, none⟩), .pointer (some ⟨qo9, 0, none⟩)], .func (.func 30) #[] #[.pointer (some ⟨qp9, 0, none⟩), .pointer (some ⟨qo9, 0, none⟩)], .func (.func 31) #[] #[.pointer (some ⟨qp9, 0, none⟩), .pointer (some ⟨qo9, 0, none⟩)]])
             clear hm
             refine hK.out _ _ HSv8.out ?_
             clear hK K
             (try simp only [Act.put, zA4, zA5, zA6])
             generalize v7.setRow g10 #[.func (.func 28) #[] #[.pointer (some ⟨qp9, 0, none⟩), .pointer (some ⟨qo9, 0, none⟩)], .func (.func 30) #[] #[.pointer (some ⟨qp9, 0, none⟩), .pointer (some ⟨qo9, 0, none⟩)], .func (.func 31) #[] #[.pointer (some ⟨qp9, 0, none⟩), .pointer (some ⟨qo9, 0, none⟩)]] = v8 at *
             refine wpOU_done ?_
             go_wp2
             go_meet
             case rel => exact ⟨g9, g10, qp3, qo3, qp4, qo4, qp8, qo8, qp9, qo9, rfl, rfl, zh ⟨HGg9.out, HGg10.out⟩, HRg9v8.out, HRg10v8.out, HW3v8.out, HW4v8.out, HW8v8.out, HW9v8.out, HSv8.out⟩
           ·(refine wpOU_solo (zO rfl) ?_)
            intro K hK
            go_simp
            have hb : Below v3.heap.size v3 (v3.alloc (.cells #[.nilFunc, .nilFunc, .nilFunc] 33)) := (zB _ _).alloc (zL _) _
            have HSv4 := zh (HSv3.out.trans (hb.mono HSv3.out.size))
            have HW3v4 := zh (HW3v3.out.below hb)
            have HW4v4 := zh (HW4v3.out.below hb)
            have HRg9v4 := zh (HRg9v3.out.below hb HRg9v3.out.lt)
            have HRg10v4 : Hid (RowAt (v3.alloc (.cells #[.nilFunc, .nilFunc, .nilFunc] 33)) v3.heap.size 33 #[.nilFunc, .nilFunc, .nilFunc]) := zh (RowAt.new _ _ _)
            have HGg10 : Hid (w8.heap.size ≤ v3.heap.size) := zh HSv3.out.size
            have HN3xg10 := zh HW3v3.out.ne_new
            have HN4xg10 := zh HW4v3.out.ne_new
            have HDg9xg10 : Hid (g9 ≠ v3.heap.size) := zh (Nat.ne_of_lt HRg9v3.out.lt)
            have HDg10xg9 : Hid (v3.heap.size ≠ g9) := zh fun e => HDg9xg10.out e.symm
            clear hb
            refine hK.out _ _ HSv4.out ?_
            clear hK K
            (try simp only [Act.put, zA4, zA5, zA6])
            generalize v3.heap.size = g10 at *
            generalize (v3.alloc (.cells #[.nilFunc, .nilFunc, .nilFunc] 33)) = v4 at *
            (refine wpOU_solo (zO rfl) ?_)
            intro K hK
            go_simp
            refine (HWc.out v4 _ _ _ _ _ _ HSv4.out).mono ?_
            rintro e v5 ⟨qo8, qp8, rfl, ho, hp, h1, h2, hb⟩
            have HSv5 := zh (HSv4.out.trans (hb.mono HSv4.out.size))
            have HW3v5 := zh (HW3v4.out.below hb)
            have HW4v5 := zh (HW4v4.out.below hb)
            have HRg9v5 := zh (HRg9v4.out.below hb HRg9v4.out.lt)
            have HRg10v5 := zh (HRg10v4.out.below hb HRg10v4.out.lt)
            have HN8xg9 := zh (ne_old HRg9v4.out.lt h2 h1)
            have HN8xg10 := zh (ne_old HRg10v4.out.lt h2 h1)
            have HW8v5 : Hid (Wrp v5 w8.heap.size qp8 qo8 gc 19 21 43 #[.pointer (some ⟨gow, 0, none⟩)] #[] #[.pointer (some ⟨go, 0, none⟩), .pointer (some ⟨gp, 0, none⟩), .pointer (some ⟨gt, 0, none⟩), .pointer (some ⟨gs, 0, none⟩)]) := zh ⟨hp, ho, zM HSv4.out.size h2, zM HSv4.out.size h1⟩
            clear ho hp h1 h2 hb
            refine hK.out _ _ HSv5.out ?_
            clear hK K
            (try simp only [Act.put, zA4, zA5, zA6])
            (refine wpOU_solo (zO rfl) ?_)
            intro K hK
            go_simp
            refine (HWc.out v5 _ _ _ _ _ _ HSv5.out).mono ?_
            rintro e v6 ⟨qo9, qp9, rfl, ho, hp, h1, h2, hb⟩
            have HSv6 := zh (HSv5.out.trans (hb.mono HSv5.out.size))
            have HW3v6 := zh (HW3v5.out.below hb)
            have HW4v6 := zh (HW4v5.out.below hb)
            have HW8v6 := zh (HW8v5.out.below hb)
            have HRg9v6 := zh (HRg9v5.out.below hb HRg9v5.out.lt)
            have HRg10v6 := zh (HRg10v5.out.below hb HRg10v5.out.lt)
            have HN9xg9 := zh (ne_old HRg9v5.out.lt h2 h1)
            have HN9xg10 := zh (ne_old HRg10v5.out.lt h2 h1)
            have HW9v6 : Hid (Wrp v6 w8.heap.size qp9 qo9 gc 28 30 31 #[.pointer (some ⟨qp8, 0, none⟩), .pointer (some ⟨qo8, 0, none⟩)] #[.pointer (some ⟨qp8, 0, none⟩), .pointer (some ⟨qo8, 0, none⟩)] #[.pointer (some ⟨qp8, 0, none⟩), .pointer (some ⟨qo8, 0, none⟩)]) := zh ⟨hp, ho, zM HSv5.out.size h2, zM HSv5.out.size h1⟩
            clear ho hp h1 h2 hb
            refine hK.out _ _ HSv6.out ?_
            clear hK K
            (try simp only [Act.put, zA4, zA5, zA6])
            (refine wpOU_solo (zO rfl) ?_)
            intro K hK
            rw [if_pos (by rfl)]
            refine wp_store_row _ _ _ rfl g9 #[.func (.func 28) #[] #[.pointer (some ⟨qp4, 0, none⟩), .pointer (some ⟨qo4, 0, none⟩)], .func (.func 30) #[] #[.pointer (some ⟨qp4, 0, none⟩), .pointer (some ⟨qo4, 0, none⟩)], .func (.func 31) #[] #[.pointer (some ⟨qp4, 0, none⟩), .pointer (some ⟨qo4, 0, none⟩)]] rfl rfl _ _ HRg9v6.out (by kernel_rfl) rfl (ops_one _ _ _ _ _ _) ?_
            have hm : Mut g9 v6 (v6.setRow g9 #[.func (.func 28) #[] #[.pointer (some ⟨qp4, 0, none⟩), .pointer (some ⟨qo4, 0, none⟩)], .func (.func 30) #[] #[.pointer (some ⟨qp4, 0, none⟩), .pointer (some ⟨qo4, 0, none⟩)], .func (.func 31) #[] #[.pointer (some ⟨qp4, 0, none⟩), .pointer (some ⟨qo4, 0, none⟩)]]) := Mut.of_else (Else.setRow v6 g9 _)
            have HSv7 := zh (HSv6.out.trans (hm.below HGg9.out HSv6.out.size))
            have HW3v7 := zh (HW3v6.out.mut hm HN3xg9.out)
            have HW4v7 := zh (HW4v6.out.mut hm HN4xg9.out)
            have HW8v7 := zh (HW8v6.out.mut hm HN8xg9.out)
            have HW9v7 := zh (HW9v6.out.mut hm HN9xg9.out)
            have HRg10v7 := zh (HRg10v6.out.mut hm HDg10xg9.out)
            have HRg9v7 := zh (HRg9v6.out.setRow #[.func (.func 28) #[] #[.pointer (some ⟨qp4, 0, none⟩), .pointer (some ⟨qo4, 0, none⟩)], .func (.func 30) #[] #[.pointer (some ⟨qp4, 0, none⟩), .pointer (some ⟨qo4, 0, none⟩)], .func (.func 31) #[] #[.pointer (some ⟨qp4, 0, none⟩), .pointer (some ⟨qo4, 0, none⟩)]])
            clear hm
            refine hK.out _ _ HSv7.out ?_
            clear hK K
            (try simp only [Act.put, zA4, zA5, zA6])
            generalize v6.setRow g9 #[.func (.func 28) #[] #[.pointer (some ⟨qp4, 0, none⟩), .pointer (some ⟨qo4, 0, none⟩)], .func (.func 30) #[] #[.pointer (some ⟨qp4, 0, none⟩), .pointer (some ⟨qo4, 0, none⟩)], .func (.func 31) #[] #[.pointer (some ⟨qp4, 0, none⟩), .pointer (some ⟨qo4, 0, none⟩)]] = v7 at *
            (refine wpOU_solo (zO rfl) ?_)
            intro K hK
            rw [if_pos (by rfl)]
            refine wp_store_row _ _ _ rfl g10 #[.func (.func 28) #[] #[.pointer (some ⟨qp9, 0, none⟩), .pointer (some ⟨qo9, 0, none⟩)], .func (.func 30) #[] #[.pointer (some ⟨qp9, 0, none⟩), .pointer (some ⟨qo9, 0, none⟩)], .func (.func 31) #[] #[.pointer (some ⟨qp9, 0, none⟩), .pointer (some ⟨qo9, 0, none⟩)]] rfl rfl _ _ HRg10v7.out (by kernel_rfl) rfl (ops_one _ _ _ _ _ _) ?_
            have hm : Mut g10 v7 (v7.setRow g10 #[.func (.func 28) #[] #[.pointer (some ⟨qp9, 0, none⟩), .pointer (some ⟨qo9, 0, none⟩)], .func (.func 30) #[] #[.pointer (some ⟨qp9, 0, none⟩), .pointer (some ⟨qo9, 0, none⟩)], .func (.func 31) #[] #[.pointer (some ⟨qp9, 0, none⟩), .pointer (some ⟨qo9, 0, none⟩)]]) := Mut.of_else (Else.setRow v7 g10 _)
            have HSv8 := zh (HSv7.out.trans (hm.below HGg10.out HSv7.out.size))
            have HW3v8 := zh (HW3v7.out.mut hm HN3xg10.out)
            have HW4v8 := zh (HW4v7.out.mut hm HN4xg10.out)
            have HW8v8 := zh (HW8v7.out.mut hm HN8xg10.out)
            have HW9v8 := zh (HW9v7.out.mut hm HN9xg10.out)
            have HRg9v8 := zh (HRg9v7.out.mut hm HDg9xg10.out)
            have HRg10v8 := zh (HRg10v7.out.setRow #[.func (.func 28) #[] #[.pointer (some ⟨qp9, 0, none⟩), .pointer (some ⟨qo9, 0, none⟩)], .func (.func 30) #[] #[.pointer (some ⟨qp9, 0, none⟩), .pointer (some ⟨qo9, 0, none⟩)], .func (.func 31) #[] #[.pointer (some ⟨qp9, 0, none⟩), .pointer (some ⟨qo9, 0, none⟩)]])
            clear hm
            refine hK.out _ _ HSv8.out ?_
            clear hK K
            (try simp only [Act.put, zA4, zA5, zA6])
            generalize v7.setRow g10 #[.func (.func 28) #[] #[.pointer (some ⟨qp9, 0, none⟩), .pointer (some ⟨qo9, 0, none⟩)], .func (.func 30) #[] #[.pointer (some ⟨qp9, 0, none⟩), .pointer (some ⟨qo9, 0, none⟩)], .func (.func 31) #[] #[.pointer (some ⟨qp9, 0, none⟩), .pointer (some ⟨qo9, 0, none⟩)]] = v8 at *
            refine wpOU_done ?_
            go_wp2
            go_meet
            case rel => exact ⟨g9, g10, qp3, qo3, qp4, qo4, qp8, qo8, qp9, qo9, rfl, rfl, zh ⟨HGg9.out, HGg10.out⟩, HRg9v8.out, HRg10v8.out, HW3v8.out, HW4v8.out, HW8v8.out, HW9v8.out, HSv8.out⟩
          ·(refine wpOU_solo (zO rfl) ?_)
           intro K hK
           go_simp
           have hb : Below v2.heap.size v2 (v2.alloc (.cells #[.nilFunc, .nilFunc, .nilFunc] 33)) := (zB _ _).alloc (zL _) _
           have HSv3 := zh (HSv2.out.trans (hb.mono HSv2.out.size))
           have HW3v3 := zh (HW3v2.out.below hb)
           have HRg9v3 := zh (HRg9v2.out.below hb HRg9v2.out.lt)
           have HRg10v3 : Hid (RowAt (v2.alloc (.cells #[.nilFunc, .nilFunc, .nilFunc] 33)) v2.heap.size 33 #[.nilFunc, .nilFunc, .nilFunc]) := zh (RowAt.new _ _ _)
           have HGg10 : Hid (w8.heap.size ≤ v2.heap.size) := zh HSv2.out.size
           have HN3xg10 := zh HW3v2.out.ne_new
           have HDg9xg10 : Hid (g9 ≠ v2.heap.size) := zh (Nat.ne_of_lt HRg9v2.out.lt)
           have HDg10xg9 : Hid (v2.heap.size ≠ g9) := zh fun e => HDg9xg10.out e.symm
           clear hb
           refine hK.out _ _ HSv3.out ?_
           clear hK K
           (try simp only [Act.put, zA4, zA5, zA6])
           generalize v2.heap.size = g10 at *
           generalize (v2.alloc (.cells #[.nilFunc, .nilFunc, .nilFunc] 33)) = v3 at *
           (refine wpOU_solo (zO rfl) ?_)
           intro K hK
           go_simp
           refine (HWa.out v3 _ _ _ _ _ _ HSv3.out).mono ?_
           rintro e v4 ⟨qo4, qp4, rfl, ho, hp, h1, h2, hb⟩
           have HSv4 := zh (HSv3.out.trans (hb.mono HSv3.out.size))
           have HW3v4 := zh (HW3v3.out.below hb)
           have HRg9v4 := zh (HRg9v3.out.below hb HRg9v3.out.lt)
           have HRg10v4 := zh (HRg10v3.out.below hb HRg10v3.out.lt)
           have HN4xg9 := zh (ne_old HRg9v3.out.lt h2 h1)
           have HN4xg10 := zh (ne_old HRg10v3.out.lt h2 h1)
           have HW4v4 : Hid (Wrp v4 w8.heap.size qp4 qo4 ga 28 30 31 #[.pointer (some ⟨qp3, 0, none⟩), .pointer (some ⟨qo3, 0, none⟩)] #[.pointer (some ⟨qp3, 0, none⟩), .pointer (some ⟨qo3, 0, none⟩)] #[.pointer (some ⟨qp3, 0, none⟩), .pointer (some ⟨qo3, 0, none⟩)]) := zh ⟨hp, ho, zM HSv3.out.size h2, zM HSv3.out.size h1⟩
           clear ho hp h1 h2 hb
           refine hK.out _ _ HSv4.out ?_
           clear hK K
           (try simp only [Act.put, zA4, zA5, zA6])
           (refine wpOU_solo (zO rfl) ?_)
           intro K hK
           go_simp
           refine (HWc.out v4 _ _ _ _ _ _ HSv4.out).mono ?_
           rintro e v5 ⟨qo8, qp8, rfl, ho, hp, h1, h2, hb⟩
           have HSv5 := zh (HSv4.out.trans (hb.mono HSv4.out.size))
           have HW3v5 := zh (HW3v4.out.below hb)
           have HW4v5 := zh (HW4v4.out.below hb)
           have HRg9v5 := zh (HRg9v4.out.below hb HRg9v4.out.lt)
           have HRg10v5 := zh (HRg10v4.out.below hb HRg10v4.out.lt)
           have HN8xg9 := zh (ne_old HRg9v4.out.lt h2 h1)
           have HN8xg10 := zh (ne_old HRg10v4.out.lt h2 h1)
           have HW8v5 : Hid (Wrp v5 w8.heap.size qp8 qo8 gc 19 21 43 #[.pointer (some ⟨gow, 0, none⟩)] #[] #[.pointer (some ⟨go, 0, none⟩), .pointer (some ⟨gp, 0, none⟩), .pointer (some ⟨gt, 0, none⟩), .pointer (some ⟨gs, 0, none⟩)]) := zh ⟨hp, ho, zM HSv4.out.size h2, zM HSv4.out.size h1⟩
           clear ho hp h1 h2 hb
           refine hK.out _ _ HSv5.out ?_
           clear hK K
           (try simp only [Act.put, zA4, zA5, zA6])
           (refine wpOU_solo (zO rfl) ?_)
           intro K hK
           go_simp
           refine (HWc.out v5 _ _ _ _ _ _ HSv5.out).mono ?_
           rintro e v6 ⟨qo9, qp9, rfl, ho, hp, h1, h2, hb⟩
           have HSv6 := zh (HSv5.out.trans (hb.mono HSv5.out.size))
           have HW3v6 := zh (HW3v5.out.below hb)
           have HW4v6 := zh (HW4v5.out.below hb)
           have HW8v6 := zh (HW8v5.out.below hb)
           have HRg9v6 := zh (HRg9v5.out.below hb HRg9v5.out.lt)
           have HRg10v6 := zh (HRg10v5.out.below hb HRg10v5.out.lt)
           have HN9xg9 := zh (ne_old HRg9v5.out.lt h2 h1)
           have HN9xg10 := zh (ne_old HRg10v5.out.lt h2 h1)
           have HW9v6 : Hid (Wrp v6 w8.heap.size qp9 qo9 gc 28 30 31 #[.pointer (some ⟨qp8, 0, none⟩), .pointer (some ⟨qo8, 0, none⟩)] #[.pointer (some ⟨qp8, 0, none⟩), .pointer (some ⟨qo8, 0, none⟩)] #[.pointer (some ⟨qp8, 0, none⟩), .pointer (some ⟨qo8, 0, none⟩)]) := zh ⟨hp, ho, zM HSv5.out.size h2, zM HSv5.out.size h1⟩
           clear ho hp h1 h2 hb
           refine hK.out _ _ HSv6.out ?_
           clear hK K
           (try simp only [Act.put, zA4, zA5, zA6])
           (refine wpOU_solo (zO rfl) ?_)
           intro K hK
           rw [if_pos (by rfl)]
           refine wp_store_row _ _ _ rfl g9 #[.func (.func 28) #[] #[.pointer (some ⟨qp4, 0, none⟩), .pointer (some ⟨qo4, 0, none⟩)], .func (.func 30) #[] #[.pointer (some ⟨qp4, 0, none⟩), .pointer (some ⟨qo4, 0, none⟩)], .func (.func 31) #[] #[.pointer (some ⟨qp4, 0, none⟩), .pointer (some ⟨qo4, 0, none⟩)]] rfl rfl _ _ HRg9v6.out (by kernel_rfl) rfl (ops_one _ _ _ _ _ _) ?_
           have hm : Mut g9 v6 (v6.setRow g9 #[.func (.func 28) #[] #[.pointer (some ⟨qp4, 0, none⟩), .pointer (some ⟨qo4, 0, none⟩)], .func (.func 30) #[] #[.pointer (some ⟨qp4, 0, none⟩), .pointer (some ⟨qo4, 0, none⟩)], .func (.func 31) #[] #[.pointer (some ⟨qp4, 0, none⟩), .pointer (some ⟨qo4, 0, none⟩)]]) := Mut.of_else (Else.setRow v6 g9 _)
           have HSv7 := zh (HSv6.out.trans (hm.below HGg9.out HSv6.out.size))
           have HW3v7 := zh (HW3v6.out.mut hm HN3xg9.out)
           have HW4v7 := zh (HW4v6.out.mut hm HN4xg9.out)
           have HW8v7 := zh (HW8v6.out.mut hm HN8xg9.out)
           have HW9v7 := zh (HW9v6.out.mut hm HN9xg9.out)
           have HRg10v7 := zh (HRg10v6.out.mut hm HDg10xg9.out)
           have HRg9v7 := zh (HRg9v6.out.setRow #[.func (.func 28) #[] #[.pointer (some ⟨qp4, 0, none⟩), .pointer (some ⟨qo4, 0, none⟩)], .func (.func 30) #[] #[.pointer (some ⟨qp4, 0, none⟩), .pointer (some ⟨qo4, 0, none⟩)], .func (.func 31) #[] #[.pointer (some ⟨qp4, 0, none⟩), .pointer (some ⟨qo4, 0, none⟩)]])
           clear hm
           refine hK.out _ _ HSv7.out ?_
           clear hK K
           (try simp only [Act.put, zA4, zA5, zA6])
           generalize v6.setRow g9 #[.func (.func 28) #[] #[.pointer (some ⟨qp4, 0, none⟩), .pointer (some ⟨qo4, 0, none⟩)], .func (.func 30) #[] #[.pointer (some ⟨qp4, 0, none⟩), .pointer (some ⟨qo4, 0, none⟩)], .func (.func 31) #[] #[.pointer (some ⟨qp4, 0, none⟩), .pointer (some ⟨qo4, 0, none⟩)]] = v7 at *
           (refine wpOU_solo (zO rfl) ?_)
           intro K hK
           rw [if_pos (by rfl)]
           refine wp_store_row _ _ _ rfl g10 #[.func (.func 28) #[] #[.pointer (some ⟨qp9, 0, none⟩), .pointer (some ⟨qo9, 0, none⟩)], .func (.func 30) #[] #[.pointer (some ⟨qp9, 0, none⟩), .pointer (some ⟨qo9, 0, none⟩)], .func (.func 31) #[] #[.pointer (some ⟨qp9, 0, none⟩), .pointer (some ⟨qo9, 0, none⟩)]] rfl rfl _ _ HRg10v7.out (by kernel_rfl) rfl (ops_one _ _ _ _ _ _) ?_
           have hm : Mut g10 v7 (v7.setRow g10 #[.func (.func 28) #[] #[.pointer (some ⟨qp9, 0, none⟩), .pointer (some ⟨qo9, 0, none⟩)], .func (.func 30) #[] #[.pointer (some ⟨qp9, 0, none⟩), .pointer (some ⟨qo9, 0, none⟩)], .func (.func 31) #[] #[.pointer (some ⟨qp9, 0, none⟩), .pointer (some ⟨qo9, 0, none⟩)]]) := Mut.of_else (Else.setRow v7 g10 _)
           have HSv8 := zh (HSv7.out.trans (hm.below HGg10.out HSv7.out.size))
           have HW3v8 := zh (HW3v7.out.mut hm HN3xg10.out)
           have HW4v8 := zh (HW4v7.out.mut hm HN4xg10.out)
           have HW8v8 := zh (HW8v7.out.mut hm HN8xg10.out)
           have HW9v8 := zh (HW9v7.out.mut hm HN9xg10.out)
           have HRg9v8 := zh (HRg9v7.out.mut hm HDg9xg10.out)
           have HRg10v8 := zh (HRg10v7.out.setRow #[.func (.func 28) #[] #[.pointer (some ⟨qp9, 0, none⟩), .pointer (some ⟨qo9, 0, none⟩)], .func (.func 30) #[] #[.pointer (some ⟨qp9, 0, none⟩), .pointer (some ⟨qo9, 0, none⟩)], .func (.func 31) #[] #[.pointer (some ⟨qp9, 0, none⟩), .pointer (some ⟨qo9, 0, none⟩)]])
           clear hm
           refine hK.out _ _ HSv8.out ?_
           clear hK K
           (try simp only [Act.put, zA4, zA5, zA6])
           generalize v7.setRow g10 #[.func (.func 28) #[] #[.pointer (some ⟨qp9, 0, none⟩), .pointer (some ⟨qo9, 0, none⟩)], .func (.func 30) #[] #[.pointer (some ⟨qp9, 0, none⟩), .pointer (some ⟨qo9, 0, none⟩)], .func (.func 31) #[] #[.pointer (some ⟨qp9, 0, none⟩), .pointer (some ⟨qo9, 0, none⟩)]] = v8 at *
           refine wpOU_done ?_
           go_wp2
           go_meet
           case rel => exact ⟨g9, g10, qp3, qo3, qp4, qo4, qp8, qo8, qp9, qo9, rfl, rfl, zh ⟨HGg9.out, HGg10.out⟩, HRg9v8.out, HRg10v8.out, HW3v8.out, HW4v8.out, HW8v8.out, HW9v8.out, HSv8.out⟩
         ·(refine wpOU_solo (zO rfl) ?_)
          intro K hK
          go_simp
          have hb : Below v1.heap.size v1 (v1.alloc (.cells #[.nilFunc, .nilFunc, .nilFunc] 33)) := (zB _ _).alloc (zL _) _
          have HSv2 := zh (HSv1.out.trans (hb.mono HSv1.out.size))
          have HRg9v2 := zh (HRg9v1.out.below hb HRg9v1.out.lt)
          have HRg10v2 : Hid (RowAt (v1.alloc (.cells #[.nilFunc, .nilFunc, .nilFunc] 33)) v1.heap.size 33 #[.nilFunc, .nilFunc, .nilFunc]) := zh (RowAt.new _ _ _)
          have HGg10 : Hid (w8.heap.size ≤ v1.heap.size) := zh HSv1.out.size
          have HDg9xg10 : Hid (g9 ≠ v1.heap.size) := zh (Nat.ne_of_lt HRg9v1.out.lt)
          have HDg10xg9 : Hid (v1.heap.size ≠ g9) := zh fun e => HDg9xg10.out e.symm
          clear hb
          refine hK.out _ _ HSv2.out ?_
          clear hK K
          (try simp only [Act.put, zA4, zA5, zA6])
          generalize v1.heap.size = g10 at *
          generalize (v1.alloc (.cells #[.nilFunc, .nilFunc, .nilFunc] 33)) = v2 at *
          (refine wpOU_solo (zO rfl) ?_)
          intro K hK
          go_simp
          refine (HWb.out v2 _ _ _ _ _ _ HSv2.out).mono ?_
          rintro e v3 ⟨qo3, qp3, rfl, ho, hp, h1, h2, hb⟩
          have HSv3 := zh (HSv2.out.trans (hb.mono HSv2.out.size))
          have HRg9v3 := zh (HRg9v2.out.below hb HRg9v2.out.lt)
          have HRg10v3 := zh (HRg10v2.out.below hb HRg10v2.out.lt)
          have HN3xg9 := zh (ne_old HRg9v2.out.lt h2 h1)
          have HN3xg10 := zh (ne_old HRg10v2.out.lt h2 h1)
          have HW3v3 : Hid (Wrp v3 w8.heap.size qp3 qo3 gb 19 21 43 #[.pointer (some ⟨gow, 0, none⟩)] #[] #[.pointer (some ⟨go, 0, none⟩), .pointer (some ⟨gp, 0, none⟩), .pointer (some ⟨gt, 0, none⟩), .pointer (some ⟨gs, 0, none⟩)]) := zh ⟨hp, ho, zM HSv2.out.size h2, zM HSv2.out.size h1⟩
          clear ho hp h1 h2 hb
          refine hK.out _ _ HSv3.out ?_
          clear hK K
          (try simp only [Act.put, zA4, zA5, zA6])
          (refine wpOU_solo (zO rfl) ?_)
          intro K hK
          go_simp
          refine (HWa.out v3 _ _ _ _ _ _ HSv3.out).mono ?_
          rintro e v4 ⟨qo4, qp4, rfl, ho, hp, h1, h2, hb⟩
          have HSv4 := zh (HSv3.out.trans (hb.mono HSv3.out.size))
          have HW3v4 := zh (HW3v3.out.below hb)
          have HRg9v4 := zh (HRg9v3.out.below hb HRg9v3.out.lt)
          have HRg10v4 := zh (HRg10v3.out.below hb HRg10v3.out.lt)
          have HN4xg9 := zh (ne_old HRg9v3.out.lt h2 h1)
          have HN4xg10 := zh (ne_old HRg10v3.out.lt h2 h1)
          have HW4v4 : Hid (Wrp v4 w8.heap.size qp4 qo4 ga 28 30 31 #[.pointer (some ⟨qp3, 0, none⟩), .pointer (some ⟨qo3, 0, none⟩)] #[.pointer (some ⟨qp3, 0, none⟩), .pointer (some ⟨qo3, 0, none⟩)] #[.pointer (some ⟨qp3, 0, none⟩), .pointer (some ⟨qo3, 0, none⟩)]) := zh ⟨hp, ho, zM HSv3.out.size h2, zM HSv3.out.size h1⟩
          clear ho hp h1 h2 hb
          refine hK.out _ _ HSv4.out ?_
          clear hK K
          (try simp only [Act.put, zA4, zA5, zA6])
          (refine wpOU_solo (zO rfl) ?_)
          intro K hK
          go_simp
          refine (HWc.out v4 _ _ _ _ _ _ HSv4.out).mono ?_
          rintro e v5 ⟨qo8, qp8, rfl, ho, hp, h1, h2, hb⟩
          have HSv5 := zh (HSv4.out.trans (hb.mono HSv4.out.size))
          have HW3v5 := zh (HW3v4.out.below hb)
          have HW4v5 := zh (HW4v4.out.below hb)
          have HRg9v5 := zh (HRg9v4.out.below hb HRg9v4.out.lt)
          have HRg10v5 := zh (HRg10v4.out.below hb HRg10v4.out.lt)
          have HN8xg9 := zh (ne_old HRg9v4.out.lt h2 h1)
          have HN8xg10 := zh (ne_old HRg10v4.out.lt h2 h1)
          have HW8v5 : Hid (Wrp v5 w8.heap.size qp8 qo8 gc 19 21 43 #[.pointer (some ⟨gow, 0, none⟩)] #[] #[.pointer (some ⟨go, 0, none⟩), .pointer (some ⟨gp, 0, none⟩), .pointer (some ⟨gt, 0, none⟩), .pointer (some ⟨gs, 0, none⟩)]) := zh ⟨hp, ho, zM HSv4.out.size h2, zM HSv4.out.size h1⟩
          clear ho hp h1 h2 hb
          refine hK.out _ _ HSv5.out ?_
          clear hK K
          (try simp only [Act.put, zA4, zA5, zA6])
          (refine wpOU_solo (zO rfl) ?_)
          intro K hK
          go_simp
          refine (HWc.out v5 _ _ _ _ _ _ HSv5.out).mono ?_
          rintro e v6 ⟨qo9, qp9, rfl, ho, hp, h1, h2, hb⟩
          have HSv6 := zh (HSv5.out.trans (hb.mono HSv5.out.size))
          have HW3v6 := zh (HW3v5.out.below hb)
          have HW4v6 := zh (HW4v5.out.below hb)
          have HW8v6 := zh (HW8v5.out.below hb)
          have HRg9v6 := zh (HRg9v5.out.below hb HRg9v5.out.lt)
          have HRg10v6 := zh (HRg10v5.out.below hb HRg10v5.out.lt)
          have HN9xg9 := zh (ne_old HRg9v5.out.lt h2 h1)
          have HN9xg10 := zh (ne_old HRg10v5.out.lt h2 h1)
          have HW9v6 : Hid (Wrp v6 w8.heap.size qp9 qo9 gc 28 30 31 #[.pointer (some ⟨qp8, 0, none⟩), .pointer (some ⟨qo8, 0, none⟩)] #[.pointer (some ⟨qp8, 0, none⟩), .pointer (some ⟨qo8, 0, none⟩)] #[.pointer (some ⟨qp8, 0, none⟩), .pointer (some ⟨qo8, 0, none⟩)]) := zh ⟨hp, ho, zM HSv5.out.size h2, zM HSv5.out.size h1⟩
          clear ho hp h1 h2 hb
          refine hK.out _ _ HSv6.out ?_
          clear hK K
          (try simp only [Act.put, zA4, zA5, zA6])
          (refine wpOU_solo (zO rfl) ?_)
          intro K hK
          rw [if_pos (by rfl)]
          refine wp_store_row _ _ _ rfl g9 #[.func (.func 28) #[] #[.pointer (some ⟨qp4, 0, none⟩), .pointer (some ⟨qo4, 0, none⟩)], .func (.func 30) #[] #[.pointer (some ⟨qp4, 0, none⟩), .pointer (some ⟨qo4, 0, none⟩)], .func (.func 31) #[] #[.pointer (some ⟨qp4, 0, none⟩), .pointer (some ⟨qo4, 0, none⟩)]] rfl rfl _ _ HRg9v6.out (by kernel_rfl) rfl (ops_one _ _ _ _ _ _) ?_
          have hm : Mut g9 v6 (v6.setRow g9 #[.func (.func 28) #[] #[.pointer (some ⟨qp4, 0, none⟩), .pointer (some ⟨qo4, 0, none⟩)], .func (.func 30) #[] #[.pointer (some ⟨qp4, 0, none⟩), .pointer (some ⟨qo4, 0, none⟩)], .func (.func 31) #[] #[.pointer (some ⟨qp4, 0, none⟩), .pointer (some ⟨qo4, 0, none⟩)]]) := Mut.of_else (Else.setRow v6 g9 _)
          have HSv7 := zh (HSv6.out.trans (hm.below HGg9.out HSv6.out.size))
          have HW3v7 := zh (HW3v6.out.mut hm HN3xg9.out)
          have HW4v7 := zh (HW4v6.out.mut hm HN4xg9.out)
          have HW8v7 := zh (HW8v6.out.mut hm HN8xg9.out)
          have HW9v7 := zh (HW9v6.out.mut hm HN9xg9.out)
          have HRg10v7 := zh (HRg10v6.out.mut hm HDg10xg9.out)
          have HRg9v7 := zh (HRg9v6.out.setRow #[.func (.func 28) #[] #[.pointer (some ⟨qp4, 0, none⟩), .pointer (some ⟨qo4, 0, none⟩)], .func (.func 30) #[] #[.pointer (some ⟨qp4, 0, none⟩), .pointer (some ⟨qo4, 0, none⟩)], .func (.func 31) #[] #[.pointer (some ⟨qp4, 0, none⟩), .pointer (some ⟨qo4, 0, none⟩)]])
          clear hm
          refine hK.out _ _ HSv7.out ?_
          clear hK K
          (try simp only [Act.put, zA4, zA5, zA6])
          generalize v6.setRow g9 #[.func (.func 28) #[] #[.pointer (some ⟨qp4, 0, none⟩), .pointer (some ⟨qo4, 0, none⟩)], .func (.func 30) #[] #[.pointer (some ⟨qp4, 0, none⟩), .pointer (some ⟨qo4, 0, none⟩)], .func (.func 31) #[] #[.pointer (some ⟨qp4, 0, none⟩), .pointer (some ⟨qo4, 0, none⟩)]] = v7 at *
          (refine wpOU_solo (zO rfl) ?_)
          intro K hK
          rw [if_pos (by rfl)]
          refine wp_store_row _ _ _ rfl g10 #[.func (.func 28) #[] #[.pointer (some ⟨qp9, 0, none⟩), .pointer (some ⟨qo9, 0, none⟩)], .func (.func 30) #[] #[.pointer (some ⟨qp9, 0, none⟩), .pointer (some ⟨qo9, 0, none⟩)], .func (.func 31) #[] #[.pointer (some ⟨qp9, 0, none⟩), .pointer (some ⟨qo9, 0, none⟩)]] rfl rfl _ _ HRg10v7.out (by kernel_rfl) rfl (ops_one _ _ _ _ _ _) ?_
          have hm : Mut g10 v7 (v7.setRow g10 #[.func (.func 28) #[] #[.pointer (some ⟨qp9, 0, none⟩), .pointer (some ⟨qo9, 0, none⟩)], .func (.func 30) #[] #[.pointer (some ⟨qp9, 0, none⟩), .pointer (some ⟨qo9, 0, none⟩)], .func (.func 31) #[] #[.pointer (some ⟨qp9, 0, none⟩), .pointer (some ⟨qo9, 0, none⟩)]]) := Mut.of_else (Else.setRow v7 g10 _)
          have HSv8 := zh (HSv7.out.trans (hm.below HGg10.out HSv7.out.size))
          have HW3v8 := zh (HW3v7.out.mut hm HN3xg10.out)
          have HW4v8 := zh (HW4v7.out.mut hm HN4xg10.out)
          have HW8v8 := zh (HW8v7.out.mut hm HN8xg10.out)
          have HW9v8 := zh (HW9v7.out.mut hm HN9xg10.out)
          have HRg9v8 := zh (HRg9v7.out.mut hm HDg9xg10.out)
          have HRg10v8 := zh (HRg10v7.out.setRow #[.func (.func 28) #[] #[.pointer (some ⟨qp9, 0, none⟩), .pointer (some ⟨qo9, 0, none⟩)], .func (.func 30) #[] #[.pointer (some ⟨qp9, 0, none⟩), .pointer (some ⟨qo9, 0, none⟩)], .func (.func 31) #[] #[.pointer (some ⟨qp9, 0, none⟩), .pointer (some ⟨qo9, 0, none⟩)]])
          clear hm
          refine hK.out _ _ HSv8.out ?_
          clear hK K
          (try simp only [Act.put, zA4, zA5, zA6])
          generalize v7.setRow g10 #[.func (.func 28) #[] #[.pointer (some ⟨qp9, 0, none⟩), .pointer (some ⟨qo9, 0, none⟩)], .func (.func 30) #[] #[.pointer (some ⟨qp9, 0, none⟩), .pointer (some ⟨qo9, 0, none⟩)], .func (.func 31) #[] #[.pointer (some ⟨qp9, 0, none⟩), .pointer (some ⟨qo9, 0, none⟩)]] = v8 at *
          refine wpOU_done ?_
          go_wp2
          go_meet
          case rel => exact ⟨g9, g10, qp3, qo3, qp4, qo4, qp8, qo8, qp9, qo9, rfl, rfl, zh ⟨HGg9.out, HGg10.out⟩, HRg9v8.out, HRg10v8.out, HW3v8.out, HW4v8.out, HW8v8.out, HW9v8.out, HSv8.out⟩
        ·(refine wpOU_solo (zO rfl) ?_)
         intro K hK
         go_simp
         have hb : Below v0.heap.size v0 (v0.alloc (.cells #[.nilFunc, .nilFunc, .nilFunc] 33)) := (zB _ _).alloc (zL _) _
         have HSv1 := zh (HSv0.out.trans (hb.mono HSv0.out.size))
         have HRg10v1 : Hid (RowAt (v0.alloc (.cells #[.nilFunc, .nilFunc, .nilFunc] 33)) v0.heap.size 33 #[.nilFunc, .nilFunc, .nilFunc]) := zh (RowAt.new _ _ _)
         have HGg10 : Hid (w8.heap.size ≤ v0.heap.size) := zh HSv0.out.size
         clear hb
         refine hK.out _ _ HSv1.out ?_
         clear hK K
         (try simp only [Act.put, zA4, zA5, zA6])
         generalize v0.heap.size = g10 at *
         generalize (v0.alloc (.cells #[.nilFunc, .nilFunc, .nilFunc] 33)) = v1 at *
         refine wpOU_two ?_ ?_
         ·(refine wpOU_solo (zO rfl) ?_)
          intro K hK
          go_simp
          refine (HWb.out v1 _ _ _ _ _ _ HSv1.out).mono ?_
          rintro e v2 ⟨qo3, qp3, rfl, ho, hp, h1, h2, hb⟩
          have HSv2 := zh (HSv1.out.trans (hb.mono HSv1.out.size))
          have HRg10v2 := zh (HRg10v1.out.below hb HRg10v1.out.lt)
          have HN3xg10 := zh (ne_old HRg10v1.out.lt h2 h1)
          have HW3v2 : Hid (Wrp v2 w8.heap.size qp3 qo3 gb 19 21 43 #[.pointer (some ⟨gow, 0, none⟩)] #[] #[.pointer (some ⟨go, 0, none⟩), .pointer (some ⟨gp, 0, none⟩), .pointer (some ⟨gt, 0, none⟩), .pointer (some ⟨gs, 0, none⟩)]) := zh ⟨hp, ho, zM HSv1.out.size h2, zM HSv1.out.size h1⟩
          clear ho hp h1 h2 hb
          refine hK.out _ _ HSv2.out ?_
          clear hK K
          (try simp only [Act.put, zA4, zA5, zA6])
          refine wpOU_two ?_ ?_
          ·(refine wpOU_solo (zO rfl) ?_)
           intro K hK
           go_simp
           refine (HWa.out v2 _ _ _ _ _ _ HSv2.out).mono ?_
           rintro e v3 ⟨qo4, qp4, rfl, ho, hp, h1, h2, hb⟩
           have HSv3 := zh (HSv2.out.trans (hb.mono HSv2.out.size))
           have HW3v3 := zh (HW3v2.out.below hb)
           have HRg10v3 := zh (HRg10v2.out.below hb HRg10v2.out.lt)
           have HN4xg10 := zh (ne_old HRg10v2.out.lt h2 h1)
           have HW4v3 : Hid (Wrp v3 w8.heap.size qp4 qo4 ga 28 30 31 #[.pointer (some ⟨qp3, 0, none⟩), .pointer (some ⟨qo3, 0, none⟩)] #[.pointer (some ⟨qp3, 0, none⟩), .pointer (some ⟨qo3, 0, none⟩)] #[.pointer (some ⟨qp3, 0, none⟩), .pointer (some ⟨qo3, 0, none⟩)]) := zh ⟨hp, ho, zM HSv2.out.size h2, zM HSv2.out.size h1⟩
           clear ho hp h1 h2 hb
           refine hK.out _ _ HSv3.out ?_
           clear hK K
           (try simp only [Act.put, zA4, zA5, zA6])
           refine wpOU_two ?_ ?_
           ·(refine wpOU_solo (zO rfl) ?_)
            intro K hK
            go_simp
            refine (HWc.out v3 _ _ _ _ _ _ HSv3.out).mono ?_
            rintro e v4 ⟨qo8, qp8, rfl, ho, hp, h1, h2, hb⟩
            have HSv4 := zh (HSv3.out.trans (hb.mono HSv3.out.size))
            have HW3v4 := zh (HW3v3.out.below hb)
            have HW4v4 := zh (HW4v3.out.below hb)
            have HRg10v4 := zh (HRg10v3.out.below hb HRg10v3.out.lt)
            have HN8xg10 := zh (ne_old HRg10v3.out.lt h2 h1)
            have HW8v4 : Hid (Wrp v4 w8.heap.size qp8 qo8 gc 19 21 43 #[.pointer (some ⟨gow, 0, none⟩)] #[] #[.pointer (some ⟨go, 0, none⟩), .pointer (some ⟨gp, 0, none⟩), .pointer (some ⟨gt, 0, none⟩), .pointer (some ⟨gs, 0, none⟩)]) := zh ⟨hp, ho, zM HSv3.out.size h2, zM HSv3.out.size h1⟩
            clear ho hp h1 h2 hb
            refine hK.out _ _ HSv4.out ?_
            clear hK K
            (try simp only [Act.put, zA4, zA5, zA6])
            refine wpOU_two ?_ ?_
            ·(refine wpOU_solo (zO rfl) ?_)
             intro K hK
             go_simp
             refine (HWc.out v4 _ _ _ _ _ _ HSv4.out).mono ?_
             rintro e v5 ⟨qo9, qp9, rfl, ho, hp, h1, h2, hb⟩
             have HSv5 := zh (HSv4.out.trans (hb.mono HSv4.out.size))
             have HW3v5 := zh (HW3v4.out.below hb)
             have HW4v5 := zh (HW4v4.out.below hb)
             have HW8v5 := zh (HW8v4.out.below hb)
             have HRg10v5 := zh (HRg10v4.out.below hb HRg10v4.out.lt)
             have HN9xg10 := zh (ne_old HRg10v4.out.lt h2 h1)
             have HW9v5 : Hid (Wrp v5 w8.heap.size qp9 qo9 gc 28 30 31 #[.pointer (some ⟨qp8, 0, none⟩), .pointer (some ⟨qo8, 0, none⟩)] #[.pointer (some ⟨qp8, 0, none⟩), .pointer (some ⟨qo8, 0, none⟩)] #[.pointer (some ⟨qp8, 0, none⟩), .pointer (some ⟨qo8, 0, none⟩)]) := zh ⟨hp, ho, zM HSv4.out.size h2, zM HSv4.out.size h1⟩
             clear ho hp h1 h2 hb
             refine hK.out _ _ HSv5.out ?_
             clear hK K
             (try simp only [Act.put, zA4, zA5, zA6])
             (refine wpOU_solo (zO rfl) ?_)
             intro K hK
             go_simp
             have hb : Below v5.heap.size v5 (v5.alloc (.cells #[.nilFunc, .nilFunc, .nilFunc] 33)) := (zB _ _).alloc (zL _) _
             have HSv6 := zh (HSv5.out.trans (hb.mono HSv5.out.size))
             have HW3v6 := zh (HW3v5.out.below hb)
             have HW4v6 := zh (HW4v5.out.below hb)
             have HW8v6 := zh (HW8v5.out.below hb)
             have HW9v6 := zh (HW9v5.out.below hb)
             have HRg10v6 := zh (HRg10v5.out.below hb HRg10v5.out.lt)
             have HRg9v6 : Hid (RowAt (v5.alloc (.cells #[.nilFunc, .nilFunc, .nilFunc] 33)) v5.heap.size 33 #[.nilFunc, .nilFunc, .nilFunc]) := zh (RowAt.new _ _ _)
             have HGg9 : Hid (w8.heap.size ≤ v5.heap.size) := zh HSv5.out.size
             have HN3xg9 := zh HW3v5.out.ne_new
             have HN4xg9 := zh HW4v5.out.ne_new
             have HN8xg9 := zh HW8v5.out.ne_new
             have HN9xg9 := zh HW9v5.out.ne_new
             have HDg10xg9 : Hid (g10 ≠ v5.heap.size) := zh (Nat.ne_of_lt HRg10v5.out.lt)
             have HDg9xg10 : Hid (v5.heap.size ≠ g10) := zh fun e => HDg10xg9.out e.symm
             clear hb
             refine hK.out _ _ HSv6.out ?_
             clear hK K
             (try simp only [Act.put, zA4, zA5, zA6])
             generalize v5.heap.size = g9 at *
             generalize (v5.alloc (.cells #[.nilFunc, .nilFunc, .nilFunc] 33)) = v6 at *
             (refine wpOU_solo (zO rfl) ?_)
             intro K hK
             rw [if_pos (by rfl)]
             refine wp_store_row _ _ _ rfl g9 #[.func (.func 28) #[] #[.pointer (some ⟨qp4, 0, none⟩), .pointer (some ⟨qo4, 0, none⟩)], .func (.func 30) #[] #[.pointer (some ⟨qp4, 0, none⟩), .pointer (some ⟨qo4, 0, none⟩)], .func (.func 31) #[] #[.pointer (some ⟨qp4, 0, none⟩), .pointer (some ⟨qo4, 0, none⟩)]] rfl rfl _ _ HRg9v6.out (by kernel_rfl) rfl (ops_one _ _ _ _ _ _) ?_
             have hm : Mut g9 v6 (v6.setRow g9 #[.func (.func 28) #[] #[.pointer (some ⟨qp4, 0, none⟩), .pointer (some ⟨qo4, 0, none⟩)], .func (.func 30) #[] #[.pointer (some ⟨qp4, 0, none⟩), .pointer (some ⟨qo4, 0, none⟩)], .func (.func 31) #[] #[.pointer (some ⟨qp4, 0, none⟩), .pointer (some ⟨qo4, 0, none⟩)]]) := Mut.of_else (Else.setRow v6 g9 _)
             have HSv7 := zh (HSv6.out.trans (hm.below HGg9.out HSv6.out.size))
             have HW3v7 := zh (HW3v6.out.mut hm HN3xg9.out)
             have HW4v7 := zh (HW4v6.out.mut hm HN4xg9.out)
             have HW8v7 := zh (HW8v6.out.mut hm HN8xg9.out)
             have HW9v7 := zh (HW9v6.out.mut hm HN9xg9.out)
             have HRg10v7 := zh (HRg10v6.out.mut hm HDg10xg9.out)
             have HRg9v7 := zh (HRg9v6.out.setRow #[.func (.func 28) #[] #[.pointer (some ⟨qp4, 0, none⟩), .pointer (some ⟨qo4, 0, none⟩)], .func (.func 30) #[] #[.pointer (some ⟨qp4, 0, none⟩), .pointer (some ⟨qo4, 0, none⟩)], .func (.func 31) #[] #[.pointer (some ⟨qp4, 0, none⟩), .pointer (some ⟨qo4, 0, none⟩)]])
             clear hm
             refine hK.out _ _ HSv7.out ?_
             clear hK K
             (try simp only [Act.put, zA4, zA5, zA6])
             generalize v6.setRow g9 #[.func (.func 28) #[] #[.pointer (some ⟨qp4, 0, none⟩), .pointer (some ⟨qo4, 0, none⟩)], .func (.func 30) #[] #[.pointer (some ⟨qp4, 0, none⟩), .pointer (some ⟨qo4, 0, none⟩)], .func (.func 31) #[] #[.pointer (some ⟨qp4, 0, none⟩), .pointer (some ⟨qo4, 0, none⟩)]] = v7 at *
             (refine wpOU_solo (zO rfl) ?_)
             intro K hK
             rw [if_pos (by rfl)]
             refine wp_store_row _ _ _ rfl g10 #[.func (.func 28) #[] #[.pointer (some ⟨qp9, 0, none⟩), .pointer (some ⟨qo9, 0, none⟩)], .func (.func 30) #[] #[.pointer (some ⟨qp9, 0, none⟩), .pointer (some ⟨qo9, 0, none⟩)], .func (.func 31) #[] #[.pointer (some ⟨qp9, 0, none⟩), .pointer (some ⟨qo9, 0, none⟩)]] rfl rfl _ _ HRg10v7.out (by kernel_rfl) rfl (ops_one _ _ _ _ _ _) ?_
             have hm : Mut g10 v7 (v7.setRow g10 #[.func (.func 28) #[] #[.pointer (some ⟨qp9, 0, none⟩), .pointer (some ⟨qo9, 0, none⟩)], .func (.func 30) #[] #[.pointer (some ⟨qp9, 0, none⟩), .pointer (some ⟨qo9, 0, none⟩)], .func (.func 31) #[] #[.pointer (some ⟨qp9, 0, none⟩), .pointer (some ⟨qo9, 0, none⟩)]]) := Mut.of_else (Else.setRow v7 g10 _)
             have HSv8 := zh (HSv7.out.trans (hm.below HGg10.out HSv7.out.size))
             have HW3v8 := zh (HW3v7.out.mut hm HN3xg10.out)
             have HW4v8 := zh (HW4v7.out.mut hm HN4xg10.out)
             have HW8v8 := zh (HW8v7.out.mut hm HN8xg10.out)
             have HW9v8 := zh (HW9v7.out.mut hm HN9xg10.out)
             have HRg9v8 := zh (HRg9v7.out.mut hm HDg9xg10.out)
             have HRg10v8 := zh (HRg10v7.out.setRow #[.func (.func 28) #[] #[.pointer (some ⟨qp9, 0, none⟩), .pointer (some ⟨qo9, 0, none⟩)], .func (.func 30) #[] #[.pointer (some ⟨qp9, 0, none⟩), .pointer (some ⟨qo9, 0, none⟩)], .func (.func 31) #[] #[.pointer (some ⟨qp9, 0, none⟩), .pointer (some ⟨qo9, 0, none⟩)]])
             clear hm
             refine hK.out _ _ HSv8.out ?_
             clear hK K
             (try simp only [Act.put, zA4, zA5, zA6])
             generalize v7.setRow g10 #[.func (.func 28) #[] #[.pointer (some ⟨qp9, 0, none⟩), .pointer (some ⟨qo9, 0, none⟩)], .func (.func 30) #[] #[.pointer (some ⟨qp9, 0, none⟩), .pointer (some ⟨qo9, 0, none⟩)], .func (.func 31) #[] #[.pointer (some ⟨qp9, 0, none⟩), .pointer (some ⟨qo9, 0, none⟩)]] = v8 at *
             refine wpOU_done ?_
             go_wp2
             go_meet
             case rel => exact ⟨g9, g10, qp3, qo3, qp4, qo4, qp8, qo8, qp9, qo9, rfl, rfl, zh ⟨HGg9.out, HGg10.out⟩, HRg9v8.out, HRg10v8.out, HW3v8.out, HW4v8.out, HW8v8.out, HW9v8.out, HSv8.out⟩
            ·(refine wpOU_solo (zO rfl) ?_)
             intro K hK
             go_simp
             have hb : Below v4.heap.size v4 (v4.alloc (.cells #[.nilFunc, .nilFunc, .nilFunc] 33)) := (zB _ _).alloc (zL _) _
             have HSv5 := zh (HSv4.out.trans (hb.mono HSv4.out.size))
             have HW3v5 := zh (HW3v4.out.below hb)
             have HW4v5 := zh (HW4v4.out.below hb)
             have HW8v5 := zh (HW8v4.out.below hb)
             have HRg10v5 := zh (HRg10v4.out.below hb HRg10v4.out.lt)
             have HRg9v5 : Hid (RowAt (v4.alloc (.cells #[.nilFunc, .nilFunc, .nilFunc] 33)) v4.heap.size 33 #[.nilFunc, .nilFunc, .nilFunc]) := zh (RowAt.new _ _ _)
             have HGg9 : Hid (w8.heap.size ≤ v4.heap.size) := zh HSv4.out.size
             have HN3xg9 := zh HW3v4.out.ne_new
             have HN4xg9 := zh HW4v4.out.ne_new
             have HN8xg9 := zh HW8v4.out.ne_new
             have HDg10xg9 : Hid (g10 ≠ v4.heap.size) := zh (Nat.ne_of_lt HRg10v4.out.lt)
             have HDg9xg10 : Hid (v4.heap.size ≠ g10) := zh fun e => HDg10xg9.out e.symm
             clear hb
             refine hK.out _ _ HSv5.out ?_
             clear hK K
             (try simp only [Act.put, zA4, zA5, zA6])
             generalize v4.heap.size = g9 at *
             generalize (v4.alloc (.cells #[.nilFunc, .nilFunc, .nilFunc] 33)) = v5 at *
             (refine wpOU_solo (zO rfl) ?_)
             intro K hK
             go_simp
             refine (HWc.out v5 _ _ _ _ _ _ HSv5.out).mono ?_
             rintro e v6 ⟨qo9, qp9, rfl, ho, hp, h1, h2, hb⟩
             have HSv6 := zh (HSv5.out.trans (hb.mono HSv5.out.size))
             have HW3v6 := zh (HW3v5.out.below hb)
             have HW4v6 := zh (HW4v5.out.below hb)
             have HW8v6 := zh (HW8v5.out.below hb)
             have HRg10v6 := zh (HRg10v5.out.below hb HRg10v5.out.lt)
             have HRg9v6 := zh (HRg9v5.out.below hb HRg9v5.out.lt)
             have HN9xg10 := zh (ne_old HRg10v5.out.lt h2 h1)
             have HN9xg9 := zh (ne_old HRg9v5.out.lt h2 h1)
             have HW9v6 : Hid (Wrp v6 w8.heap.size qp9 qo9 gc 28 30 31 #[.pointer (some ⟨qp8, 0, none⟩), .pointer (some ⟨qo8, 0, none⟩)] #[.pointer (some ⟨qp8, 0, none⟩), .pointer (some ⟨qo8, 0, none⟩)] #[.pointer (some ⟨qp8, 0, none⟩), .pointer (some ⟨qo8, 0, none⟩)]) := zh ⟨hp, ho, zM HSv5.out.size h2, zM HSv5.out.size h1⟩
             clear ho hp h1 h2 hb
             refine hK.out _ _ HSv6.out ?_
             clear hK K
             (try simp only [Act.put, zA4, zA5, zA6])
             (refine wpOU_solo (zO rfl) ?_)
             intro K hK
             rw [if_pos (by rfl)]
             refine wp_store_row _ _ _ rfl g9 #[.func (.func 28) #[] #[.pointer (some ⟨qp4, 0, none⟩), .pointer (some ⟨qo4, 0, none⟩)], .func (.func 30) #[] #[.pointer (some ⟨qp4, 0, none⟩), .pointer (some ⟨qo4, 0, none⟩)], .func (.func 31) #[] #[.pointer (some ⟨qp4, 0, none⟩), .pointer (some ⟨qo4, 0, none⟩)]] rfl rfl _ _ HRg9v6.out (by kernel_rfl) rfl (ops_one _ _ _ _ _ _) ?_
             have hm : Mut g9 v6 (v6.setRow g9 #[.func (.func 28) #[] #[.pointer (some ⟨qp4, 0, none⟩), .pointer (some ⟨qo4, 0, none⟩)], .func (.func 30) #[] #[.pointer (some ⟨qp4, 0, none⟩), .pointer (some ⟨qo4, 0, none⟩)], .func (.func 31) #[] #[.pointer (some ⟨qp4, 0, none⟩), .pointer (some ⟨qo4, 0, none⟩)]]) := Mut.of_else (Else.setRow v6 g9 _)
             have HSv7 := zh (HSv6.out.trans (hm.below HGg9.out HSv6.out.size))
             have HW3v7 := zh (HW3v6.out.mut hm HN3xg9.out)
             have HW4v7 := zh (HW4v6.out.mut hm HN4xg9.out)
             have HW8v7 := zh (HW8v6.out.mut hm HN8xg9.out)
             have HW9v7 := zh (HW9v6.out.mut hm HN9xg9.out)
             have HRg10v7 := zh (HRg10v6.out.mut hm HDg10xg9.out)
             have HRg9v7 := zh (HRg9v6.out.setRow #[.func (.func 28) #[] #[.pointer (some ⟨qp4, 0, none⟩), .pointer (some ⟨qo4, 0, none⟩)], .func (.func 30) #[] #[.pointer (some ⟨qp4, 0, none⟩), .pointer (some ⟨qo4, 0, none⟩)], .func (.func 31) #[] #[.pointer (some ⟨qp4, 0, none⟩), .pointer (some ⟨qo4, 0, none⟩)]])
             clear hm
             refine hK.out _ _ HSv7.out ?_
             clear hK K
             (try simp only [Act.put, zA4, zA5, zA6])
             generalize v6.setRow g9 #[.func (.func 28) #[] #[.pointer (some ⟨qp4, 0, none⟩), .pointer (some ⟨qo4, 0, none⟩)], .func (.func 30) #[] #[.pointer (some ⟨qp4, 0, none⟩), .pointer (some ⟨qo4, 0, none⟩)], .func (.func 31) #[] #[.pointer (some ⟨qp4, 0, none⟩), .pointer (some ⟨qo4, 0, none⟩)]] = v7 at *
             (refine wpOU_solo (zO rfl) ?_)
             intro K hK
             rw [if_pos (by rfl)]
             refine wp_store_row _ _ _ rfl g10 #[.func (.func 28) #[] #[.pointer (some ⟨qp9, 0, none⟩), .pointer (some ⟨qo9, 0, none⟩)], .func (.func 30) #[] #[.pointer (some ⟨qp9, 0, none⟩), .pointer (some ⟨qo9, 0, none⟩)], .func (.func 31) #[] #[.pointer (some ⟨qp9, 0, none⟩), .pointer (some ⟨qo9, 0, none⟩)]] rfl rfl _ _ HRg10v7.out (by kernel_rfl) rfl (ops_one _ _ _ _ _ _) ?_
             have hm : Mut g10 v7 (v7.setRow g10 #[.func (.func 28) #[] #[.pointer (some ⟨qp9, 0, none⟩), .pointer (some ⟨qo9, 0, none⟩)], .func (.func 30) #[] #[.pointer (some ⟨qp9, 0, none⟩), .pointer (some ⟨qo9, 0, none⟩)], .func (.func 31) #[] #[.pointer (some ⟨qp9, 0, none⟩), .pointer (some ⟨qo9, 0, none⟩)]]) := Mut.of_else (Else.setRow v7 g10 _)
             have HSv8 := zh (HSv7.out.trans (hm.below HGg10.out HSv7.out.size))
             have HW3v8 := zh (HW3v7.out.mut hm HN3xg10.out)
             have HW4v8 := zh (HW4v7.out.mut hm HN4xg10.out)
             have HW8v8 := zh (HW8v7.out.mut hm HN8xg10.out)
             have HW9v8 := zh (HW9v7.out.mut hm HN9xg10.out)
             have HRg9v8 := zh (HRg9v7.out.mut hm HDg9xg10.out)
             have HRg10v8 := zh (HRg10v7.out.setRow #[.func (.func 28) #[] #[.pointer (some ⟨qp9, 0, none⟩), .pointer (some ⟨qo9, 0, none⟩)], .func (.func 30) #[] #[.pointer (some ⟨qp9, 0, none⟩), .pointer (some ⟨qo9, 0, none⟩)], .func (.func 31) #[] #[.pointer (some ⟨qp9, 0, none⟩), .pointer (some ⟨qo9, 0, none⟩)]])
             clear hm
             refine hK.out _ _ HSv8.out ?_
             clear hK K
             (try simp only [Act.put, zA4, zA5, zA6])
             generalize v7.setRow g10 #[.func (.func 28) #[] #[.pointer (some ⟨qp9, 0, none⟩), .pointer (some ⟨qo9, 0, none⟩)], .func (.func 30) #[] #[.pointer (some ⟨qp9, 0, none⟩), .pointer (some ⟨qo9, 0, none⟩)], .func (.func 31) #[] #[.pointer (some ⟨qp9, 0, none⟩), .pointer (some ⟨qo9, 0, none⟩)]] = v8 at *
             refine wpOU_done ?_
             go_wp2
             go_meet
             case rel => exact ⟨g9, g10, qp3, qo3, qp4, qo4, qp8, qo8, qp9, qo9, rfl, rfl, zh ⟨HGg9.out, HGg10.out⟩, HRg9v8.out, HRg10v8.out, HW3v8.out, HW4v8.out, HW8v8.out, HW9v8.out, HSv8.out⟩
           ·(refine wpOU_solo (zO rfl) ?_)
            intro K hK
            go_simp
            have hb : Below v3.heap.size v3 (v3.alloc (.cells #[.nilFunc, .nilFunc, .nilFunc] 33)) := (zB _ _).alloc (zL _) _
            have HSv4 := zh (HSv3.out.trans (hb.mono HSv3.out.size))
            have HW3v4 := zh (HW3v3.out.below hb)
            have HW4v4 := zh (HW4v3.out.below hb)
            have HRg10v4 := zh (HRg10v3.out.below hb HRg10v3.out.lt)
            have HRg9v4 : Hid (RowAt (v3.alloc (.cells #[.nilFunc, .nilFunc, .nilFunc] 33)) v3.heap.size 33 #[.nilFunc, .nilFunc, .nilFunc]) := zh (RowAt.new _ _ _)
            have HGg9 : Hid (w8.heap.size ≤ v3.heap.size) := zh HSv3.out.size
            have HN3xg9 := zh HW3v3.out.ne_new
            have HN4xg9 := zh HW4v3.out.ne_new
            have HDg10xg9 : Hid (g10 ≠ v3.heap.size) := zh (Nat.ne_of_lt HRg10v3.out.lt)
            have HDg9xg10 : Hid (v3.heap.size ≠ g10) := zh fun e => HDg10xg9.out e.symm
            clear hb
            refine hK.out _ _ HSv4.out ?_
            clear hK K
            (try simp only [Act.put, zA4, zA5, zA6])
            generalize v3.heap.size = g9 at *
            generalize (v3.alloc (.cells #[.nilFunc, .nilFunc, .nilFunc] 33)) = v4 at *
            (refine wpOU_solo (zO rfl) ?_)
            intro K hK
            go_simp
            refine (HWc.out v4 _ _ _ _ _ _ HSv4.out).mono ?_
            rintro e v5 ⟨qo8, qp8, rfl, ho, hp, h1, h2, hb⟩
            have HSv5 := zh (HSv4.out.trans (hb.mono HSv4.out.size))
            have HW3v5 := zh (HW3v4.out.below hb)
            have HW4v5 := zh (HW4v4.out.below hb)
            have HRg10v5 := zh (HRg10v4.out.below hb HRg10v4.out.lt)
            have HRg9v5 := zh (HRg9v4.out.below hb HRg9v4.out.lt)
            have HN8xg10 := zh (ne_old HRg10v4.out.lt h2 h1)
            have HN8xg9 := zh (ne_old HRg9v4.out.lt h2 h1)
            have HW8v5 : Hid (Wrp v5 w8.heap.size qp8 qo8 gc 19 21 43 #[.pointer (some ⟨gow, 0, none⟩)] #[] #[.pointer (some ⟨go, 0, none⟩), .pointer (some ⟨gp, 0, none⟩), .pointer (some ⟨gt, 0, none⟩), .pointer (some ⟨gs, 0, none⟩)]) := zh ⟨hp, ho, zM HSv4.out.size h2, zM HSv4.out.size h1⟩
            clear ho hp h1 h2 hb
            refine hK.out _ _ HSv5.out ?_
            clear hK K
            (try simp only [Act.put, zA4, zA5, zA6])
            (refine wpOU_solo (zO rfl) ?_)
            intro K hK
            go_simp
            refine (HWc.out v5 _ _ _ _ _ _ HSv5.out).mono ?_
            rintro e v6 ⟨qo9, qp9, rfl, ho, hp, h1, h2, hb⟩
            have HSv6 := zh (HSv5.out.trans (hb.mono HSv5.out.size))
            have HW3v6 := zh (HW3v5.out.below hb)
            have HW4v6 := zh (HW4v5.out.below hb)
            have HW8v6 := zh (HW8v5.out.below hb)
            have HRg10v6 := zh (HRg10v5.out.below hb HRg10v5.out.lt)
            have HRg9v6 := zh (HRg9v5.out.below hb HRg9v5.out.lt)
            have HN9xg10 := zh (ne_old HRg10v5.out.lt h2 h1)
            have HN9xg9 := zh (ne_old HRg9v5.out.lt h2 h1)
            have HW9v6 : Hid (Wrp v6 w8.heap.size qp9 qo9 gc 28 30 31 #[.pointer (some ⟨qp8, 0, none⟩), .pointer (some ⟨qo8, 0, none⟩)] #[.pointer (some ⟨qp8, 0, none⟩), .pointer (some ⟨qo8, 0, none⟩)] #[.pointer (some ⟨qp8, 0, none⟩), .pointer (some ⟨qo8, 0, none⟩)]) := zh ⟨hp, ho, zM HSv5.out.size h2, zM HSv5.out.size h1⟩
            clear ho hp h1 h2 hb
            refine hK.out _ _ HSv6.out ?_
            clear hK K
            (try simp only [Act.put, zA4, zA5, zA6])
            (refine wpOU_solo (zO rfl) ?_)
            intro K hK
            rw [if_pos (by rfl)]
            refine wp_store_row _ _ _ rfl g9 #[.func (.func 28) #[] #[.pointer (some ⟨qp4, 0, none⟩), .pointer (some ⟨qo4, 0, none⟩)], .func (.func 30) #[] #[.pointer (some ⟨qp4, 0, none⟩), .pointer (some ⟨qo4, 0, none⟩)], .func (.func 31) #[] #[.pointer (some ⟨qp4, 0, none⟩), .pointer (some ⟨qo4, 0, none⟩)]] rfl rfl _ _ HRg9v6.out (by kernel_rfl) rfl (ops_one _ _ _ _ _ _) ?_
            have hm : Mut g9 v6 (v6.setRow g9 #[.func (.func 28) #[] #[.pointer (some ⟨qp4, 0, none⟩), .pointer (some ⟨qo4, 0, none⟩)], .func (.func 30) #[] #[.pointer (some ⟨qp4, 0, none⟩), .pointer (some ⟨qo4, 0, none⟩)], .func (.func 31) #[] #[.pointer (some ⟨qp4, 0, none⟩), .pointer (some ⟨qo4, 0, none⟩)]]) := Mut.of_else (Else.setRow v6 g9 _)
            have HSv7 := zh (HSv6.out.trans (hm.below HGg9.out HSv6.out.size))
            have HW3v7 := zh (HW3v6.out.mut hm HN3xg9.out)
            have HW4v7 := zh (HW4v6.out.mut hm HN4xg9.out)
            have HW8v7 := zh (HW8v6.out.mut hm HN8xg9.out)
            have HW9v7 := zh (HW9v6.out.mut hm HN9xg9.out)
            have HRg10v7 := zh (HRg10v6.out.mut hm HDg10xg9.out)
            have HRg9v7 := zh (HRg9v6.out.setRow #[.func (.func 28) #[] #[.pointer (some ⟨qp4, 0, none⟩), .pointer (some ⟨qo4, 0, none⟩)], .func (.func 30) #[] #[.pointer (some ⟨qp4, 0, none⟩), .pointer (some ⟨qo4, 0, none⟩)], .func (.func 31) #[] #[.pointer (some ⟨qp4, 0, none⟩), .pointer (some ⟨qo4, 0, none⟩)]])
            clear hm
            refine hK.out _ _ HSv7.out ?_
            clear hK K
            (try simp only [Act.put, zA4, zA5, zA6])
            generalize v6.setRow g9 #[.func (.func 28) #[] #[.pointer (some ⟨qp4, 0, none⟩), .pointer (some ⟨qo4, 0, none⟩)], .func (.func 30) #[] #[.pointer (some ⟨qp4, 0, none⟩), .pointer (some ⟨qo4, 0, none⟩)], .func (.func 31) #[] #[.pointer (some ⟨qp4, 0, none⟩), .pointer (some ⟨qo4, 0, none⟩)]] = v7 at *
            (refine wpOU_solo (zO rfl) ?_)
            intro K hK
            rw [if_pos (by rfl)]
            refine wp_store_row _ _ _ rfl g10 #[.func (.func 28) #[] #[.pointer (some ⟨qp9, 0, none⟩), .pointer (some ⟨qo9, 0, none⟩)], .func (.func 30) #[] #[.pointer (some ⟨qp9, 0, none⟩), .pointer (some ⟨qo9, 0, none⟩)], .func (.func 31) #[] #[.pointer (some ⟨qp9, 0, none⟩), .pointer (some ⟨qo9, 0, none⟩)]] rfl rfl _ _ HRg10v7.out (by kernel_rfl) rfl (ops_one _ _ _ _ _ _) ?_
            have hm : Mut g10 v7 (v7.setRow g10 #[.func (.func 28) #[] #[.pointer (some ⟨qp9, 0, none⟩), .pointer (some ⟨qo9, 0, none⟩)], .func (.func 30) #[] #[.pointer (some ⟨qp9, 0, none⟩), .pointer (some ⟨qo9, 0, none⟩)], .func (.func 31) #[] #[.pointer (some ⟨qp9, 0, none⟩), .pointer (some ⟨qo9, 0, none⟩)]]) := Mut.of_else (Else.setRow v7 g10 _)
            have HSv8 := zh (HSv7.out.trans (hm.below HGg10.out HSv7.out.size))
            have HW3v8 := zh (HW3v7.out.mut hm HN3xg10.out)
            have HW4v8 := zh (HW4v7.out.mut hm HN4xg10.out)
            have HW8v8 := zh (HW8v7.out.mut hm HN8xg10.out)
            have HW9v8 := zh (HW9v7.out.mut hm HN9xg10.out)
            have HRg9v8 := zh (HRg9v7.out.mut hm HDg9xg10.out)
            have HRg10v8 := zh (HRg10v7.out.setRow #[.func (.func 28) #[] #[.pointer (some ⟨qp9, 0, none⟩), .pointer (some ⟨qo9, 0, none⟩)], .func (.func 30) #[] #[.pointer (some ⟨qp9, 0, none⟩), .pointer (some ⟨qo9, 0, none⟩)], .func (.func 31) #[] #[.pointer (some ⟨qp9, 0, none⟩), .pointer (some ⟨qo9, 0, none⟩)]])
            clear hm
            refine hK.out _ _ HSv8.out ?_
            clear hK K
            (try simp only [Act.put, zA4, zA5, zA6])
            generalize v7.setRow g10 #[.func (.func 28) #[] #[.pointer (some ⟨qp9, 0, none⟩), .pointer (some ⟨qo9, 0, none⟩)], .func (.func 30) #[] #[.pointer (some ⟨qp9, 0, none⟩), .pointer (some ⟨qo9, 0, none⟩)], .func (.func 31) #[] #[.pointer (some ⟨qp9, 0, none⟩), .pointer (some ⟨qo9, 0, none⟩)]] = v8 at *
            refine wpOU_done ?_
            go_wp2
            go_meet
            case rel => exact ⟨g9, g10, qp3, qo3, qp4, qo4, qp8, qo8, qp9, qo9, rfl, rfl, zh ⟨HGg9.out, HGg10.out⟩, HRg9v8.out, HRg10v8.out, HW3v8.out, HW4v8.out, HW8v8.out, HW9v8.out, HSv8.out⟩
          ·(refine wpOU_solo (zO rfl) ?_)
           intro K hK
           go_simp
           have hb : Below v2.heap.size v2 (v2.alloc (.cells #[.nilFunc, .nilFunc, .nilFunc] 33)) := (zB _ _).alloc (zL _) _
           have HSv3 := zh (HSv2.out.trans (hb.mono HSv2.out.size))
           have HW3v3 := zh (HW3v2.out.below hb)
           have HRg10v3 := zh (HRg10v2.out.below hb HRg10v2.out.lt)
           have HRg9v3 : Hid (RowAt (v2.alloc (.cells #[.nilFunc, .nilFunc, .nilFunc] 33)) v2.heap.size 33 #[.nilFunc, .nilFunc, .nilFunc]) := zh (RowAt.new _ _ _)
           have HGg9 : Hid (w8.heap.size ≤ v2.heap.size) := zh HSv2.out.size
           have HN3xg9 := zh HW3v2.out.ne_new
           have HDg10xg9 : Hid (g10 ≠ v2.heap.size) := zh (Nat.ne_of_lt HRg10v2.out.lt)
           have HDg9xg10 : Hid (v2.heap.size ≠ g10) := zh fun e => HDg10xg9.out e.symm
           clear hb
           refine hK.out _ _ HSv3.out ?_
           clear hK K
           (try simp only [Act.put, zA4, zA5, zA6])
           generalize v2.heap.size = g9 at *
           generalize (v2.alloc (.cells #[.nilFunc, .nilFunc, .nilFunc] 33)) = v3 at *
           (refine wpOU_solo (zO rfl) ?_)
           intro K hK
           go_simp
           refine (HWa.out v3 _ _ _ _ _ _ HSv3.out).mono ?_
           rintro e v4 ⟨qo4, qp4, rfl, ho, hp, h1, h2, hb⟩
           have HSv4 := zh (HSv3.out.trans (hb.mono HSv3.out.size))
           have HW3v4 := zh (HW3v3.out.below hb)
           have HRg10v4 := zh (HRg10v3.out.below hb HRg10v3.out.lt)
           have HRg9v4 := zh (HRg9v3.out.below hb HRg9v3.out.lt)
           have HN4xg10 := zh (ne_old HRg10v3.out.lt h2 h1)
           have HN4xg9 := zh (ne_old HRg9v3.out.lt h2 h1)
           have HW4v4 : Hid (Wrp v4 w8.heap.size qp4 qo4 ga 28 30 31 #[.pointer (some ⟨qp3, 0, none⟩), .pointer (some ⟨qo3, 0, none⟩)] #[.pointer (some ⟨qp3, 0, none⟩), .pointer (some ⟨qo3, 0, none⟩)] #[.pointer (some ⟨qp3, 0, none⟩), .pointer (some ⟨qo3, 0, none⟩)]) := zh ⟨hp, ho, zM HSv3.out.size h2, zM HSv3.out.size h1⟩
           clear ho hp h1 h2 hb
           refine hK.out _ _ HSv4.out ?_
           clear hK K
           (try simp only [Act.put, zA4, zA5, zA6])
           (refine wpOU_solo (zO rfl) ?_)
           intro K hK
           go_simp
           refine (HWc.out v4 _ _ _ _ _ _ HSv4.out).mono ?_
           rintro e v5 ⟨qo8, qp8, rfl, ho, hp, h1, h2, hb⟩
           have HSv5 := zh (HSv4.out.trans (hb.mono HSv4.out.size))
           have HW3v5 := zh (HW3v4.out.below hb)
           have HW4v5 := zh (HW4v4.out.below hb)
           have HRg10v5 := zh (HRg10v4.out.below hb HRg10v4.out.lt)
           have HRg9v5 := zh (HRg9v4.out.below hb HRg9v4.out.lt)
           have HN8xg10 := zh (ne_old HRg10v4.out.lt h2 h1)
           have HN8xg9 := zh (ne_old HRg9v4.out.lt h2 h1)
           have HW8v5 : Hid (Wrp v5 w8.heap.size qp8 qo8 gc 19 21 43 #[.pointer (some ⟨gow, 0, none⟩)] #[] #[.pointer (some ⟨go, 0, none⟩), .pointer (some ⟨gp, 0, none⟩), .pointer (some ⟨gt, 0, none⟩), .pointer (some ⟨gs, 0, none⟩)]) := zh ⟨hp, ho, zM HSv4.out.size h2, zM HSv4.out.size h1⟩
           clear ho hp h1 h2 hb
           refine hK.out _ _ HSv5.out ?_
           clear hK K
           (try simp only [Act.put, zA4, zA5, zA6])
           (refine wpOU_solo (zO rfl) ?_)
           intro K hK
           go_simp
           refine (HWc.out v5 _ _ _ _ _ _ HSv5.out).mono ?_
           rintro e v6 ⟨qo9, qp9, rfl, ho, hp, h1, h2, hb⟩
           have HSv6 := zh (HSv5.out.trans (hb.mono HSv5.out.size))
           have HW3v6 := zh (HW3v5.out.below hb)
           have HW4v6 := zh (HW4v5.out.below hb)
           have HW8v6 := zh (HW8v5.out.below hb)
           have HRg10v6 := zh (HRg10v5.out.below hb HRg10v5.out.lt)
           have HRg9v6 := zh (HRg9v5.out.below hb HRg9v5.out.lt)
           have HN9xg10 := zh (ne_old HRg10v5.out.lt h2 h1)
           have HN9xg9 := zh (ne_old HRg9v5.out.lt h2 h1)
           have HW9v6 : Hid (Wrp v6 w8.heap.size qp9 qo9 gc 28 30 31 #[.pointer (some ⟨qp8, 0, none⟩), .pointer (some ⟨qo8, 0, none⟩)] #[.pointer (some ⟨qp8, 0, none⟩), .pointer (some ⟨qo8, 0, none⟩)] #[.pointer (some ⟨qp8, 0, none⟩), .pointer (some ⟨qo8, 0, none⟩)]) := zh ⟨hp, ho, zM HSv5.out.size h2, zM HSv5.out.size h1⟩
           clear ho hp h1 h2 hb
           refine hK.out _ _ HSv6.out ?_
           clear hK K
           (try simp only [Act.put, zA4, zA5, zA6])
           (refine wpOU_solo (zO rfl) ?_)
           intro K hK
           rw [if_pos (by rfl)]
           refine wp_store_row _ _ _ rfl g9 #[.func (.func 28) #[] #[.pointer (some ⟨qp4, 0, none⟩), .pointer (some ⟨qo4, 0, none⟩)], .func (.func 30) #[] #[.pointer (some ⟨qp4, 0, none⟩), .pointer (some ⟨qo4, 0, none⟩)], .func (.func 31) #[] #[.pointer (some ⟨qp4, 0, none⟩), .pointer (some ⟨qo4, 0, none⟩)]] rfl rfl _ _ HRg9v6.out (by kernel_rfl) rfl (ops_one _ _ _ _ _ _) ?_
           have hm : Mut g9 v6 (v6.setRow g9 #[.func (.func 28) #[] #[.pointer (some ⟨qp4, 0, none⟩), .pointer (some ⟨qo4, 0, none⟩)], .func (.func 30) #[] #[.pointer (some ⟨qp4, 0, none⟩), .pointer (some ⟨qo4, 0, none⟩)], .func (.func 31) #[] #[.pointer (some ⟨qp4, 0, none⟩), .pointer (some ⟨qo4, 0, none⟩)]]) := Mut.of_else (Else.setRow v6 g9 _)
           have HSv7 := zh (HSv6.out.trans (hm.below HGg9.out HSv6.out.size))
           have HW3v7 := zh (HW3v6.out.mut hm HN3xg9.out)
           have HW4v7 := zh (HW4v6.out.mut hm HN4xg9.out)
           have HW8v7 := zh (HW8v6.out.mut hm HN8xg9.out)
           have HW9v7 := zh (HW9v6.out.mut hm HN9xg9.out)
           have HRg10v7 := zh (HRg10v6.out.mut hm HDg10xg9.out)
           have HRg9v7 := zh (HRg9v6.out.setRow #[.func (.func 28) #[] #[.pointer (some ⟨qp4, 0, none⟩), .pointer (some ⟨qo4, 0, none⟩)], .func (.func 30) #[] #[.pointer (some ⟨qp4, 0, none⟩), .pointer (some ⟨qo4, 0, none⟩)], .func (.func 31) #[] #[.pointer (some ⟨qp4, 0, none⟩), .pointer (some ⟨qo4, 0, none⟩)]])
           clear hm
           refine hK.out _ _ HSv7.out ?_
           clear hK K
           (try simp only [Act.put, zA4, zA5, zA6])
           generalize v6.setRow g9 #[.func (.func 28) #[] #[.pointer (some ⟨qp4, 0, none⟩), .pointer (some ⟨qo4, 0, none⟩)], .func (.func 30) #[] #[.pointer (some ⟨qp4, 0, none⟩), .pointer (some ⟨qo4, 0, none⟩)], .func (.func 31) #[] #[.pointer (some ⟨qp4, 0, none⟩), .pointer (some ⟨qo4, 0, none⟩)]] = v7 at *
           (refine wpOU_solo (zO rfl) ?_)
           intro K hK
           rw [if_pos (by rfl)]
           refine wp_store_row _ _ _ rfl g10 #[.func (.func 28) #[] #[.pointer (some ⟨qp9, 0, none⟩), .pointer (some ⟨qo9, 0, none⟩)], .func (.func 30) #[] #[.pointer (some ⟨qp9, 0, none⟩), .pointer (some ⟨qo9, 0, none⟩)], .func (.func 31) #[] #[.pointer (some ⟨qp9, 0, none⟩), .pointer (some ⟨qo9, 0, none⟩)]] rfl rfl _ _ HRg10v7.out (by kernel_rfl) rfl (ops_one _ _ _ _ _ _) ?_
           have hm : Mut g10 v7 (v7.setRow g10 #[.func (.func 28) #[] #[.pointer (some ⟨qp9, 0, none⟩), .pointer (some ⟨qo9, 0, none⟩)], .func (.func 30) #[] #[.pointer (some ⟨qp9, 0, none⟩), .pointer (some ⟨qo9, 0, none⟩)], .func (.func 31) #[] #[.pointer (some ⟨qp9, 0, none⟩), .pointer (some ⟨qo9, 0, none⟩)]]) := Mut.of_else (Else.setRow v7 g10 _)
           have HSv8 := zh (HSv7.out.trans (hm.below HGg10.out HSv7.out.size))
           have HW3v8 := zh (HW3v7.out.mut hm HN3xg10.out)
           have HW4v8 := zh (HW4v7.out.mut hm HN4xg10.out)
           have HW8v8 := zh (HW8v7.out.mut hm HN8xg10.out)
           have HW9v8 := zh (HW9v7.out.mut hm HN9xg10.out)
           have HRg9v8 := zh (HRg9v7.out.mut hm HDg9xg10.out)
           have HRg10v8 := zh (HRg10v7.out.setRow #[.func (.func 28) #[] #[.pointer (some ⟨qp9, 0, none⟩), .pointer (some ⟨qo9, 0, none⟩)], .func (.func 30) #[] #[.pointer (some ⟨qp9, 0, none⟩), .pointer (some ⟨qo9, 0, none⟩)], .func (.func 31) #[] #[.pointer (some ⟨qp9, 0, none⟩), .pointer (some ⟨qo9, 0, none⟩)]])
           clear hm
           refine hK.out _ _ HSv8.out ?_
           clear hK K
           (try simp only [Act.put, zA4, zA5, zA6])
           generalize v7.setRow g10 #[.func (.func 28) #[] #[.pointer (some ⟨qp9, 0, none⟩), .pointer (some ⟨qo9, 0, none⟩)], .func (.func 30) #[] #[.pointer (some ⟨qp9, 0, none⟩), .pointer (some ⟨qo9, 0, none⟩)], .func (.func 31) #[] #[.pointer (some ⟨qp9, 0, none⟩), .pointer (some ⟨qo9, 0, none⟩)]] = v8 at *
           refine wpOU_done ?_
           go_wp2
           go_meet
           case rel => exact ⟨g9, g10, qp3, qo3, qp4, qo4, qp8, qo8, qp9, qo9, rfl, rfl, zh ⟨HGg9.out, HGg10.out⟩, HRg9v8.out, HRg10v8.out, HW3v8.out, HW4v8.out, HW8v8.out, HW9v8.out, HSv8.out⟩
         ·(refine wpOU_solo (zO rfl) ?_)
          intro K hK
          go_simp
          have hb : Below v1.heap.size v1 (v1.alloc (.cells #[.nilFunc, .nilFunc, .nilFunc] 33)) := (zB _ _).alloc (zL _) _
          have HSv2 := zh (HSv1.out.trans (hb.mono HSv1.out.size))
          have HRg10v2 := zh (HRg10v1.out.below hb HRg10v1.out.lt)
          have HRg9v2 : Hid (RowAt (v1.alloc (.cells #[.nilFunc, .nilFunc, .nilFunc] 33)) v1.heap.size 33 #[.nilFunc, .nilFunc, .nilFunc]) := zh (RowAt.new _ _ _)
          have HGg9 : Hid (w8.heap.size ≤ v1.heap.size) := zh HSv1.out.size
          have HDg10xg9 : Hid (g10 ≠ v1.heap.size) := zh (Nat.ne_of_lt HRg10v1.out.lt)
          have HDg9xg10 : Hid (v1.heap.size ≠ g10) := zh fun e => HDg10xg9.out e.symm
          clear hb
          refine hK.out _ _ HSv2.out ?_
          clear hK K
          (try simp only [Act.put, zA4, zA5, zA6])
          generalize v1.heap.size = g9 at *
          generalize (v1.alloc (.cells #[.nilFunc, .nilFunc, .nilFunc] 33)) = v2 at *
          (refine wpOU_solo (zO rfl) ?_)
          intro K hK
          go_simp
          refine (HWb.out v2 _ _ _ _ _ _ HSv2.out).mono ?_
          rintro e v3 ⟨qo3, qp3, rfl, ho, hp, h1, h2, hb⟩
          have HSv3 := zh (HSv2.out.trans (hb.mono HSv2.out.size))
          have HRg10v3 := zh (HRg10v2.out.below hb HRg10v2.out.lt)
          have HRg9v3 := zh (HRg9v2.out.below hb HRg9v2.out.lt)
          have HN3xg10 := zh (ne_old HRg10v2.out.lt h2 h1)
          have HN3xg9 := zh (ne_old HRg9v2.out.lt h2 h1)
          have HW3v3 : Hid (Wrp v3 w8.heap.size qp3 qo3 gb 19 21 43 #[.pointer (some ⟨gow, 0, none⟩)] #[] #[.pointer (some ⟨go, 0, none⟩), .pointer (some ⟨gp, 0, none⟩), .pointer (some ⟨gt, 0, none⟩), .pointer (some ⟨gs, 0, none⟩)]) := zh ⟨hp, ho, zM HSv2.out.size h2, zM HSv2.out.size h1⟩
          clear ho hp h1 h2 hb
          refine hK.out _ _ HSv3.out ?_
          clear hK K
          (try simp only [Act.put, zA4, zA5, zA6])
          (refine wpOU_solo (zO rfl) ?_)
          intro K hK
          go_simp
          refine (HWa.out v3 _ _ _ _ _ _ HSv3.out).mono ?_
          rintro e v4 ⟨qo4, qp4, rfl, ho, hp, h1, h2, hb⟩
          have HSv4 := zh (HSv3.out.trans (hb.mono HSv3.out.size))
          have HW3v4 := zh (HW3v3.out.below hb)
          have HRg10v4 := zh (HRg10v3.out.below hb HRg10v3.out.lt)
          have HRg9v4 := zh (HRg9v3.out.below hb HRg9v3.out.lt)
          have HN4xg10 := zh (ne_old HRg10v3.out.lt h2 h1)
          have HN4xg9 := zh (ne_old HRg9v3.out.lt h2 h1)
          have HW4v4 : Hid (Wrp v4 w8.heap.size qp4 qo4 ga 28 30 31 #[.pointer (some ⟨qp3, 0, none⟩), .pointer (some ⟨qo3, 0, none⟩)] #[.pointer (some ⟨qp3, 0, none⟩), .pointer (some ⟨qo3, 0, none⟩)] #[.pointer (some ⟨qp3, 0, none⟩), .pointer (some ⟨qo3, 0, none⟩)]) := zh ⟨hp, ho, zM HSv3.out.size h2, zM HSv3.out.size h1⟩
          clear ho hp h1 h2 hb
          refine hK.out _ _ HSv4.out ?_
          clear hK K
          (try simp only [Act.put, zA4, zA5, zA6])
          (refine wpOU_solo (zO rfl) ?_)
          intro K hK
          go_simp
          refine (HWc.out v4 _ _ _ _ _ _ HSv4.out).mono ?_
          rintro e v5 ⟨qo8, qp8, rfl, ho, hp, h1, h2, hb⟩
          have HSv5 := zh (HSv4.out.trans (hb.mono HSv4.out.size))
          have HW3v5 := zh (HW3v4.out.below hb)
          have HW4v5 := zh (HW4v4.out.below hb)
          have HRg10v5 := zh (HRg10v4.out.below hb HRg10v4.out.lt)
          have HRg9v5 := zh (HRg9v4.out.below hb HRg9v4.out.lt)
          have HN8xg10 := zh (ne_old HRg10v4.out.lt h2 h1)
          have HN8xg9 := zh (ne_old HRg9v4.out.lt h2 h1)
          have HW8v5 : Hid (Wrp v5 w8.heap.size qp8 qo8 gc 19 21 43 #[.pointer (some ⟨gow, 0, none⟩)] #[] #[.pointer (some ⟨go, 0, none⟩), .pointer (some ⟨gp, 0, none⟩), .pointer (some ⟨gt, 0, none⟩), .pointer (some ⟨gs, 0, none⟩)]) := zh ⟨hp, ho, zM HSv4.out.size h2, zM HSv4.out.size h1⟩
          clear ho hp h1 h2 hb
          refine hK.out _ _ HSv5.out ?_
          clear hK K
          (try simp only [Act.put, zA4, zA5, zA6])
          (refine wpOU_solo (zO rfl) ?_)
          intro K hK
          go_simp
          refine (HWc.out v5 _ _ _ _ _ _ HSv5.out).mono ?_
          rintro e v6 ⟨qo9, qp9, rfl, ho, hp, h1, h2, hb⟩
          have HSv6 := zh (HSv5.out.trans (hb.mono HSv5.out.size))
          have HW3v6 := zh (HW3v5.out.below hb)
          have HW4v6 := zh (HW4v5.out.below hb)
          have HW8v6 := zh (HW8v5.out.below hb)
          have HRg10v6 := zh (HRg10v5.out.below hb HRg10v5.out.lt)
          have HRg9v6 := zh (HRg9v5.out.below hb HRg9v5.out.lt)
          have HN9xg10 := zh (ne_old HRg10v5.out.lt h2 h1)
          have HN9xg9 := zh (ne_old HRg9v5.out.lt h2 h1)
          have HW9v6 : Hid (Wrp v6 w8.heap.size qp9 qo9 gc 28 30 31 #[.pointer (some ⟨qp8, 0, none⟩), .pointer (some ⟨qo8, 0, none⟩)] #[.pointer (some ⟨qp8, 0, none⟩), .pointer (some ⟨qo8, 0, none⟩)] #[.pointer (some ⟨qp8, 0, none⟩), .pointer (some ⟨qo8, 0, none⟩)]) := zh ⟨hp, ho, zM HSv5.out.size h2, zM HSv5.out.size h1⟩
          clear ho hp h1 h2 hb
          refine hK.out _ _ HSv6.out ?_
          clear hK K
          (try simp only [Act.put, zA4, zA5, zA6])
          (refine wpOU_solo (zO rfl) ?_)
          intro K hK
          rw [if_pos (by rfl)]
          refine wp_store_row _ _ _ rfl g9 #[.func (.func 28) #[] #[.pointer (some ⟨qp4, 0, none⟩), .pointer (some ⟨qo4, 0, none⟩)], .func (.func 30) #[] #[.pointer (some ⟨qp4, 0, none⟩), .pointer (some ⟨qo4, 0, none⟩)], .func (.func 31) #[] #[.pointer (some ⟨qp4, 0, none⟩), .pointer (some ⟨qo4, 0, none⟩)]] rfl rfl _ _ HRg9v6.out (by kernel_rfl) rfl (ops_one _ _ _ _ _ _) ?_
          have hm : Mut g9 v6 (v6.setRow g9 #[.func (.func 28) #[] #[.pointer (some ⟨qp4, 0, none⟩), .pointer (some ⟨qo4, 0, none⟩)], .func (.func 30) #[] #[.pointer (some ⟨qp4, 0, none⟩), .pointer (some ⟨qo4, 0, none⟩)], .func (.func 31) #[] #[.pointer (some ⟨qp4, 0, none⟩), .pointer (some ⟨qo4, 0, none⟩)]]) := Mut.of_else (Else.setRow v6 g9 _)
          have HSv7 := zh (HSv6.out.trans (hm.below HGg9.out HSv6.out.size))
          have HW3v7 := zh (HW3v6.out.mut hm HN3xg9.out)
          have HW4v7 := zh (HW4v6.out.mut hm HN4xg9.out)
          have HW8v7 := zh (HW8v6.out.mut hm HN8xg9.out)
          have HW9v7 := zh (HW9v6.out.mut hm HN9xg9.out)
          have HRg10v7 := zh (HRg10v6.out.mut hm HDg10xg9.out)
          have HRg9v7 := zh (HRg9v6.out.setRow #[.func (.func 28) #[] #[.pointer (some ⟨qp4, 0, none⟩), .pointer (some ⟨qo4, 0, none⟩)], .func (.func 30) #[] #[.pointer (some ⟨qp4, 0, none⟩), .pointer (some ⟨qo4, 0, none⟩)], .func (.func 31) #[] #[.pointer (some ⟨qp4, 0, none⟩), .pointer (some ⟨qo4, 0, none⟩)]])
          clear hm
          refine hK.out _ _ HSv7.out ?_
          clear hK K
          (try simp only [Act.put, zA4, zA5, zA6])
          generalize v6.setRow g9 #[.func (.func 28) #[] #[.pointer (some ⟨qp4, 0, none⟩), .pointer (some ⟨qo4, 0, none⟩)], .func (.func 30) #[] #[.pointer (some ⟨qp4, 0, none⟩), .pointer (some ⟨qo4, 0, none⟩)], .func (.func 31) #[] #[.pointer (some ⟨qp4, 0, none⟩), .pointer (some ⟨qo4, 0, none⟩)]] = v7 at *
          (refine wpOU_solo (zO rfl) ?_)
          intro K hK
          rw [if_pos (by rfl)]
          refine wp_store_row _ _ _ rfl g10 #[.func (.func 28) #[] #[.pointer (some ⟨qp9, 0, none⟩), .pointer (some ⟨qo9, 0, none⟩)], .func (.func 30) #[] #[.pointer (some ⟨qp9, 0, none⟩), .pointer (some ⟨qo9, 0, none⟩)], .func (.func 31) #[] #[.pointer (some ⟨qp9, 0, none⟩), .pointer (some ⟨qo9, 0, none⟩)]] rfl rfl _ _ HRg10v7.out (by kernel_rfl) rfl (ops_one _ _ _ _ _ _) ?_
          have hm : Mut g10 v7 (v7.setRow g10 #[.func (.func 28) #[] #[.pointer (some ⟨qp9, 0, none⟩), .pointer (some ⟨qo9, 0, none⟩)], .func (.func 30) #[] #[.pointer (some ⟨qp9, 0, none⟩), .pointer (some ⟨qo9, 0, none⟩)], .func (.func 31) #[] #[.pointer (some ⟨qp9, 0, none⟩), .pointer (some ⟨qo9, 0, none⟩)]]) := Mut.of_else (Else.setRow v7 g10 _)
          have HSv8 := zh (HSv7.out.trans (hm.below HGg10.out HSv7.out.size))
          have HW3v8 := zh (HW3v7.out.mut hm HN3xg10.out)
          have HW4v8 := zh (HW4v7.out.mut hm HN4xg10.out)
          have HW8v8 := zh (HW8v7.out.mut hm HN8xg10.out)
          have HW9v8 := zh (HW9v7.out.mut hm HN9xg10.out)
          have HRg9v8 := zh (HRg9v7.out.mut hm HDg9xg10.out)
          have HRg10v8 := zh (HRg10v7.out.setRow #[.func (.func 28) #[] #[.pointer (some ⟨qp9, 0, none⟩), .pointer (some ⟨qo9, 0, none⟩)], .func (.func 30) #[] #[.pointer (some ⟨qp9, 0, none⟩), .pointer (some ⟨qo9, 0, none⟩)], .func (.func 31) #[] #[.pointer (some ⟨qp9, 0, none⟩), .pointer (some ⟨qo9, 0, none⟩)]])
          clear hm
          refine hK.out _ _ HSv8.out ?_
          clear hK K
          (try simp only [Act.put, zA4, zA5, zA6])
          generalize v7.setRow g10 #[.func (.func 28) #[] #[.pointer (some ⟨qp9, 0, none⟩), .pointer (some ⟨qo9, 0, none⟩)], .func (.func 30) #[] #[.pointer (some ⟨qp9, 0, none⟩), .pointer (some ⟨qo9, 0, none⟩)], .func (.func 31) #[] #[.pointer (some ⟨qp9, 0, none⟩), .pointer (some ⟨qo9, 0, none⟩)]] = v8 at *
          refine wpOU_done ?_
          go_wp2
          go_meet
          case rel => exact ⟨g9, g10, qp3, qo3, qp4, qo4, qp8, qo8, qp9, qo9, rfl, rfl, zh ⟨HGg9.out, HGg10.out⟩, HRg9v8.out, HRg10v8.out, HW3v8.out, HW4v8.out, HW8v8.out, HW9v8.out, HSv8.out⟩
     case rest =>
        obtain ⟨g9, g10, qp3, qo3, qp4, qo4, qp8, qo8, qp9, qo9, rfl, rfl, HGE9, HP9, HP10, HW3, HW4, HW8, HW9, HSC⟩ := hcut
        obtain ⟨p0, p1, p2, _, _, _⟩ := rw3 HP9.out
        obtain ⟨t0, t1, t2, _, _, _⟩ := rw3 HP10.out
        clear PO HWa HWb HWc
        go_upto_region 8 with (first
         | (have hx := HB910.out; go_at_call 10; refine (lwhole_any _ _ _ _ _ _ _).mono ?_; rintro e w11 ⟨rfl, hb11⟩; have HB1011 := zh hb11; clear hb11 hx)
         | (go_at_call 10; refine (lwhole_any _ _ _ _ _ _ _).mono ?_; rintro e w10 ⟨rfl, hb10⟩; have HB910 := zh hb10; have HP10w := zh (HP10.out.below hb10 HP10.out.lt); clear hb10 t0 t1 t2; obtain ⟨t0, t1, t2, _, _, _⟩ := rw3 HP10w.out))
        have hC11 : Below wc.heap.size wc w11 := HB910.out.trans (HB1011.out.mono HB910.out.size)
        have h811 : Below w8.heap.size w8 w11 := HSC.out.trans (hC11.mono HSC.out.size)
        have s6 := HB6.out.size
        have s67 := HB67.out.size
        have s78 := HB78.out.size
        have s811 := h811.size
        have hb711 : Below w7.heap.size w7 w11 := HB78.out.trans (h811.mono s78)
        have hb611 : Below w6.heap.size w6 w11 := HB67.out.trans (hb711.mono s67)
        have hb011 : Below w.heap.size w w11 := HB6.out.trans (hb611.mono s6)
        have hle := HA.out.le
        have hw7 := HA.out.once.lt
        have hw7t := HA.out.tabs.lt
        have hord := HORD.out
        have hmn := HMN.out
        have hge9 := HGE9.out
        have hX : Cx w11 gow gs go gt gp t A' c' gf [ga, gb, gc] := cx_of (w0 := w) HH.out.tab HA.out hb011 hb711 (by omega) (fun g hg => by
         simp only [List.mem_cons, List.not_mem_nil, or_false] at hg
         omega)
        have hrA : RowAt w11 ga 74 (cntC 0 0 0) := HCA6.out.below hb611 HCA6.out.lt
        have hrB : RowAt w11 gb 74 (cntC 0 0 0) := HCB6.out.below hb611 HCB6.out.lt
        have hrC : RowAt w11 gc 74 (cntC 0 0 0) := HCC.out.below hb611 HCC.out.lt
        have HCX := zh hX
        have HI0 : Hid (Ix w11 go gt t gf [ga, gb, gc] (sT xs gc 0) w11) := zh (by
         rw [sT_zero]
         exact ix_start HA.out hb711 (fun g hg => by
           simp only [List.mem_cons, List.not_mem_nil, or_false] at hg
           rcases hg with rfl | rfl | rfl
           ·exact hrA
           ·exact hrB
           ·exact hrC))
        have hM8 : ∀ k, ((fun k => k = go ∨ k = gt ∨ k ∈ [ga, gb, gc])) k → k < w8.heap.size := by
         rintro k (h | h | h)
         ·omega
         ·omega
         ·simp only [List.mem_cons, List.not_mem_nil, or_false] at h
          omega
        have hma : ga ∈ [ga, gb, gc] := by simp
        have hmb : gb ∈ [ga, gb, gc] := by simp
        have hmc : gc ∈ [ga, gb, gc] := by simp
        have hOB := opr_base hX HCR.out
        have HOP := zh (opr_wrap hX (opr_wrap hX hOB hmb (HW3.out.at hC11 hM8)) hma (HW4.out.at hC11 hM8))
        have HOQ := zh (opr_wrap hX (opr_wrap hX hOB hmc (HW8.out.at hC11 hM8)) hmc (HW9.out.at hC11 hM8))
        have HR9 := zh (HP9.out.below hC11 HP9.out.lt)
        have HR10 := zh (HP10.out.below hC11 HP10.out.lt)
        have HMTA : Hid (MetAt w11 gma ga) := zh (RowAt.below HMA6.out hb611 (RowAt.lt HMA6.out))
        have HMTB : Hid (MetAt w11 gmb gb) := zh (RowAt.below HMB6.out hb611 (RowAt.lt HMB6.out))
        have HMTC : Hid (MetAt w11 gmc gc) := zh (RowAt.below HMC.out hb611 (RowAt.lt HMC.out))
        have hgma := RowAt.lt HMA6.out
        have hgmb := RowAt.lt HMB6.out
        have hgmc := RowAt.lt HMC.out
        have HNM : Hid (¬ ((fun k => k = go ∨ k = gt ∨ k ∈ [ga, gb, gc])) g9 ∧ ¬ ((fun k => k = go ∨ k = gt ∨ k ∈ [ga, gb, gc])) g10) := zh ⟨fun h => by have := hM8 _ h; omega, fun h => by have := hM8 _ h; omega⟩
        have hNM : ∀ g, g < w6.heap.size → g ≠ ga → g ≠ gb → g ≠ gc → ¬ ((fun k => k = go ∨ k = gt ∨ k ∈ [ga, gb, gc])) g := by
         rintro g h1 h2 h3 h4 (h | h | h)
         ·omega
         ·omega
         ·simp only [List.mem_cons, List.not_mem_nil, or_false] at h
          omega
        have HNA := zh (hNM gma hgma hmn.1 hmn.2.1 hmn.2.2.1)
        have HNB := zh (hNM gmb hgmb hmn.2.2.2.1 hmn.2.2.2.2.1 hmn.2.2.2.2.2.1)
        have HNC := zh (hNM gmc hgmc hmn.2.2.2.2.2.2.1 hmn.2.2.2.2.2.2.2.1 hmn.2.2.2.2.2.2.2.2)
        have HLOW : Hid (∀ W, But (fun k => k = go ∨ k = gt ∨ k ∈ [ga, gb, gc]) w11 W → Below w.heap.size w W) := zh fun W h => hb011.trans (h.below (by
         rintro k (h | h | h)
         ·omega
         ·omega
         ·simp only [List.mem_cons, List.not_mem_nil, or_false] at h
          omega) hb011.size)
        have HGE : Hid (∀ k, w11.heap.size ≤ k → ¬ ((fun k => k = go ∨ k = gt ∨ k ∈ [ga, gb, gc])) k) := zh fun k hk h => by have := hM8 k h; omega
        have HDS : Hid (ga ≠ gb ∧ ga ≠ gc ∧ gb ≠ gc) := zh ⟨by omega, by omega, by omega⟩
        clear hX hrA hrB hrC hOB hM8 hma hmb hmc hC11 h811 s6 s67 s78 s811 hb711 hb611 hb011 hle hw7 hw7t hord hmn hge9 hgma hgmb hgmc hNM p0 p1 p2 t0 t1 t2 HB910 HB1011 HP10w HSC HW3 HW4 HW8 HW9 HP9 HP10 HB78 HB67 HB68 HA HCR HO8 HMA6 HMB6 HMC HCA6 HCB6 HCC HORD HMN HGE9 HR6 HOF6 HB6
        go_wp2_with fail
        have hm60 : m ≤ 60 := hx60
        go_loopw [12, 47] (fun _ kv wr => ∃ k : Nat, k ≤ m ∧ kv = .int .i64 (k : Int) ∧ Hid (Ix w11 go gt t gf [ga, gb, gc] (sT xs gc k) wr)) (fun _ kv _ => m - (intOf kv).toNat)
        case atStart => exact ⟨0, by omega, rfl, HI0⟩
        case round =>
         clear HI0
         obtain ⟨k, hk, rfl, HI⟩ := hrel
         by_cases hlt : k < m
         ·obtain ⟨b, o, rfl, hbl, hc⟩ := (HH.out.ops.below (HLOW.out wr HI.out.but)).at 19 opxC_len (by omega) opx0 (i := k) (by rw [HM.out]; exact hlt)
          have hr := hc k (by rw [HM.out]; exact hlt)
          have hmem : xs.getD k opx0 ∈ xs := getD_mem' (by rw [HM.out]; exact hlt)
          have hib := infoOpx (xs.getD k opx0)
          have HXK := zh (HXB.out _ hmem)
          have HOK := zh (HH.out.ok _ hmem)
          have HST : Hid (∀ W, Ix w11 go gt t gf [ga, gb, gc] (bmp [gc, gc] (knd (xs.getD k opx0)) (bmp [ga, gb] (knd (xs.getD k opx0)) (sT xs gc k))) W → Ix w11 go gt t gf [ga, gb, gc] (sT xs gc (k + 1)) W) := zh fun W hi =>
           ⟨hi.but, hi.st, fun g hg => by
               have e := sT_step HDS.out.1 HDS.out.2.1 HDS.out.2.2 (k := k) (xs := xs) (by rw [HM.out]; exact hlt) g hg
               rw [← e, ← e, ← e]
               exact hi.cnt g hg⟩
          clear hc hbl hmem
          generalize xs.getD k opx0 = x at *
          have HRN := zh hr; clear hr
          go_upto_region 11 with (first
           | (refine wpList_ldIn (by rfl) _ _ rfl b (o + k * 19) rfl _ _ HRN.out Tryz.underlying42 rfl hib ?_)
           | (refine wpList_stRow (by rfl) _ _ _ rfl wr.heap.size (opxC x).toArray rfl rfl _ _ (RowAt.new _ _ _) (infoOpxA x) (by rw [opxC_size]; rfl) (opxC_one x) ?_; intro w12 r12 he; have HRX := zh r12; have HB12 : Hid (Below wr.heap.size wr w12) := zh (((zB _ _).alloc (zL _) _).trans (he.below (zL _))); clear r12 he))
          have HI12 := zh (HI.out.kept HB12.out)
          obtain ⟨gx, hgx⟩ : ∃ gx, gx = wr.heap.size := ⟨_, rfl⟩
          rw [← hgx] at HRX ⊢
          have hnx : ¬ ((fun k => k = go ∨ k = gt ∨ k ∈ [ga, gb, gc])) gx := HGE.out gx (by rw [hgx]; exact HI.out.but.size)
          have pO : ∀ W, But (fun k => k = go ∨ k = gt ∨ k ∈ [ga, gb, gc]) w12 W → RowAt W g9 33 #[.func (.func 28) #[] #[.pointer (some ⟨qp4, 0, none⟩), .pointer (some ⟨qo4, 0, none⟩)], .func (.func 30) #[] #[.pointer (some ⟨qp4, 0, none⟩), .pointer (some ⟨qo4, 0, none⟩)], .func (.func 31) #[] #[.pointer (some ⟨qp4, 0, none⟩), .pointer (some ⟨qo4, 0, none⟩)]] := fun W h => (HR9.out.but HI12.out.but HNM.out.1).but h HNM.out.1
          have pQ : ∀ W, But (fun k => k = go ∨ k = gt ∨ k ∈ [ga, gb, gc]) w12 W → RowAt W g10 33 #[.func (.func 28) #[] #[.pointer (some ⟨qp9, 0, none⟩), .pointer (some ⟨qo9, 0, none⟩)], .func (.func 30) #[] #[.pointer (some ⟨qp9, 0, none⟩), .pointer (some ⟨qo9, 0, none⟩)], .func (.func 31) #[] #[.pointer (some ⟨qp9, 0, none⟩), .pointer (some ⟨qo9, 0, none⟩)]] := fun W h => (HR10.out.but HI12.out.but HNM.out.2).but h HNM.out.2
          have pX : ∀ W, But (fun k => k = go ∨ k = gt ∨ k ∈ [ga, gb, gc]) w12 W → RowAt W gx 42 (opxC x).toArray := fun W h => HRX.out.but h hnx
          have PL : Hid (∀ W, But (fun k => k = go ∨ k = gt ∨ k ∈ [ga, gb, gc]) w12 W → Below w.heap.size w W) := zh fun W h => HLOW.out W (HI12.out.but.trans h)
          have HD : Hid (But (fun k => k = go ∨ k = gt ∨ k ∈ [ga, gb, gc]) w12 w12.drew) := zh (But.refl _ _).drew
          have HID := zh (HI12.out.kept (zB w12.heap.size w12).drew)
          have HDO := zh (do_any HCX.out HOP.out x (by have := HXK.out.1; omega) (by have := HXK.out.2; omega) (sT xs gc k) w12.drew HID.out (small_bnd (sT_le xs gc k) (show 2 * k + 2 ≤ 1000000 by omega)) (fun W' h => HOK.out.below (PL.out W' (HD.out.trans h))))
          have HDQ : Hid (∀ W, But (fun k => k = go ∨ k = gt ∨ k ∈ [ga, gb, gc]) w12 W → Ix w11 go gt t gf [ga, gb, gc] (bmp [ga, gb] (knd x) (sT xs gc k)) W → Calls Tryz.prog 11 #[.agg #[.func (.func 28) #[] #[.pointer (some ⟨qp9, 0, none⟩), .pointer (some ⟨qo9, 0, none⟩)], .func (.func 30) #[] #[.pointer (some ⟨qp9, 0, none⟩), .pointer (some ⟨qo9, 0, none⟩)], .func (.func 31) #[] #[.pointer (some ⟨qp9, 0, none⟩), .pointer (some ⟨qo9, 0, none⟩)]], .agg (opxC x).toArray] W fun e W' => e = .returned (.agg (gotC (ansX fs x))) ∧ Ix w11 go gt t gf [ga, gb, gc] (bmp [gc, gc] (knd x) (bmp [ga, gb] (knd x) (sT xs gc k))) W' ∧ But (fun k => k = go ∨ k = gt ∨ k ∈ [ga, gb, gc]) W W') := zh fun W h hi =>
           do_any HCX.out HOQ.out x (by have := HXK.out.1; omega) (by have := HXK.out.2; omega) _ W hi (small_bnd (bnd_bmp (sT_le xs gc k) [ga, gb] (knd x)) (show 2 * k + 2 + 2 ≤ 1000000 by omega)) (fun W' h' => HOK.out.below (PL.out W' (h.trans h')))
          have HEW := zh (ansX_ew fs x HOK.out.ew)
          clear hgx HRN hib HB12 HXK HOK hnx HRX
          refine wp_region_ord (fun W => But (fun k => k = go ∨ k = gt ∨ k ∈ [ga, gb, gc]) w12 W) [(0, true), (1, true), (3, true), (4, true), (2, false), (5, false), (6, true)] (by kernel_rfl) (by kernel_rfl) rfl (by kernel_rfl) HD.out ?_
          generalize w12.drew = VV at HD HID HDO ⊢
          iterate 4
           (refine wpOrd_step (zO rfl) ?_)
           (first
               | (refine wpOrd_skip (by rfl) ?_)
               | (refine wpOrd_take (by rfl) (take_row _ _ rfl g9 rfl _ _ _ pO Tryz.underlying33 rfl (by kernel_rfl)) ?_)
               | (refine wpOrd_take (by rfl) (take_row _ _ rfl g10 rfl _ _ _ pQ Tryz.underlying33 rfl (by kernel_rfl)) ?_)
               | (refine wpOrd_take (by rfl) (take_row _ _ rfl gx rfl _ _ _ pX Tryz.underlying42 rfl (infoOpxA x)) ?_))
           (try simp only [Act.put, zA4, zA5, zA6])
          (refine wpOrd_solo (zO rfl) ?_)
          intro K hK
          go_simp
          go_at_call 11
          refine HDO.out.mono ?_
          rintro e w13 ⟨rfl, hi13, hb13⟩
          have HI13 := zh hi13
          have HS13 := zh (HD.out.trans hb13)
          clear hi13 hb13
          refine hK.out _ _ HS13.out ?_
          clear hK K
          (try simp only [Act.put, zA4, zA5, zA6])
          (refine wpOrd_solo (zO rfl) ?_)
          intro K hK
          go_simp
          go_at_call 11
          refine (HDQ.out w13 HS13.out HI13.out).mono ?_
          rintro e w14 ⟨rfl, hi14, hb14⟩
          have HI14 := zh (HST.out w14 hi14)
          have HS14 := zh (HS13.out.trans hb14)
          clear hi14 hb14
          refine hK.out _ _ HS14.out ?_
          clear hK K
          (try simp only [Act.put, zA4, zA5, zA6])
          (refine wpOrd_step (zO rfl) ?_)
          (refine wpOrd_take (by rfl) (take_neqGot _ _ _ rfl HEW.out rfl rfl) ?_)
          (try simp only [Act.put, zA4, zA5, zA6])
          refine wpOrd_done ?_
          clear HI13 HS13 HS14 HD HID HDO HDQ pO pQ pX PL HEW HST HI12
          go_wp2_with fail
          go_roundw
          case rel => exact ⟨k + 1, by omega, by go_num, HI14⟩
          case measure => simp [intOf]; omega
         ·obtain rfl : k = m := by omega
          have hxs : xs.take k = xs := List.take_of_length_le (by rw [HM.out]; exact zL _)
          have hsum := cnt_sum xs
          rw [HM.out] at hsum
          have ea : ∀ j, sT xs gc k ga j = cntG j xs := fun j => by unfold sT; rw [if_neg HDS.out.2.1, hxs]
          have eb : ∀ j, sT xs gc k gb j = cntG j xs := fun j => by unfold sT; rw [if_neg HDS.out.2.2, hxs]
          have ec : ∀ j, sT xs gc k gc j = 2 * cntG j xs := fun j => by unfold sT; rw [if_pos rfl, hxs]
          have ra := HI.out.cnt ga (by simp)
          have rb := HI.out.cnt gb (by simp)
          have rc := HI.out.cnt gc (by simp)
          rw [ea, ea, ea] at ra
          rw [eb, eb, eb] at rb
          rw [ec, ec, ec, Int.natCast_mul, Int.natCast_mul, Int.natCast_mul] at rc
          clear ea eb ec hxs
          generalize cntG 0 xs = n0 at *
          generalize cntG 1 xs = n1 at *
          generalize cntG 2 xs = n2 at *
          have hmA : MetAt wr gma ga := RowAt.but HMTA.out HI.out.but HNA.out
          have hmB : MetAt wr gmb gb := RowAt.but HMTB.out HI.out.but HNB.out
          have hmC : MetAt wr gmc gc := RowAt.but HMTC.out HI.out.but HNC.out
          have HRA := zh (read_any17 gma ga _ _ _ wr hmA ra)
          have HRC : Hid (∀ W, Below wr.heap.size wr W → Calls Tryz.prog 16 #[.pointer (some ⟨gmc, 0, none⟩)] W fun x w' => x = .returned (.agg #[.int .i64 (2 * (n0 : Int)), .int .i64 (2 * (n1 : Int)), .int .i64 (2 * (n2 : Int))]) ∧ Below W.heap.size W w') := zh fun W h => read_any17 gmc gc _ _ _ W (RowAt.below hmC h (RowAt.lt hmC)) (rc.below h rc.lt)
          have HRB : Hid (∀ W, Below wr.heap.size wr W → Calls Tryz.prog 16 #[.pointer (some ⟨gmb, 0, none⟩)] W fun x w' => x = .returned (.agg #[.int .i64 (n0 : Int), .int .i64 (n1 : Int), .int .i64 (n2 : Int)]) ∧ Below W.heap.size W w') := zh fun W h => read_any17 gmb gb _ _ _ W (RowAt.below hmB h (RowAt.lt hmB)) (rb.below h rb.lt)
          have HLW := zh (HLOW.out wr HI.out.but)
          have HSUM := zh hsum
          clear ra rb rc hmA hmB hmC hsum HI HMTA HMTB HMTC HNA HNB HNC HLOW HGE HDS HR9 HR10 HOP HOQ HCX HXB HNM HH
          go_upto_region 15 with (first
           | (have hx := HB13.out; go_at_call 16; refine (HRC.out w13 hx).mono ?_; rintro e w14 ⟨rfl, hb14⟩; have HB14 := zh (hx.trans (hb14.mono hx.size)); clear hb14 hx)
           | (go_at_call 16; refine HRA.out.mono ?_; rintro e w13 ⟨rfl, hb13⟩; have HB13 := zh hb13; clear hb13))
          obtain ⟨rr0, rr1, hb15⟩ := two_rows w14 #[.int .i64 (n0 : Int), .int .i64 (n1 : Int), .int .i64 (n2 : Int)] #[.int .i64 (2 * (n0 : Int)), .int .i64 (2 * (n1 : Int)), .int .i64 (2 * (n2 : Int))] 52 52
          generalize ((w14.alloc (.cells #[.int .i64 (n0 : Int), .int .i64 (n1 : Int), .int .i64 (n2 : Int)] 52)).alloc (.cells #[.int .i64 (2 * (n0 : Int)), .int .i64 (2 * (n1 : Int)), .int .i64 (2 * (n2 : Int))] 52)) = w15 at *
          have HS15 : Hid (Below w15.heap.size w15 w15.drew) := zh (zB _ _).drew
          have HB15 := zh (HB14.out.trans (hb15.mono HB14.out.size))
          have pA : ∀ W, Below w15.heap.size w15 W → RowAt W w14.heap.size 52 #[.int .i64 (n0 : Int), .int .i64 (n1 : Int), .int .i64 (n2 : Int)] := fun W h => rr0.below h rr0.lt
          have pC : ∀ W, Below w15.heap.size w15 W → RowAt W (w14.heap.size + 1) 52 #[.int .i64 (2 * (n0 : Int)), .int .i64 (2 * (n1 : Int)), .int .i64 (2 * (n2 : Int))] := fun W h => rr1.below h rr1.lt
          have k0 : ∀ W, Below w15.heap.size w15 W → W.cell? ⟨w14.heap.size, 0, none⟩ = some (.int .i64 (n0 : Int)) := fun W h => ((pA W h).cell 0).trans rfl
          have k1 : ∀ W, Below w15.heap.size w15 W → W.cell? ⟨w14.heap.size, 1, none⟩ = some (.int .i64 (n1 : Int)) := fun W h => ((pA W h).cell 1).trans rfl
          have k2 : ∀ W, Below w15.heap.size w15 W → W.cell? ⟨w14.heap.size, 2, none⟩ = some (.int .i64 (n2 : Int)) := fun W h => ((pA W h).cell 2).trans rfl
          generalize w14.heap.size = g13 at *
          have hs := HSUM.out
          have q0 : IntKind.i64.wrap (2 * (n0 : Int)) = 2 * (n0 : Int) := by rw [IntKind.wrap_i64]; omega
          have q1 : IntKind.i64.wrap (2 * (n1 : Int)) = 2 * (n1 : Int) := by rw [IntKind.wrap_i64]; omega
          have q2 : IntKind.i64.wrap (2 * (n2 : Int)) = 2 * (n2 : Int) := by rw [IntKind.wrap_i64]; omega
          have q3 : IntKind.i64.wrap ((n0 : Int) + (n1 : Int)) = (n0 : Int) + (n1 : Int) := by rw [IntKind.wrap_i64]; omega
          have q4 : IntKind.i64.wrap ((n0 : Int) + (n1 : Int) + (n2 : Int)) = (k : Int) := by rw [IntKind.wrap_i64]; omega
          clear hs hb15 rr0 rr1 HB13 HB14 HRA HRC HSUM
          refine wp_region_ord (fun W => Below w15.heap.size w15 W) [(0, true), (1, true), (2, false), (3, true), (4, true), (5, true), (6, true), (7, true), (8, true), (9, true), (10, true), (11, true), (12, true), (13, true), (14, true), (15, true), (16, true), (17, true), (18, true), (19, true), (20, true), (21, true), (22, true), (23, true), (24, true), (25, true), (26, true), (27, true), (28, true), (29, true), (30, true), (31, true), (32, false), (33, true), (34, true)] (by kernel_rfl) (by kernel_rfl) rfl (by kernel_rfl) HS15.out ?_
          generalize w15.drew = v15 at HS15 ⊢
          iterate 2
           (refine wpOrd_step (zO rfl) ?_)
           (first
               | (refine wpOrd_take (by rfl) (take_row _ _ rfl g13 rfl _ _ _ pA Tryz.underlying52 rfl (by kernel_rfl)) ?_)
               | (refine wpOrd_take (v := ?_) (by rfl) ?_ ?_; rotate_left 1; (intro wx hSx; go_simp; try with_reducible rfl)))
           (try simp only [Act.put, zA4, zA5, zA6])
          (refine wpOrd_solo (zO rfl) ?_)
          intro K hK
          go_simp
          go_at_call 16
          refine (HRB.out v15 (HB15.out.trans (HS15.out.mono HB15.out.size))).mono ?_
          rintro e w16 ⟨rfl, hb16⟩
          have HS16 := zh (HS15.out.trans (hb16.mono HS15.out.size))
          clear hb16
          refine hK.out _ _ HS16.out ?_
          clear hK K
          (try simp only [Act.put, zA4, zA5, zA6])
          iterate 29
           (refine wpOrd_step (zO rfl) ?_)
           (first
               | (refine wpOrd_skip (by rfl) ?_)
               | (refine wpOrd_take (by rfl) (take_row _ _ rfl (g13 + 1) rfl _ _ _ pC Tryz.underlying52 rfl (by kernel_rfl)) ?_)
               | (refine wpOrd_take (v := ?_) (by rfl) ?_ ?_; rotate_left 1; (intro wx hSx; have c0 := k0 wx hSx; have c1 := k1 wx hSx; have c2 := k2 wx hSx; go_simp; try with_reducible rfl)))
           (try simp only [Act.put, zA4, zA5, zA6])
          (refine wpOrd_solo (zO rfl) ?_)
          intro K hK
          go_simp
          go_at_call 8
          refine (HAL.out w16 (HLW.out.trans ((HB15.out.trans (HS16.out.mono HB15.out.size)).mono HLW.out.size))).mono ?_
          rintro e w17 ⟨rfl, hb17⟩
          have HS17 := zh (HS16.out.trans (hb17.mono HS16.out.size))
          clear hb17
          refine hK.out _ _ HS17.out ?_
          clear hK K
          (try simp only [Act.put, zA4, zA5, zA6])
          iterate 2
           (refine wpOrd_step (zO rfl) ?_)
           (refine wpOrd_take (v := ?_) (by rfl) ?_ ?_; rotate_left 1; (intro wx hSx; go_simp; try with_reducible rfl))
           (try simp only [Act.put, zA4, zA5, zA6])
          refine wpOrd_done ?_
          clear pA pC k0 k1 k2
          go_wp2_with fail
          exact HQ.out _ _ ⟨rfl, HLW.out.trans ((HB15.out.trans (HS17.out.mono HB15.out.size)).mono HLW.out.size)⟩
end
end Go.Proofs.YtdahllhbpdbknaaGreatDoor
