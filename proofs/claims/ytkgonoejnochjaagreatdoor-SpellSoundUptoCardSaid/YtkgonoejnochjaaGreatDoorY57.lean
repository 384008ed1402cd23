/- Texts that SpellSoundCard need. Conditions: those that each states. -/

import Derived.Test.YtkgonoejnochjaaGreatDoorY32
import Derived.Test.YtkgonoejnochjaaGreatDoorY36
import Derived.Test.YtkgonoejnochjaaGreatDoorY38
import Derived.Test.YtkgonoejnochjaaGreatDoorY41
import Derived.Test.YtkgonoejnochjaaGreatDoorY56
set_option linter.unusedSimpArgs false
set_option linter.unusedVariables false
set_option maxRecDepth 8000
namespace Go.Proofs.YtkgonoejnochjaaGreatDoor
open Go.RowKit LX TR TM SP RM
set_option maxRecDepth 100000 in
set_option maxHeartbeats 12800000 in
theorem spellSound_any (t : Bool) (A : Option Addr) (c : Nat) (fs : List Fac) (x : Nd) (w : World) (hT : Tab w) (hF : Facs w A fs) (hx : Nods w w.heap.size [x]) (hc : TM.cnt [x] ≤ 2147483648) :
 Calls Tryz.prog 6 #[.agg (sv t A fs.length c), .agg (nv x)] w fun e w' => e = .returned (.bool true) ∧ Below w.heap.size w w' := by
 have z8 := EW.zeros
 have HB7 : Hid (∀ W, Below w.heap.size w W → Calls Tryz.prog 7 #[.agg (sv t A fs.length c)] W fun e w' => e = .returned (.bool (bigShB fs)) ∧ Below W.heap.size W w') := fun W h => bigS_any t A c fs W (hF.below h)
 have HBX : Hid (∀ B d W, Below w.heap.size w W → Sl W W.heap.size B (ncs [x]) → Calls Tryz.prog 8 #[.slice B 1 d] W fun e w' => e = .returned (.bool (decide (300 < TM.cnt [x]))) ∧ Below W.heap.size W w') := fun B d W h hs => by
  have h1 := big10_any B d [x] (by simp) (fun z hz => by
   obtain rfl := List.mem_singleton.1 hz
   omega) W hs (fun z hz => by
   obtain rfl := List.mem_singleton.1 hz
   exact (hx.below h).mono h.size)
  simpa using h1
 have HAL : Hid (∀ W, Below w.heap.size w W → Calls Tryz.prog 9 #[] W fun e w' => e = .returned (.bool true) ∧ Below W.heap.size W w') := fun W h => alive11_any W (hT.below h)
 have HP0 : Hid (∀ W, Below w.heap.size w W → Calls Tryz.prog 10 #[.agg (sv t A fs.length c), .agg (nv x)] W fun e w' => e = .returned (evV (elemR t fs x)) ∧ Below W.heap.size W w') := fun W h => selem_any t A c fs x W (hT.below h) (hF.below h) ((hx.below h).mono h.size) (by omega)
 have HIC0 : Hid (∀ W, Below w.heap.size w W → Calls Tryz.prog 20 #[.agg (nv x)] W fun e w' => e = .returned (.bool (fl x).c) ∧ Below W.heap.size W w') := fun W h => (is10_any 4294967296 (Nat.le_refl _) x (by omega) W ((hx.below h).mono h.size)).1
 have HRI0 : Hid (∀ W, Below w.heap.size w W → Calls Tryz.prog 19 #[.agg (sv t A fs.length c)] W fun e w' => e = .returned (.bool (rightS t fs)) ∧ Below W.heap.size W w') := fun W h => qright7_any t A c fs W (hF.below h)
 have hs0 := (RowAt.new w 24 (sv t A fs.length c)).alloc (.cells (nv x) 28)
 have hx0 := RowAt.new (w.alloc (.cells (sv t A fs.length c) 24)) 28 (nv x)
 rw [show (w.alloc (.cells (sv t A fs.length c) 24)).heap.size = w.heap.size + 1 by simp] at hx0
 have HBw1 : Hid (Below w.heap.size w ((w.alloc (.cells (sv t A fs.length c) 24)).alloc (.cells (nv x) 28))) := ((Below.refl _ _).alloc (Nat.le_refl _) _).alloc (by simp) _
 have HSw1 := Lib.hid hs0
 have HXw1 := Lib.hid hx0
 clear hs0 hx0
 cases hres : elemR t fs x with
 | error p =>
   rw [hres] at HP0
   obtain ⟨zz, hzz, hez⟩ : ∃ zz, zz = List.replicate 8 0 ∧ EW zz := ⟨_, rfl, z8⟩
   have HEZ0 := Lib.hid hez
   have HP : Hid (∀ W, Below w.heap.size w W → Calls Tryz.prog 10 #[.agg (sv t A fs.length c), .agg (nv x)] W fun e w' => e = .returned (.tuple #[.agg (uv zz), .agg #[.int .i64 4, .int .i64 p]]) ∧ Below W.heap.size W w') := fun W h => by
    rw [hzz]
    exact HP0.out W h
   have heq : ∀ W, (binOp .eql 34 (.agg (uv zz)) (.agg #[.int .u64 0, .int .u64 0, .int .u64 0, .int .u64 0, .int .u64 0, .int .u64 0, .int .u64 0, .int .u64 0])).run Tryz.prog W = .ok (.bool true) W := fun W => by
    rw [hzz]
    exact run_eql_elem z8 z8 W
   clear hzz
   clear hT hF hx hc hres HP0 HIC0 HRI0
   generalize bigShB fs = b7 at *
   generalize decide (300 < TM.cnt [x]) = b10 at *
   obtain ⟨xk, xp, xs, xA, xc, xw, xB, xd, xz⟩ := x
   unfold nv at HP HSw1 HXw1 HBw1 ⊢
   simp only [Nd.k, Nd.p, Nd.s, Nd.A, Nd.c, Nd.ws, Nd.B, Nd.d, Nd.ks] at HP HSw1 HXw1 HBw1 ⊢
   generalize fs.length = nf at *
   go_enter Tryz.func6, Tryz.ntmps6
   go_upto_region 1 with fail
   generalize ((w.alloc (.cells (sv t A nf c) 24)).alloc (.cells #[.int .i64 xk, .int .i64 xp, .string xs, .slice xA xw.length xc, .slice xB xz.length xd] 28)) = w1 at *
   go_wp2_with (refine wpList_loadShape (by rfl) _ rfl w.heap.size rfl t A nf c HSw1.out ?_)
   refine (HB7.out w1 HBw1.out).mono ?_
   rintro x w2 ⟨rfl, hb⟩
   have HBw2 := Lib.hid (HBw1.out.trans (hb.mono HBw1.out.size))
   have HSw2 := Lib.hid (HSw1.out.below hb HSw1.out.lt)
   have HXw2 := Lib.hid (HXw1.out.below hb HXw1.out.lt)
   clear hb
   obtain ⟨x0, x1, x2, x3, x4, _, _, _, _, _⟩ := row5 HXw2.out
   cases b7
   case' true =>
    go_wp2_with fail
    refine (HAL.out _ HBw2.out).mono ?_
    rintro x wz ⟨rfl, hb⟩
    have HBZ := Lib.hid (HBw2.out.trans (hb.mono HBw2.out.size))
    clear hb
    go_wp2_with fail
    go_ret
    exact ⟨rfl, HBZ.out⟩
   case' false =>
    go_wp2_with (refine wpList_nodes1 (by rfl) _ rfl (.mk xk xp xs xA xc xw xB xd xz) rfl ?_; intro w3 hsl hb)
    have HBG := Lib.hid (HBX.out _ 1 w3 (HBw2.out.trans (hb.mono HBw2.out.size)) hsl)
    clear x0 x1 x2 x3 x4 hsl
    have HBw3 := Lib.hid (HBw2.out.trans (hb.mono HBw2.out.size))
    have HSw3 := Lib.hid (HSw2.out.below hb HSw2.out.lt)
    have HXw3 := Lib.hid (HXw2.out.below hb HXw2.out.lt)
    clear hb
    refine HBG.out.mono ?_
    rintro x w4 ⟨rfl, hb⟩
    have HBw4 := Lib.hid (HBw3.out.trans (hb.mono HBw3.out.size))
    have HSw4 := Lib.hid (HSw3.out.below hb HSw3.out.lt)
    have HXw4 := Lib.hid (HXw3.out.below hb HXw3.out.lt)
    clear hb
    clear HBG
    cases b10
    case' true =>
        go_wp2_with fail
        refine (HAL.out _ HBw4.out).mono ?_
        rintro x wz ⟨rfl, hb⟩
        have HBZ := Lib.hid (HBw4.out.trans (hb.mono HBw4.out.size))
        clear hb
        go_wp2_with fail
        go_ret
        exact ⟨rfl, HBZ.out⟩
    case' false =>
        obtain ⟨x0, x1, x2, x3, x4, _, _, _, _, _⟩ := row5 HXw4.out
        go_wp2_with (refine wpList_loadShape (by rfl) _ rfl w.heap.size rfl t A nf c HSw4.out ?_)
        refine (HP.out w4 HBw4.out).mono ?_
        rintro x w5 ⟨rfl, hb⟩
        clear x0 x1 x2 x3 x4
        have HBw5 := Lib.hid (HBw4.out.trans (hb.mono HBw4.out.size))
        have HSw5 := Lib.hid (HSw4.out.below hb HSw4.out.lt)
        have HXw5 := Lib.hid (HXw4.out.below hb HXw4.out.lt)
        clear hb
        go_upto_region 4 with (refine wpList_storeElem (by rfl) _ _ rfl w5.heap.size rfl _ HEZ0.out rfl _ z8 (two_zero w5) ?_; intro w8 q8 he8; have hm8 := two_mid he8; obtain ⟨m0, m1, v0, v1⟩ := row2 hm8)
        obtain ⟨hE9, hF9, hB9⟩ := two_end he8 q8 (.int .i64 4) (.int .i64 p)
        have HEwr := Lib.hid hE9
        have HTwr := Lib.hid hF9
        have HBwr := Lib.hid (HBw5.out.trans (hB9.mono HBw5.out.size))
        have HBBwr := Lib.hid hB9
        have HSwr := Lib.hid (HSw5.out.below hB9 HSw5.out.lt)
        have HXwr := Lib.hid (HXw5.out.below hB9 HXw5.out.lt)
        clear he8 q8 hm8 m0 m1 v0 v1 hE9 hF9 hB9
        have hswr : w5.heap.size + 1 < ((w8.setCell ⟨w5.heap.size + 1, 0, none⟩ (.int .i64 4)).setCell ⟨w5.heap.size + 1, 1, none⟩ (.int .i64 p)).heap.size := HTwr.out.lt
        generalize (w8.setCell ⟨w5.heap.size + 1, 0, none⟩ (.int .i64 4)).setCell ⟨w5.heap.size + 1, 1, none⟩ (.int .i64 p) = wr at *
        have hg5 : w.heap.size + 1 < w5.heap.size := HXw5.out.lt
        generalize w5.heap.size = g5 at *
        obtain ⟨m0, m1, _, _⟩ := row2 HTwr.out
        go_wp2_with (refine wpList_loadElem (by rfl) _ rfl g5 rfl _ hez HEwr.out ?_)
        refine (HAL.out _ HBwr.out).mono ?_
        rintro x wz ⟨rfl, hb⟩
        have HBZ := Lib.hid (HBwr.out.trans (hb.mono HBwr.out.size))
        clear hb
        go_wp2_with fail
        go_ret
        exact ⟨rfl, HBZ.out⟩
 | ok l =>
   rw [hres] at HP0
   obtain ⟨hr, hcx, hew, hfi⟩ := elem_fits hres
   rw [hcx] at HIC0
   rw [hr] at HRI0
   have HEW := Lib.hid hew
   have HP : Hid (∀ W, Below w.heap.size w W → Calls Tryz.prog 10 #[.agg (sv t A fs.length c), .agg (nv x)] W fun e w' => e = .returned (.tuple #[.agg (uv l), .agg #[.int .i64 0, .int .i64 0]]) ∧ Below W.heap.size W w') := HP0
   have HFI : Hid (∀ W, Below w.heap.size w W → Calls Tryz.prog 17 #[.agg (sv t A fs.length c), .agg (uv l)] W fun e w' => e = .returned (.bool true) ∧ Below W.heap.size W w') := fun W h => by
    have h1 := sfitsE_any t A c fs l hew W (hT.below h) (hF.below h)
    rw [hfi] at h1
    exact h1
   have HND := Lib.hid (fun W (h : Below w.heap.size w W) => snode_any t A c fs l hew W (hT.below h) (hF.below h))
   have HEL : Hid (∀ z, er1 z = nodeE t fs l → ∀ W, Below w.heap.size w W → Nods W W.heap.size [z] → Calls Tryz.prog 10 #[.agg (sv t A fs.length c), .agg (nv z)] W fun e w' => e = .returned (.tuple #[.agg (uv l), .agg #[.int .i64 0, .int .i64 0]]) ∧ Below W.heap.size W w') := fun z hz W h hn => by
    have h1 := selem_any t A c fs z W (hT.below h) (hF.below h) hn (by
        have h1 := cnt_vol [nodeE t fs l]
        have h2 := node_vol t fs l
        rw [← hz, cnt_er1] at h1
        rw [← hz] at h2
        omega)
    rw [(back_node hew hfi hz).1] at h1
    exact h1
   have heq : ∀ W, (binOp .eql 34 (.agg (uv l)) (.agg (uv l))).run Tryz.prog W = .ok (.bool true) W := fun W => by
    rw [run_eql_elem hew hew]
    simp
   clear hT hF hx hc hres HP0 hr hcx hfi
   generalize nodeE t fs l = ND at *
   generalize bigShB fs = b7 at *
   generalize decide (300 < TM.cnt [x]) = b10 at *
   obtain ⟨xk, xp, xs, xA, xc, xw, xB, xd, xz⟩ := x
   unfold nv at HP HIC0 HSw1 HXw1 HBw1 ⊢
   simp only [Nd.k, Nd.p, Nd.s, Nd.A, Nd.c, Nd.ws, Nd.B, Nd.d, Nd.ks] at HP HIC0 HSw1 HXw1 HBw1 ⊢
   generalize fs.length = nf at *
   go_enter Tryz.func6, Tryz.ntmps6
   go_upto_region 1 with fail
   generalize ((w.alloc (.cells (sv t A nf c) 24)).alloc (.cells #[.int .i64 xk, .int .i64 xp, .string xs, .slice xA xw.length xc, .slice xB xz.length xd] 28)) = w1 at *
   go_wp2_with (refine wpList_loadShape (by rfl) _ rfl w.heap.size rfl t A nf c HSw1.out ?_)
   refine (HB7.out w1 HBw1.out).mono ?_
   rintro x w2 ⟨rfl, hb⟩
   have HBw2 := Lib.hid (HBw1.out.trans (hb.mono HBw1.out.size))
   have HSw2 := Lib.hid (HSw1.out.below hb HSw1.out.lt)
   have HXw2 := Lib.hid (HXw1.out.below hb HXw1.out.lt)
   clear hb
   obtain ⟨x0, x1, x2, x3, x4, _, _, _, _, _⟩ := row5 HXw2.out
   cases b7
   case' true =>
    go_wp2_with fail
    refine (HAL.out _ HBw2.out).mono ?_
    rintro x wz ⟨rfl, hb⟩
    have HBZ := Lib.hid (HBw2.out.trans (hb.mono HBw2.out.size))
    clear hb
    go_wp2_with fail
    go_ret
    exact ⟨rfl, HBZ.out⟩
   case' false =>
    go_wp2_with (refine wpList_nodes1 (by rfl) _ rfl (.mk xk xp xs xA xc xw xB xd xz) rfl ?_; intro w3 hsl hb)
    have HBG := Lib.hid (HBX.out _ 1 w3 (HBw2.out.trans (hb.mono HBw2.out.size)) hsl)
    clear x0 x1 x2 x3 x4 hsl
    have HBw3 := Lib.hid (HBw2.out.trans (hb.mono HBw2.out.size))
    have HSw3 := Lib.hid (HSw2.out.below hb HSw2.out.lt)
    have HXw3 := Lib.hid (HXw2.out.below hb HXw2.out.lt)
    clear hb
    refine HBG.out.mono ?_
    rintro x w4 ⟨rfl, hb⟩
    have HBw4 := Lib.hid (HBw3.out.trans (hb.mono HBw3.out.size))
    have HSw4 := Lib.hid (HSw3.out.below hb HSw3.out.lt)
    have HXw4 := Lib.hid (HXw3.out.below hb HXw3.out.lt)
    clear hb
    clear HBG
    cases b10
    case' true =>
        go_wp2_with fail
        refine (HAL.out _ HBw4.out).mono ?_
        rintro x wz ⟨rfl, hb⟩
        have HBZ := Lib.hid (HBw4.out.trans (hb.mono HBw4.out.size))
        clear hb
        go_wp2_with fail
        go_ret
        exact ⟨rfl, HBZ.out⟩
    case' false =>
        obtain ⟨x0, x1, x2, x3, x4, _, _, _, _, _⟩ := row5 HXw4.out
        go_wp2_with (refine wpList_loadShape (by rfl) _ rfl w.heap.size rfl t A nf c HSw4.out ?_)
        refine (HP.out w4 HBw4.out).mono ?_
        rintro x w5 ⟨rfl, hb⟩
        clear x0 x1 x2 x3 x4
        have HBw5 := Lib.hid (HBw4.out.trans (hb.mono HBw4.out.size))
        have HSw5 := Lib.hid (HSw4.out.below hb HSw4.out.lt)
        have HXw5 := Lib.hid (HXw4.out.below hb HXw4.out.lt)
        clear hb
        go_upto_region 4 with (refine wpList_storeElem (by rfl) _ _ rfl w5.heap.size rfl _ HEW.out rfl _ z8 (two_zero w5) ?_; intro w8 q8 he8; have hm8 := two_mid he8; obtain ⟨m0, m1, v0, v1⟩ := row2 hm8)
        obtain ⟨hE9, hF9, hB9⟩ := two_end he8 q8 (.int .i64 0) (.int .i64 0)
        have HEwr := Lib.hid hE9
        have HTwr := Lib.hid hF9
        have HBwr := Lib.hid (HBw5.out.trans (hB9.mono HBw5.out.size))
        have HBBwr := Lib.hid hB9
        have HSwr := Lib.hid (HSw5.out.below hB9 HSw5.out.lt)
        have HXwr := Lib.hid (HXw5.out.below hB9 HXw5.out.lt)
        clear he8 q8 hm8 m0 m1 v0 v1 hE9 hF9 hB9
        have hswr : w5.heap.size + 1 < ((w8.setCell ⟨w5.heap.size + 1, 0, none⟩ (.int .i64 0)).setCell ⟨w5.heap.size + 1, 1, none⟩ (.int .i64 0)).heap.size := HTwr.out.lt
        generalize (w8.setCell ⟨w5.heap.size + 1, 0, none⟩ (.int .i64 0)).setCell ⟨w5.heap.size + 1, 1, none⟩ (.int .i64 0) = wr at *
        have hg5 : w.heap.size + 1 < w5.heap.size := HXw5.out.lt
        generalize w5.heap.size = g5 at *
        obtain ⟨m0, m1, _, _⟩ := row2 HTwr.out
        go_upto_region 6 with fail
        clear m0 m1 HBBwr
        have HWB : Hid (∀ W, Below wr.heap.size wr W → Below w.heap.size w W) := fun W h => HBwr.out.trans (h.mono HBwr.out.size)
        go_cut [7, 8] from 37 to 44 (fun p q wx => ∃ gE gT : Nat, p = .pointer (some ⟨gE, 0, none⟩) ∧ q = .pointer (some ⟨gT, 0, none⟩) ∧ RowAt wx gE 34 (uv l) ∧ RowAt wx gT 36 #[.int .i64 0, .int .i64 0] ∧ Below wr.heap.size wr wx)
        case first =>
         have pS : ∀ W, Below wr.heap.size wr W → RowAt W w.heap.size 24 (sv t A nf c) := fun W h => HSwr.out.below h HSwr.out.lt
         have pE : ∀ W, Below wr.heap.size wr W → RowAt W g5 34 (uv l) := fun W h => HEwr.out.below h HEwr.out.lt
         have HVV : Hid (Below wr.heap.size wr wr.drew) := (Below.refl _ _).drew
         refine wp_region_ou (fun w' => Below wr.heap.size wr w') (.take 0 (.take 1 (.take 2 (.three 3 (.three 4 (.take 5 (.take 6 (.take 7 (.two 8 (.solo 9 (.solo 10 (.solo 11 .nil))) 9 (.solo 8 (.solo 10 (.solo 11 .nil))))))) 8 (.two 4 (.take 5 (.take 6 (.take 7 (.solo 9 (.solo 10 (.solo 11 .nil)))))) 9 (.solo 4 (.take 5 (.take 6 (.take 7 (.solo 10 (.solo 11 .nil))))))) 9 (.two 4 (.take 5 (.take 6 (.take 7 (.solo 8 (.solo 10 (.solo 11 .nil)))))) 8 (.solo 4 (.take 5 (.take 6 (.take 7 (.solo 10 (.solo 11 .nil)))))))) 8 (.two 3 (.two 4 (.take 5 (.take 6 (.take 7 (.solo 9 (.solo 10 (.solo 11 .nil)))))) 9 (.solo 4 (.take 5 (.take 6 (.take 7 (.solo 10 (.solo 11 .nil))))))) 9 (.solo 3 (.solo 4 (.take 5 (.take 6 (.take 7 (.solo 10 (.solo 11 .nil)))))))) 9 (.two 3 (.two 4 (.take 5 (.take 6 (.take 7 (.solo 8 (.solo 10 (.solo 11 .nil)))))) 8 (.solo 4 (.take 5 (.take 6 (.take 7 (.solo 10 (.solo 11 .nil))))))) 8 (.solo 3 (.solo 4 (.take 5 (.take 6 (.take 7 (.solo 10 (.solo 11 .nil)))))))))))) (by kernel_rfl) (by kernel_rfl) rfl (by kernel_rfl) HVV.out ?_
         generalize wr.drew = V at HVV ⊢
         iterate 3
          (refine wpOU_step (o := ?_) ?_ ?_; rotate_left 1; (simp only [zA1, zA2, zA3]; with_reducible rfl))
          (first
               | (refine wpOU_skip (by rfl) ?_)
               | (refine wpOU_take (by rfl) (take_loadShape _ rfl _ rfl _ _ _ _ pS) ?_)
               | (refine wpOU_take (by rfl) (take_loadElem _ rfl _ rfl _ hew pE) ?_)
               | (refine wpOU_take (v := ?_) (by rfl) ?_ ?_; rotate_left 1; (intro wx hSx; go_simp; try with_reducible rfl)))
          (try simp only [Act.put, zA4, zA5, zA6])
         clear pS pE
         refine wpOU_three ?_ ?_ ?_
         ·(refine wpOU_solo (o := ?_) ?_ ?_; rotate_left 1; (simp only [zA1, zA2, zA3]; with_reducible rfl))
          intro K hK
          go_simp
          refine (HND.out V (HWB.out _ HVV.out)).mono ?_
          rintro x u0 ⟨y, rfl, ⟨z9, rfl, hez, hdz⟩, hb⟩
          have HEZ := Lib.hid hez
          have HDZu0 := Lib.hid hdz.nods
          clear hez hdz
          have HVu0 := Lib.hid (HVV.out.trans (hb.mono HVV.out.size))
          clear hb
          refine hK.out _ _ HVu0.out ?_
          clear hK K
          (try simp only [Act.put, zA4, zA5, zA6])
          refine wpOU_three ?_ ?_ ?_
          ·(refine wpOU_solo (o := ?_) ?_ ?_; rotate_left 1; (simp only [zA1, zA2, zA3]; with_reducible rfl))
           intro K hK
           go_simp
           refine (HEL.out z9 HEZ.out u0 (HWB.out _ HVu0.out) HDZu0.out).mono ?_
           rintro x u1 ⟨rfl, hb⟩
           have HVu1 := Lib.hid (HVu0.out.trans (hb.mono HVu0.out.size))
           clear hb
           refine hK.out _ _ HVu1.out ?_
           clear hK K
           (try simp only [Act.put, zA4, zA5, zA6])
           iterate 3
               (refine wpOU_step (o := ?_) ?_ ?_; rotate_left 1; (simp only [zA1, zA2, zA3]; with_reducible rfl))
               (first
                  | (refine wpOU_skip (by rfl) ?_)
                  | (refine wpOU_take (v := ?_) (by rfl) ?_ ?_; rotate_left 1; (intro wx hSx; go_simp; try with_reducible rfl)))
               (try simp only [Act.put, zA4, zA5, zA6])
           refine wpOU_two ?_ ?_
           ·(refine wpOU_solo (o := ?_) ?_ ?_; rotate_left 1; (simp only [zA1, zA2, zA3]; with_reducible rfl))
            intro K hK
            go_simp
            rw [zero_elem]
            have HVu2 := Lib.hid (HVu1.out.alloc HVu1.out.size (.cells (uv (List.replicate 8 0)) 34))
            have HEu2 := Lib.hid (RowAt.new u1 34 (uv (List.replicate 8 0)))
            have hgE : wr.heap.size ≤ u1.heap.size := HVu1.out.size
            refine hK.out _ _ HVu2.out ?_
            clear hK K
            (try simp only [Act.put, zA4, zA5, zA6])
            generalize u1.alloc (.cells (uv (List.replicate 8 0)) 34) = u2 at *
            generalize u1.heap.size = gE at *
            (refine wpOU_solo (o := ?_) ?_ ?_; rotate_left 1; (simp only [zA1, zA2, zA3]; with_reducible rfl))
            intro K hK
            go_simp
            have HVu3 := Lib.hid (HVu2.out.alloc HVu2.out.size (.cells #[.int .i64 0, .int .i64 0] 36))
            have HTu3 := Lib.hid (RowAt.new u2 36 #[.int .i64 0, .int .i64 0])
            have hgT : wr.heap.size ≤ u2.heap.size := HVu2.out.size
            have hne : gE ≠ u2.heap.size := by have := HEu2.out.lt; omega
            have HEu3 := Lib.hid (HEu2.out.alloc (.cells #[.int .i64 0, .int .i64 0] 36))
            refine hK.out _ _ HVu3.out ?_
            clear hK K
            (try simp only [Act.put, zA4, zA5, zA6])
            generalize u2.alloc (.cells #[.int .i64 0, .int .i64 0] 36) = u3 at *
            generalize u2.heap.size = gT at *
            (refine wpOU_solo (o := ?_) ?_ ?_; rotate_left 1; (simp only [zA1, zA2, zA3]; with_reducible rfl))
            intro K hK
            rw [if_pos (by rfl)]
            refine wp_store_row 34 _ _ rfl gE (uv l) rfl rfl 34 (uv (List.replicate 8 0)) HEu3.out (einfo HEW.out) (by rw [ev_size HEW.out, ev_size z8]) (uv_one l) ?_
            have hv5 : Below wr.heap.size wr (u3.setRow gE (uv l)) := HVu3.out.trans ((Else.setRow _ _ _).below hgE)
            have he5 := HEu3.out.setRow (uv l)
            have ht5 := HTu3.out.other (Else.setRow u3 gE (uv l)) (by omega)
            refine hK.out _ _ hv5 ?_
            clear hK K
            (try simp only [Act.put, zA4, zA5, zA6])
            obtain ⟨m0, m1, v0, v1⟩ := row2 ht5
            generalize (u3.setRow gE (uv l)) = w5 at *
            (refine wpOU_solo (o := ?_) ?_ ?_; rotate_left 1; (simp only [zA1, zA2, zA3]; with_reducible rfl))
            intro K hK
            go_simp
            have hv6 := (hv5.setCell (p := ⟨gT, 0, none⟩) hgT (.int .i64 0)).setCell (p := ⟨gT, 1, none⟩) hgT (.int .i64 0)
            have he6 := (he5.far (p := ⟨gT, 0, none⟩) (by show gT ≠ gE; omega) (.int .i64 0)).far (p := ⟨gT, 1, none⟩) (by show gT ≠ gE; omega) (.int .i64 0)
            have ht6 := (ht5.put 0 (.int .i64 0)).put 1 (.int .i64 0)
            refine hK.out _ _ hv6 ?_
            clear hK K m0 m1 v0 v1
            (try simp only [Act.put, zA4, zA5, zA6])
            refine wpOU_done ?_
            go_wp2_with fail
            go_meet
            case rel => exact ⟨gE, gT, rfl, rfl, he6, ht6, hv6⟩
           ·(refine wpOU_solo (o := ?_) ?_ ?_; rotate_left 1; (simp only [zA1, zA2, zA3]; with_reducible rfl))
            intro K hK
            go_simp
            have HVu2 := Lib.hid (HVu1.out.alloc HVu1.out.size (.cells #[.int .i64 0, .int .i64 0] 36))
            have HTu2 := Lib.hid (RowAt.new u1 36 #[.int .i64 0, .int .i64 0])
            have hgT : wr.heap.size ≤ u1.heap.size := HVu1.out.size
            refine hK.out _ _ HVu2.out ?_
            clear hK K
            (try simp only [Act.put, zA4, zA5, zA6])
            generalize u1.alloc (.cells #[.int .i64 0, .int .i64 0] 36) = u2 at *
            generalize u1.heap.size = gT at *
            (refine wpOU_solo (o := ?_) ?_ ?_; rotate_left 1; (simp only [zA1, zA2, zA3]; with_reducible rfl))
            intro K hK
            go_simp
            rw [zero_elem]
            have HVu3 := Lib.hid (HVu2.out.alloc HVu2.out.size (.cells (uv (List.replicate 8 0)) 34))
            have HEu3 := Lib.hid (RowAt.new u2 34 (uv (List.replicate 8 0)))
            have hgE : wr.heap.size ≤ u2.heap.size := HVu2.out.size
            have hne : u2.heap.size ≠ gT := by have := HTu2.out.lt; omega
            have HTu3 := Lib.hid (HTu2.out.alloc (.cells (uv (List.replicate 8 0)) 34))
            refine hK.out _ _ HVu3.out ?_
            clear hK K
            (try simp only [Act.put, zA4, zA5, zA6])
            generalize u2.alloc (.cells (uv (List.replicate 8 0)) 34) = u3 at *
            generalize u2.heap.size = gE at *
            (refine wpOU_solo (o := ?_) ?_ ?_; rotate_left 1; (simp only [zA1, zA2, zA3]; with_reducible rfl))
            intro K hK
            rw [if_pos (by rfl)]
            refine wp_store_row 34 _ _ rfl gE (uv l) rfl rfl 34 (uv (List.replicate 8 0)) HEu3.out (einfo HEW.out) (by rw [ev_size HEW.out, ev_size z8]) (uv_one l) ?_
            have hv5 : Below wr.heap.size wr (u3.setRow gE (uv l)) := HVu3.out.trans ((Else.setRow _ _ _).below hgE)
            have he5 := HEu3.out.setRow (uv l)
            have ht5 := HTu3.out.other (Else.setRow u3 gE (uv l)) (by omega)
            refine hK.out _ _ hv5 ?_
            clear hK K
            (try simp only [Act.put, zA4, zA5, zA6])
            obtain ⟨m0, m1, v0, v1⟩ := row2 ht5
            generalize (u3.setRow gE (uv l)) = w5 at *
            (refine wpOU_solo (o := ?_) ?_ ?_; rotate_left 1; (simp only [zA1, zA2, zA3]; with_reducible rfl))
            intro K hK
            go_simp
            have hv6 := (hv5.setCell (p := ⟨gT, 0, none⟩) hgT (.int .i64 0)).setCell (p := ⟨gT, 1, none⟩) hgT (.int .i64 0)
            have he6 := (he5.far (p := ⟨gT, 0, none⟩) (by show gT ≠ gE; omega) (.int .i64 0)).far (p := ⟨gT, 1, none⟩) (by show gT ≠ gE; omega) (.int .i64 0)
            have ht6 := (ht5.put 0 (.int .i64 0)).put 1 (.int .i64 0)
            refine hK.out _ _ hv6 ?_
            clear hK K m0 m1 v0 v1
            (try simp only [Act.put, zA4, zA5, zA6])
            refine wpOU_done ?_
            go_wp2_with fail
            go_meet
            case rel => exact ⟨gE, gT, rfl, rfl, he6, ht6, hv6⟩
          ·(refine wpOU_solo (o := ?_) ?_ ?_; rotate_left 1; (simp only [zA1, zA2, zA3]; with_reducible rfl))
           intro K hK
           go_simp
           rw [zero_elem]
           have HVu1 := Lib.hid (HVu0.out.alloc HVu0.out.size (.cells (uv (List.replicate 8 0)) 34))
           have HEu1 := Lib.hid (RowAt.new u0 34 (uv (List.replicate 8 0)))
           have hgE : wr.heap.size ≤ u0.heap.size := HVu0.out.size
           have HDZu1 := Lib.hid ((HDZu0.out.below ((Below.refl _ _).alloc (Nat.le_refl _) (.cells (uv (List.replicate 8 0)) 34))).mono ((Below.refl u0.heap.size u0).alloc (Nat.le_refl _) (.cells (uv (List.replicate 8 0)) 34)).size)
           refine hK.out _ _ HVu1.out ?_
           clear hK K
           (try simp only [Act.put, zA4, zA5, zA6])
           generalize u0.alloc (.cells (uv (List.replicate 8 0)) 34) = u1 at *
           generalize u0.heap.size = gE at *
           refine wpOU_two ?_ ?_
           ·(refine wpOU_solo (o := ?_) ?_ ?_; rotate_left 1; (simp only [zA1, zA2, zA3]; with_reducible rfl))
            intro K hK
            go_simp
            refine (HEL.out z9 HEZ.out u1 (HWB.out _ HVu1.out) HDZu1.out).mono ?_
            rintro x u2 ⟨rfl, hb⟩
            have HVu2 := Lib.hid (HVu1.out.trans (hb.mono HVu1.out.size))
            have HEu2 := Lib.hid (HEu1.out.below hb HEu1.out.lt)
            clear hb
            refine hK.out _ _ HVu2.out ?_
            clear hK K
            (try simp only [Act.put, zA4, zA5, zA6])
            iterate 3
                (refine wpOU_step (o := ?_) ?_ ?_; rotate_left 1; (simp only [zA1, zA2, zA3]; with_reducible rfl))
                (first
                   | (refine wpOU_skip (by rfl) ?_)
                   | (refine wpOU_take (v := ?_) (by rfl) ?_ ?_; rotate_left 1; (intro wx hSx; go_simp; try with_reducible rfl)))
                (try simp only [Act.put, zA4, zA5, zA6])
            (refine wpOU_solo (o := ?_) ?_ ?_; rotate_left 1; (simp only [zA1, zA2, zA3]; with_reducible rfl))
            intro K hK
            go_simp
            have HVu3 := Lib.hid (HVu2.out.alloc HVu2.out.size (.cells #[.int .i64 0, .int .i64 0] 36))
            have HTu3 := Lib.hid (RowAt.new u2 36 #[.int .i64 0, .int .i64 0])
            have hgT : wr.heap.size ≤ u2.heap.size := HVu2.out.size
            have hne : gE ≠ u2.heap.size := by have := HEu2.out.lt; omega
            have HEu3 := Lib.hid (HEu2.out.alloc (.cells #[.int .i64 0, .int .i64 0] 36))
            refine hK.out _ _ HVu3.out ?_
            clear hK K
            (try simp only [Act.put, zA4, zA5, zA6])
            generalize u2.alloc (.cells #[.int .i64 0, .int .i64 0] 36) = u3 at *
            generalize u2.heap.size = gT at *
            (refine wpOU_solo (o := ?_) ?_ ?_; rotate_left 1; (simp only [zA1, zA2, zA3]; with_reducible rfl))
            intro K hK
            rw [if_pos (by rfl)]
            refine wp_store_row 34 _ _ rfl gE (uv l) rfl rfl 34 (uv (List.replicate 8 0)) HEu3.out (einfo HEW.out) (by rw [ev_size HEW.out, ev_size z8]) (uv_one l) ?_
            have hv5 : Below wr.heap.size wr (u3.setRow gE (uv l)) := HVu3.out.trans ((Else.setRow _ _ _).below hgE)
            have he5 := HEu3.out.setRow (uv l)
            have ht5 := HTu3.out.other (Else.setRow u3 gE (uv l)) (by omega)
            refine hK.out _ _ hv5 ?_
            clear hK K
            (try simp only [Act.put, zA4, zA5, zA6])
            obtain ⟨m0, m1, v0, v1⟩ := row2 ht5
            generalize (u3.setRow gE (uv l)) = w5 at *
            (refine wpOU_solo (o := ?_) ?_ ?_; rotate_left 1; (simp only [zA1, zA2, zA3]; with_reducible rfl))
            intro K hK
            go_simp
            have hv6 := (hv5.setCell (p := ⟨gT, 0, none⟩) hgT (.int .i64 0)).setCell (p := ⟨gT, 1, none⟩) hgT (.int .i64 0)
            have he6 := (he5.far (p := ⟨gT, 0, none⟩) (by show gT ≠ gE; omega) (.int .i64 0)).far (p := ⟨gT, 1, none⟩) (by show gT ≠ gE; omega) (.int .i64 0)
            have ht6 := (ht5.put 0 (.int .i64 0)).put 1 (.int .i64 0)
            refine hK.out _ _ hv6 ?_
            clear hK K m0 m1 v0 v1
            (try simp only [Act.put, zA4, zA5, zA6])
            refine wpOU_done ?_
            go_wp2_with fail
            go_meet
            case rel => exact ⟨gE, gT, rfl, rfl, he6, ht6, hv6⟩
           ·(refine wpOU_solo (o := ?_) ?_ ?_; rotate_left 1; (simp only [zA1, zA2, zA3]; with_reducible rfl))
            intro K hK
            go_simp
            have HVu2 := Lib.hid (HVu1.out.alloc HVu1.out.size (.cells #[.int .i64 0, .int .i64 0] 36))
            have HTu2 := Lib.hid (RowAt.new u1 36 #[.int .i64 0, .int .i64 0])
            have hgT : wr.heap.size ≤ u1.heap.size := HVu1.out.size
            have hne : gE ≠ u1.heap.size := by have := HEu1.out.lt; omega
            have HEu2 := Lib.hid (HEu1.out.alloc (.cells #[.int .i64 0, .int .i64 0] 36))
            have HDZu2 := Lib.hid ((HDZu1.out.below ((Below.refl _ _).alloc (Nat.le_refl _) (.cells #[.int .i64 0, .int .i64 0] 36))).mono ((Below.refl u1.heap.size u1).alloc (Nat.le_refl _) (.cells #[.int .i64 0, .int .i64 0] 36)).size)
            refine hK.out _ _ HVu2.out ?_
            clear hK K
            (try simp only [Act.put, zA4, zA5, zA6])
            generalize u1.alloc (.cells #[.int .i64 0, .int .i64 0] 36) = u2 at *
            generalize u1.heap.size = gT at *
            (refine wpOU_solo (o := ?_) ?_ ?_; rotate_left 1; (simp only [zA1, zA2, zA3]; with_reducible rfl))
            intro K hK
            go_simp
            refine (HEL.out z9 HEZ.out u2 (HWB.out _ HVu2.out) HDZu2.out).mono ?_
            rintro x u3 ⟨rfl, hb⟩
            have HVu3 := Lib.hid (HVu2.out.trans (hb.mono HVu2.out.size))
            have HEu3 := Lib.hid (HEu2.out.below hb HEu2.out.lt)
            have HTu3 := Lib.hid (HTu2.out.below hb HTu2.out.lt)
            clear hb
            refine hK.out _ _ HVu3.out ?_
            clear hK K
            (try simp only [Act.put, zA4, zA5, zA6])
            iterate 3
                (refine wpOU_step (o := ?_) ?_ ?_; rotate_left 1; (simp only [zA1, zA2, zA3]; with_reducible rfl))
                (first
                   | (refine wpOU_skip (by rfl) ?_)
                   | (refine wpOU_take (v := ?_) (by rfl) ?_ ?_; rotate_left 1; (intro wx hSx; go_simp; try with_reducible rfl)))
                (try simp only [Act.put, zA4, zA5, zA6])
            (refine wpOU_solo (o := ?_) ?_ ?_; rotate_left 1; (simp only [zA1, zA2, zA3]; with_reducible rfl))
            intro K hK
            rw [if_pos (by rfl)]
            refine wp_store_row 34 _ _ rfl gE (uv l) rfl rfl 34 (uv (List.replicate 8 0)) HEu3.out (einfo HEW.out) (by rw [ev_size HEW.out, ev_size z8]) (uv_one l) ?_
            have hv5 : Below wr.heap.size wr (u3.setRow gE (uv l)) := HVu3.out.trans ((Else.setRow _ _ _).below hgE)
            have he5 := HEu3.out.setRow (uv l)
            have ht5 := HTu3.out.other (Else.setRow u3 gE (uv l)) (by omega)
            refine hK.out _ _ hv5 ?_
            clear hK K
            (try simp only [Act.put, zA4, zA5, zA6])
            obtain ⟨m0, m1, v0, v1⟩ := row2 ht5
            generalize (u3.setRow gE (uv l)) = w5 at *
            (refine wpOU_solo (o := ?_) ?_ ?_; rotate_left 1; (simp only [zA1, zA2, zA3]; with_reducible rfl))
            intro K hK
            go_simp
            have hv6 := (hv5.setCell (p := ⟨gT, 0, none⟩) hgT (.int .i64 0)).setCell (p := ⟨gT, 1, none⟩) hgT (.int .i64 0)
            have he6 := (he5.far (p := ⟨gT, 0, none⟩) (by show gT ≠ gE; omega) (.int .i64 0)).far (p := ⟨gT, 1, none⟩) (by show gT ≠ gE; omega) (.int .i64 0)
            have ht6 := (ht5.put 0 (.int .i64 0)).put 1 (.int .i64 0)
            refine hK.out _ _ hv6 ?_
            clear hK K m0 m1 v0 v1
            (try simp only [Act.put, zA4, zA5, zA6])
            refine wpOU_done ?_
            go_wp2_with fail
            go_meet
            case rel => exact ⟨gE, gT, rfl, rfl, he6, ht6, hv6⟩
          ·(refine wpOU_solo (o := ?_) ?_ ?_; rotate_left 1; (simp only [zA1, zA2, zA3]; with_reducible rfl))
           intro K hK
           go_simp
           have HVu1 := Lib.hid (HVu0.out.alloc HVu0.out.size (.cells #[.int .i64 0, .int .i64 0] 36))
           have HTu1 := Lib.hid (RowAt.new u0 36 #[.int .i64 0, .int .i64 0])
           have hgT : wr.heap.size ≤ u0.heap.size := HVu0.out.size
           have HDZu1 := Lib.hid ((HDZu0.out.below ((Below.refl _ _).alloc (Nat.le_refl _) (.cells #[.int .i64 0, .int .i64 0] 36))).mono ((Below.refl u0.heap.size u0).alloc (Nat.le_refl _) (.cells #[.int .i64 0, .int .i64 0] 36)).size)
           refine hK.out _ _ HVu1.out ?_
           clear hK K
           (try simp only [Act.put, zA4, zA5, zA6])
           generalize u0.alloc (.cells #[.int .i64 0, .int .i64 0] 36) = u1 at *
           generalize u0.heap.size = gT at *
           refine wpOU_two ?_ ?_
           ·(refine wpOU_solo (o := ?_) ?_ ?_; rotate_left 1; (simp only [zA1, zA2, zA3]; with_reducible rfl))
            intro K hK
            go_simp
            refine (HEL.out z9 HEZ.out u1 (HWB.out _ HVu1.out) HDZu1.out).mono ?_
            rintro x u2 ⟨rfl, hb⟩
            have HVu2 := Lib.hid (HVu1.out.trans (hb.mono HVu1.out.size))
            have HTu2 := Lib.hid (HTu1.out.below hb HTu1.out.lt)
            clear hb
            refine hK.out _ _ HVu2.out ?_
            clear hK K
            (try simp only [Act.put, zA4, zA5, zA6])
            iterate 3
                (refine wpOU_step (o := ?_) ?_ ?_; rotate_left 1; (simp only [zA1, zA2, zA3]; with_reducible rfl))
                (first
                   | (refine wpOU_skip (by rfl) ?_)
                   | (refine wpOU_take (v := ?_) (by rfl) ?_ ?_; rotate_left 1; (intro wx hSx; go_simp; try with_reducible rfl)))
                (try simp only [Act.put, zA4, zA5, zA6])
            (refine wpOU_solo (o := ?_) ?_ ?_; rotate_left 1; (simp only [zA1, zA2, zA3]; with_reducible rfl))
            intro K hK
            go_simp
            rw [zero_elem]
            have HVu3 := Lib.hid (HVu2.out.alloc HVu2.out.size (.cells (uv (List.replicate 8 0)) 34))
            have HEu3 := Lib.hid (RowAt.new u2 34 (uv (List.replicate 8 0)))
            have hgE : wr.heap.size ≤ u2.heap.size := HVu2.out.size
            have hne : u2.heap.size ≠ gT := by have := HTu2.out.lt; omega
            have HTu3 := Lib.hid (HTu2.out.alloc (.cells (uv (List.replicate 8 0)) 34))
            refine hK.out _ _ HVu3.out ?_
            clear hK K
            (try simp only [Act.put, zA4, zA5, zA6])
            generalize u2.alloc (.cells (uv (List.replicate 8 0)) 34) = u3 at *
            generalize u2.heap.size = gE at *
            (refine wpOU_solo (o := ?_) ?_ ?_; rotate_left 1; (simp only [zA1, zA2, zA3]; with_reducible rfl))
            intro K hK
            rw [if_pos (by rfl)]
            refine wp_store_row 34 _ _ rfl gE (uv l) rfl rfl 34 (uv (List.replicate 8 0)) HEu3.out (einfo HEW.out) (by rw [ev_size HEW.out, ev_size z8]) (uv_one l) ?_
            have hv5 : Below wr.heap.size wr (u3.setRow gE (uv l)) := HVu3.out.trans ((Else.setRow _ _ _).below hgE)
            have he5 := HEu3.out.setRow (uv l)
            have ht5 := HTu3.out.other (Else.setRow u3 gE (uv l)) (by omega)
            refine hK.out _ _ hv5 ?_
            clear hK K
            (try simp only [Act.put, zA4, zA5, zA6])
            obtain ⟨m0, m1, v0, v1⟩ := row2 ht5
            generalize (u3.setRow gE (uv l)) = w5 at *
            (refine wpOU_solo (o := ?_) ?_ ?_; rotate_left 1; (simp only [zA1, zA2, zA3]; with_reducible rfl))
            intro K hK
            go_simp
            have hv6 := (hv5.setCell (p := ⟨gT, 0, none⟩) hgT (.int .i64 0)).setCell (p := ⟨gT, 1, none⟩) hgT (.int .i64 0)
            have he6 := (he5.far (p := ⟨gT, 0, none⟩) (by show gT ≠ gE; omega) (.int .i64 0)).far (p := ⟨gT, 1, none⟩) (by show gT ≠ gE; omega) (.int .i64 0)
            have ht6 := (ht5.put 0 (.int .i64 0)).put 1 (.int .i64 0)
            refine hK.out _ _ hv6 ?_
            clear hK K m0 m1 v0 v1
            (try simp only [Act.put, zA4, zA5, zA6])
            refine wpOU_done ?_
            go_wp2_with fail
            go_meet
            case rel => exact ⟨gE, gT, rfl, rfl, he6, ht6, hv6⟩
           ·(refine wpOU_solo (o := ?_) ?_ ?_; rotate_left 1; (simp only [zA1, zA2, zA3]; with_reducible rfl))
            intro K hK
            go_simp
            rw [zero_elem]
            have HVu2 := Lib.hid (HVu1.out.alloc HVu1.out.size (.cells (uv (List.replicate 8 0)) 34))
            have HEu2 := Lib.hid (RowAt.new u1 34 (uv (List.replicate 8 0)))
            have hgE : wr.heap.size ≤ u1.heap.size := HVu1.out.size
            have hne : u1.heap.size ≠ gT := by have := HTu1.out.lt; omega
            have HTu2 := Lib.hid (HTu1.out.alloc (.cells (uv (List.replicate 8 0)) 34))
            have HDZu2 := Lib.hid ((HDZu1.out.below ((Below.refl _ _).alloc (Nat.le_refl _) (.cells (uv (List.replicate 8 0)) 34))).mono ((Below.refl u1.heap.size u1).alloc (Nat.le_refl _) (.cells (uv (List.replicate 8 0)) 34)).size)
            refine hK.out _ _ HVu2.out ?_
            clear hK K
            (try simp only [Act.put, zA4, zA5, zA6])
            generalize u1.alloc (.cells (uv (List.replicate 8 0)) 34) = u2 at *
            generalize u1.heap.size = gE at *
            (refine wpOU_solo (o := ?_) ?_ ?_; rotate_left 1; (simp only [zA1, zA2, zA3]; with_reducible rfl))
            intro K hK
            go_simp
            refine (HEL.out z9 HEZ.out u2 (HWB.out _ HVu2.out) HDZu2.out).mono ?_
            rintro x u3 ⟨rfl, hb⟩
            have HVu3 := Lib.hid (HVu2.out.trans (hb.mono HVu2.out.size))
            have HEu3 := Lib.hid (HEu2.out.below hb HEu2.out.lt)
            have HTu3 := Lib.hid (HTu2.out.below hb HTu2.out.lt)
            clear hb
            refine hK.out _ _ HVu3.out ?_
            clear hK K
            (try simp only [Act.put, zA4, zA5, zA6])
            iterate 3
                (refine wpOU_step (o := ?_) ?_ ?_; rotate_left 1; (simp only [zA1, zA2, zA3]; with_reducible rfl))
                (first
                   | (refine wpOU_skip (by rfl) ?_)
                   | (refine wpOU_take (v := ?_) (by rfl) ?_ ?_; rotate_left 1; (intro wx hSx; go_simp; try with_reducible rfl)))
                (try simp only [Act.put, zA4, zA5, zA6])
            (refine wpOU_solo (o := ?_) ?_ ?_; rotate_left 1; (simp only [zA1, zA2, zA3]; with_reducible rfl))
            intro K hK
            rw [if_pos (by rfl)]
            refine wp_store_row 34 _ _ rfl gE (uv l) rfl rfl 34 (uv (List.replicate 8 0)) HEu3.out (einfo HEW.out) (by rw [ev_size HEW.out, ev_size z8]) (uv_one l) ?_
            have hv5 : Below wr.heap.size wr (u3.setRow gE (uv l)) := HVu3.out.trans ((Else.setRow _ _ _).below hgE)
            have he5 := HEu3.out.setRow (uv l)
            have ht5 := HTu3.out.other (Else.setRow u3 gE (uv l)) (by omega)
            refine hK.out _ _ hv5 ?_
            clear hK K
            (try simp only [Act.put, zA4, zA5, zA6])
            obtain ⟨m0, m1, v0, v1⟩ := row2 ht5
            generalize (u3.setRow gE (uv l)) = w5 at *
            (refine wpOU_solo (o := ?_) ?_ ?_; rotate_left 1; (simp only [zA1, zA2, zA3]; with_reducible rfl))
            intro K hK
            go_simp
            have hv6 := (hv5.setCell (p := ⟨gT, 0, none⟩) hgT (.int .i64 0)).setCell (p := ⟨gT, 1, none⟩) hgT (.int .i64 0)
            have he6 := (he5.far (p := ⟨gT, 0, none⟩) (by show gT ≠ gE; omega) (.int .i64 0)).far (p := ⟨gT, 1, none⟩) (by show gT ≠ gE; omega) (.int .i64 0)
            have ht6 := (ht5.put 0 (.int .i64 0)).put 1 (.int .i64 0)
            refine hK.out _ _ hv6 ?_
            clear hK K m0 m1 v0 v1
            (try simp only [Act.put, zA4, zA5, zA6])
            refine wpOU_done ?_
            go_wp2_with fail
            go_meet
            case rel => exact ⟨gE, gT, rfl, rfl, he6, ht6, hv6⟩
         ·(refine wpOU_solo (o := ?_) ?_ ?_; rotate_left 1; (simp only [zA1, zA2, zA3]; with_reducible rfl))
          intro K hK
          go_simp
          rw [zero_elem]
          have HVu0 := Lib.hid (HVV.out.alloc HVV.out.size (.cells (uv (List.replicate 8 0)) 34))
          have HEu0 := Lib.hid (RowAt.new V 34 (uv (List.replicate 8 0)))
          have hgE : wr.heap.size ≤ V.heap.size := HVV.out.size
          refine hK.out _ _ HVu0.out ?_
          clear hK K
          (try simp only [Act.put, zA4, zA5, zA6])
          generalize V.alloc (.cells (uv (List.replicate 8 0)) 34) = u0 at *
          generalize V.heap.size = gE at *
          refine wpOU_two ?_ ?_
          ·(refine wpOU_solo (o := ?_) ?_ ?_; rotate_left 1; (simp only [zA1, zA2, zA3]; with_reducible rfl))
           intro K hK
           go_simp
           refine (HND.out u0 (HWB.out _ HVu0.out)).mono ?_
           rintro x u1 ⟨y, rfl, ⟨z9, rfl, hez, hdz⟩, hb⟩
           have HEZ := Lib.hid hez
           have HDZu1 := Lib.hid hdz.nods
           clear hez hdz
           have HVu1 := Lib.hid (HVu0.out.trans (hb.mono HVu0.out.size))
           have HEu1 := Lib.hid (HEu0.out.below hb HEu0.out.lt)
           clear hb
           refine hK.out _ _ HVu1.out ?_
           clear hK K
           (try simp only [Act.put, zA4, zA5, zA6])
           refine wpOU_two ?_ ?_
           ·(refine wpOU_solo (o := ?_) ?_ ?_; rotate_left 1; (simp only [zA1, zA2, zA3]; with_reducible rfl))
            intro K hK
            go_simp
            refine (HEL.out z9 HEZ.out u1 (HWB.out _ HVu1.out) HDZu1.out).mono ?_
            rintro x u2 ⟨rfl, hb⟩
            have HVu2 := Lib.hid (HVu1.out.trans (hb.mono HVu1.out.size))
            have HEu2 := Lib.hid (HEu1.out.below hb HEu1.out.lt)
            clear hb
            refine hK.out _ _ HVu2.out ?_
            clear hK K
            (try simp only [Act.put, zA4, zA5, zA6])
            iterate 3
                (refine wpOU_step (o := ?_) ?_ ?_; rotate_left 1; (simp only [zA1, zA2, zA3]; with_reducible rfl))
                (first
                   | (refine wpOU_skip (by rfl) ?_)
                   | (refine wpOU_take (v := ?_) (by rfl) ?_ ?_; rotate_left 1; (intro wx hSx; go_simp; try with_reducible rfl)))
                (try simp only [Act.put, zA4, zA5, zA6])
            (refine wpOU_solo (o := ?_) ?_ ?_; rotate_left 1; (simp only [zA1, zA2, zA3]; with_reducible rfl))
            intro K hK
            go_simp
            have HVu3 := Lib.hid (HVu2.out.alloc HVu2.out.size (.cells #[.int .i64 0, .int .i64 0] 36))
            have HTu3 := Lib.hid (RowAt.new u2 36 #[.int .i64 0, .int .i64 0])
            have hgT : wr.heap.size ≤ u2.heap.size := HVu2.out.size
            have hne : gE ≠ u2.heap.size := by have := HEu2.out.lt; omega
            have HEu3 := Lib.hid (HEu2.out.alloc (.cells #[.int .i64 0, .int .i64 0] 36))
            refine hK.out _ _ HVu3.out ?_
            clear hK K
            (try simp only [Act.put, zA4, zA5, zA6])
            generalize u2.alloc (.cells #[.int .i64 0, .int .i64 0] 36) = u3 at *
            generalize u2.heap.size = gT at *
            (refine wpOU_solo (o := ?_) ?_ ?_; rotate_left 1; (simp only [zA1, zA2, zA3]; with_reducible rfl))
            intro K hK
            rw [if_pos (by rfl)]
            refine wp_store_row 34 _ _ rfl gE (uv l) rfl rfl 34 (uv (List.replicate 8 0)) HEu3.out (einfo HEW.out) (by rw [ev_size HEW.out, ev_size z8]) (uv_one l) ?_
            have hv5 : Below wr.heap.size wr (u3.setRow gE (uv l)) := HVu3.out.trans ((Else.setRow _ _ _).below hgE)
            have he5 := HEu3.out.setRow (uv l)
            have ht5 := HTu3.out.other (Else.setRow u3 gE (uv l)) (by omega)
            refine hK.out _ _ hv5 ?_
            clear hK K
            (try simp only [Act.put, zA4, zA5, zA6])
            obtain ⟨m0, m1, v0, v1⟩ := row2 ht5
            generalize (u3.setRow gE (uv l)) = w5 at *
            (refine wpOU_solo (o := ?_) ?_ ?_; rotate_left 1; (simp only [zA1, zA2, zA3]; with_reducible rfl))
            intro K hK
            go_simp
            have hv6 := (hv5.setCell (p := ⟨gT, 0, none⟩) hgT (.int .i64 0)).setCell (p := ⟨gT, 1, none⟩) hgT (.int .i64 0)
            have he6 := (he5.far (p := ⟨gT, 0, none⟩) (by show gT ≠ gE; omega) (.int .i64 0)).far (p := ⟨gT, 1, none⟩) (by show gT ≠ gE; omega) (.int .i64 0)
            have ht6 := (ht5.put 0 (.int .i64 0)).put 1 (.int .i64 0)
            refine hK.out _ _ hv6 ?_
            clear hK K m0 m1 v0 v1
            (try simp only [Act.put, zA4, zA5, zA6])
            refine wpOU_done ?_
            go_wp2_with fail
            go_meet
            case rel => exact ⟨gE, gT, rfl, rfl, he6, ht6, hv6⟩
           ·(refine wpOU_solo (o := ?_) ?_ ?_; rotate_left 1; (simp only [zA1, zA2, zA3]; with_reducible rfl))
            intro K hK
            go_simp
            have HVu2 := Lib.hid (HVu1.out.alloc HVu1.out.size (.cells #[.int .i64 0, .int .i64 0] 36))
            have HTu2 := Lib.hid (RowAt.new u1 36 #[.int .i64 0, .int .i64 0])
            have hgT : wr.heap.size ≤ u1.heap.size := HVu1.out.size
            have hne : gE ≠ u1.heap.size := by have := HEu1.out.lt; omega
            have HEu2 := Lib.hid (HEu1.out.alloc (.cells #[.int .i64 0, .int .i64 0] 36))
            have HDZu2 := Lib.hid ((HDZu1.out.below ((Below.refl _ _).alloc (Nat.le_refl _) (.cells #[.int .i64 0, .int .i64 0] 36))).mono ((Below.refl u1.heap.size u1).alloc (Nat.le_refl _) (.cells #[.int .i64 0, .int .i64 0] 36)).size)
            refine hK.out _ _ HVu2.out ?_
            clear hK K
            (try simp only [Act.put, zA4, zA5, zA6])
            generalize u1.alloc (.cells #[.int .i64 0, .int .i64 0] 36) = u2 at *
            generalize u1.heap.size = gT at *
            (refine wpOU_solo (o := ?_) ?_ ?_; rotate_left 1; (simp only [zA1, zA2, zA3]; with_reducible rfl))
            intro K hK
            go_simp
            refine (HEL.out z9 HEZ.out u2 (HWB.out _ HVu2.out) HDZu2.out).mono ?_
            rintro x u3 ⟨rfl, hb⟩
            have HVu3 := Lib.hid (HVu2.out.trans (hb.mono HVu2.out.size))
            have HEu3 := Lib.hid (HEu2.out.below hb HEu2.out.lt)
            have HTu3 := Lib.hid (HTu2.out.below hb HTu2.out.lt)
            clear hb
            refine hK.out _ _ HVu3.out ?_
            clear hK K
            (try simp only [Act.put, zA4, zA5, zA6])
            iterate 3
                (refine wpOU_step (o := ?_) ?_ ?_; rotate_left 1; (simp only [zA1, zA2, zA3]; with_reducible rfl))
                (first
                   | (refine wpOU_skip (by rfl) ?_)
                   | (refine wpOU_take (v := ?_) (by rfl) ?_ ?_; rotate_left 1; (intro wx hSx; go_simp; try with_reducible rfl)))
                (try simp only [Act.put, zA4, zA5, zA6])
            (refine wpOU_solo (o := ?_) ?_ ?_; rotate_left 1; (simp only [zA1, zA2, zA3]; with_reducible rfl))
            intro K hK
            rw [if_pos (by rfl)]
            refine wp_store_row 34 _ _ rfl gE (uv l) rfl rfl 34 (uv (List.replicate 8 0)) HEu3.out (einfo HEW.out) (by rw [ev_size HEW.out, ev_size z8]) (uv_one l) ?_
            have hv5 : Below wr.heap.size wr (u3.setRow gE (uv l)) := HVu3.out.trans ((Else.setRow _ _ _).below hgE)
            have he5 := HEu3.out.setRow (uv l)
            have ht5 := HTu3.out.other (Else.setRow u3 gE (uv l)) (by omega)
            refine hK.out _ _ hv5 ?_
            clear hK K
            (try simp only [Act.put, zA4, zA5, zA6])
            obtain ⟨m0, m1, v0, v1⟩ := row2 ht5
            generalize (u3.setRow gE (uv l)) = w5 at *
            (refine wpOU_solo (o := ?_) ?_ ?_; rotate_left 1; (simp only [zA1, zA2, zA3]; with_reducible rfl))
            intro K hK
            go_simp
            have hv6 := (hv5.setCell (p := ⟨gT, 0, none⟩) hgT (.int .i64 0)).setCell (p := ⟨gT, 1, none⟩) hgT (.int .i64 0)
            have he6 := (he5.far (p := ⟨gT, 0, none⟩) (by show gT ≠ gE; omega) (.int .i64 0)).far (p := ⟨gT, 1, none⟩) (by show gT ≠ gE; omega) (.int .i64 0)
            have ht6 := (ht5.put 0 (.int .i64 0)).put 1 (.int .i64 0)
            refine hK.out _ _ hv6 ?_
            clear hK K m0 m1 v0 v1
            (try simp only [Act.put, zA4, zA5, zA6])
            refine wpOU_done ?_
            go_wp2_with fail
            go_meet
            case rel => exact ⟨gE, gT, rfl, rfl, he6, ht6, hv6⟩
          ·(refine wpOU_solo (o := ?_) ?_ ?_; rotate_left 1; (simp only [zA1, zA2, zA3]; with_reducible rfl))
           intro K hK
           go_simp
           have HVu1 := Lib.hid (HVu0.out.alloc HVu0.out.size (.cells #[.int .i64 0, .int .i64 0] 36))
           have HTu1 := Lib.hid (RowAt.new u0 36 #[.int .i64 0, .int .i64 0])
           have hgT : wr.heap.size ≤ u0.heap.size := HVu0.out.size
           have hne : gE ≠ u0.heap.size := by have := HEu0.out.lt; omega
           have HEu1 := Lib.hid (HEu0.out.alloc (.cells #[.int .i64 0, .int .i64 0] 36))
           refine hK.out _ _ HVu1.out ?_
           clear hK K
           (try simp only [Act.put, zA4, zA5, zA6])
           generalize u0.alloc (.cells #[.int .i64 0, .int .i64 0] 36) = u1 at *
           generalize u0.heap.size = gT at *
           (refine wpOU_solo (o := ?_) ?_ ?_; rotate_left 1; (simp only [zA1, zA2, zA3]; with_reducible rfl))
           intro K hK
           go_simp
           refine (HND.out u1 (HWB.out _ HVu1.out)).mono ?_
           rintro x u2 ⟨y, rfl, ⟨z9, rfl, hez, hdz⟩, hb⟩
           have HEZ := Lib.hid hez
           have HDZu2 := Lib.hid hdz.nods
           clear hez hdz
           have HVu2 := Lib.hid (HVu1.out.trans (hb.mono HVu1.out.size))
           have HEu2 := Lib.hid (HEu1.out.below hb HEu1.out.lt)
           have HTu2 := Lib.hid (HTu1.out.below hb HTu1.out.lt)
           clear hb
           refine hK.out _ _ HVu2.out ?_
           clear hK K
           (try simp only [Act.put, zA4, zA5, zA6])
           (refine wpOU_solo (o := ?_) ?_ ?_; rotate_left 1; (simp only [zA1, zA2, zA3]; with_reducible rfl))
           intro K hK
           go_simp
           refine (HEL.out z9 HEZ.out u2 (HWB.out _ HVu2.out) HDZu2.out).mono ?_
           rintro x u3 ⟨rfl, hb⟩
           have HVu3 := Lib.hid (HVu2.out.trans (hb.mono HVu2.out.size))
           have HEu3 := Lib.hid (HEu2.out.below hb HEu2.out.lt)
           have HTu3 := Lib.hid (HTu2.out.below hb HTu2.out.lt)
           clear hb
           refine hK.out _ _ HVu3.out ?_
           clear hK K
           (try simp only [Act.put, zA4, zA5, zA6])
           iterate 3
               (refine wpOU_step (o := ?_) ?_ ?_; rotate_left 1; (simp only [zA1, zA2, zA3]; with_reducible rfl))
               (first
                  | (refine wpOU_skip (by rfl) ?_)
                  | (refine wpOU_take (v := ?_) (by rfl) ?_ ?_; rotate_left 1; (intro wx hSx; go_simp; try with_reducible rfl)))
               (try simp only [Act.put, zA4, zA5, zA6])
           (refine wpOU_solo (o := ?_) ?_ ?_; rotate_left 1; (simp only [zA1, zA2, zA3]; with_reducible rfl))
           intro K hK
           rw [if_pos (by rfl)]
           refine wp_store_row 34 _ _ rfl gE (uv l) rfl rfl 34 (uv (List.replicate 8 0)) HEu3.out (einfo HEW.out) (by rw [ev_size HEW.out, ev_size z8]) (uv_one l) ?_
           have hv5 : Below wr.heap.size wr (u3.setRow gE (uv l)) := HVu3.out.trans ((Else.setRow _ _ _).below hgE)
           have he5 := HEu3.out.setRow (uv l)
           have ht5 := HTu3.out.other (Else.setRow u3 gE (uv l)) (by omega)
           refine hK.out _ _ hv5 ?_
           clear hK K
           (try simp only [Act.put, zA4, zA5, zA6])
           obtain ⟨m0, m1, v0, v1⟩ := row2 ht5
           generalize (u3.setRow gE (uv l)) = w5 at *
           (refine wpOU_solo (o := ?_) ?_ ?_; rotate_left 1; (simp only [zA1, zA2, zA3]; with_reducible rfl))
           intro K hK
           go_simp
           have hv6 := (hv5.setCell (p := ⟨gT, 0, none⟩) hgT (.int .i64 0)).setCell (p := ⟨gT, 1, none⟩) hgT (.int .i64 0)
           have he6 := (he5.far (p := ⟨gT, 0, none⟩) (by show gT ≠ gE; omega) (.int .i64 0)).far (p := ⟨gT, 1, none⟩) (by show gT ≠ gE; omega) (.int .i64 0)
           have ht6 := (ht5.put 0 (.int .i64 0)).put 1 (.int .i64 0)
           refine hK.out _ _ hv6 ?_
           clear hK K m0 m1 v0 v1
           (try simp only [Act.put, zA4, zA5, zA6])
           refine wpOU_done ?_
           go_wp2_with fail
           go_meet
           case rel => exact ⟨gE, gT, rfl, rfl, he6, ht6, hv6⟩
         ·(refine wpOU_solo (o := ?_) ?_ ?_; rotate_left 1; (simp only [zA1, zA2, zA3]; with_reducible rfl))
          intro K hK
          go_simp
          have HVu0 := Lib.hid (HVV.out.alloc HVV.out.size (.cells #[.int .i64 0, .int .i64 0] 36))
          have HTu0 := Lib.hid (RowAt.new V 36 #[.int .i64 0, .int .i64 0])
          have hgT : wr.heap.size ≤ V.heap.size := HVV.out.size
          refine hK.out _ _ HVu0.out ?_
          clear hK K
          (try simp only [Act.put, zA4, zA5, zA6])
          generalize V.alloc (.cells #[.int .i64 0, .int .i64 0] 36) = u0 at *
          generalize V.heap.size = gT at *
          refine wpOU_two ?_ ?_
          ·(refine wpOU_solo (o := ?_) ?_ ?_; rotate_left 1; (simp only [zA1, zA2, zA3]; with_reducible rfl))
           intro K hK
           go_simp
           refine (HND.out u0 (HWB.out _ HVu0.out)).mono ?_
           rintro x u1 ⟨y, rfl, ⟨z9, rfl, hez, hdz⟩, hb⟩
           have HEZ := Lib.hid hez
           have HDZu1 := Lib.hid hdz.nods
           clear hez hdz
           have HVu1 := Lib.hid (HVu0.out.trans (hb.mono HVu0.out.size))
           have HTu1 := Lib.hid (HTu0.out.below hb HTu0.out.lt)
           clear hb
           refine hK.out _ _ HVu1.out ?_
           clear hK K
           (try simp only [Act.put, zA4, zA5, zA6])
           refine wpOU_two ?_ ?_
           ·(refine wpOU_solo (o := ?_) ?_ ?_; rotate_left 1; (simp only [zA1, zA2, zA3]; with_reducible rfl))
            intro K hK
            go_simp
            refine (HEL.out z9 HEZ.out u1 (HWB.out _ HVu1.out) HDZu1.out).mono ?_
            rintro x u2 ⟨rfl, hb⟩
            have HVu2 := Lib.hid (HVu1.out.trans (hb.mono HVu1.out.size))
            have HTu2 := Lib.hid (HTu1.out.below hb HTu1.out.lt)
            clear hb
            refine hK.out _ _ HVu2.out ?_
            clear hK K
            (try simp only [Act.put, zA4, zA5, zA6])
            iterate 3
                (refine wpOU_step (o := ?_) ?_ ?_; rotate_left 1; (simp only [zA1, zA2, zA3]; with_reducible rfl))
                (first
                   | (refine wpOU_skip (by rfl) ?_)
                   | (refine wpOU_take (v := ?_) (by rfl) ?_ ?_; rotate_left 1; (intro wx hSx; go_simp; try with_reducible rfl)))
                (try simp only [Act.put, zA4, zA5, zA6])
            (refine wpOU_solo (o := ?_) ?_ ?_; rotate_left 1; (simp only [zA1, zA2, zA3]; with_reducible rfl))
            intro K hK
            go_simp
            rw [zero_elem]
            have HVu3 := Lib.hid (HVu2.out.alloc HVu2.out.size (.cells (uv (List.replicate 8 0)) 34))
            have HEu3 := Lib.hid (RowAt.new u2 34 (uv (List.replicate 8 0)))
            have hgE : wr.heap.size ≤ u2.heap.size := HVu2.out.size
            have hne : u2.heap.size ≠ gT := by have := HTu2.out.lt; omega
            have HTu3 := Lib.hid (HTu2.out.alloc (.cells (uv (List.replicate 8 0)) 34))
            refine hK.out _ _ HVu3.out ?_
            clear hK K
            (try simp only [Act.put, zA4, zA5, zA6])
            generalize u2.alloc (.cells (uv (List.replicate 8 0)) 34) = u3 at *
            generalize u2.heap.size = gE at *
            (refine wpOU_solo (o := ?_) ?_ ?_; rotate_left 1; (simp only [zA1, zA2, zA3]; with_reducible rfl))
            intro K hK
            rw [if_pos (by rfl)]
            refine wp_store_row 34 _ _ rfl gE (uv l) rfl rfl 34 (uv (List.replicate 8 0)) HEu3.out (einfo HEW.out) (by rw [ev_size HEW.out, ev_size z8]) (uv_one l) ?_
            have hv5 : Below wr.heap.size wr (u3.setRow gE (uv l)) := HVu3.out.trans ((Else.setRow _ _ _).below hgE)
            have he5 := HEu3.out.setRow (uv l)
            have ht5 := HTu3.out.other (Else.setRow u3 gE (uv l)) (by omega)
            refine hK.out _ _ hv5 ?_
            clear hK K
            (try simp only [Act.put, zA4, zA5, zA6])
            obtain ⟨m0, m1, v0, v1⟩ := row2 ht5
            generalize (u3.setRow gE (uv l)) = w5 at *
            (refine wpOU_solo (o := ?_) ?_ ?_; rotate_left 1; (simp only [zA1, zA2, zA3]; with_reducible rfl))
            intro K hK
            go_simp
            have hv6 := (hv5.setCell (p := ⟨gT, 0, none⟩) hgT (.int .i64 0)).setCell (p := ⟨gT, 1, none⟩) hgT (.int .i64 0)
            have he6 := (he5.far (p := ⟨gT, 0, none⟩) (by show gT ≠ gE; omega) (.int .i64 0)).far (p := ⟨gT, 1, none⟩) (by show gT ≠ gE; omega) (.int .i64 0)
            have ht6 := (ht5.put 0 (.int .i64 0)).put 1 (.int .i64 0)
            refine hK.out _ _ hv6 ?_
            clear hK K m0 m1 v0 v1
            (try simp only [Act.put, zA4, zA5, zA6])
            refine wpOU_done ?_
            go_wp2_with fail
            go_meet
            case rel => exact ⟨gE, gT, rfl, rfl, he6, ht6, hv6⟩
           ·(refine wpOU_solo (o := ?_) ?_ ?_; rotate_left 1; (simp only [zA1, zA2, zA3]; with_reducible rfl))
            intro K hK
            go_simp
            rw [zero_elem]
            have HVu2 := Lib.hid (HVu1.out.alloc HVu1.out.size (.cells (uv (List.replicate 8 0)) 34))
            have HEu2 := Lib.hid (RowAt.new u1 34 (uv (List.replicate 8 0)))
            have hgE : wr.heap.size ≤ u1.heap.size := HVu1.out.size
            have hne : u1.heap.size ≠ gT := by have := HTu1.out.lt; omega
            have HTu2 := Lib.hid (HTu1.out.alloc (.cells (uv (List.replicate 8 0)) 34))
            have HDZu2 := Lib.hid ((HDZu1.out.below ((Below.refl _ _).alloc (Nat.le_refl _) (.cells (uv (List.replicate 8 0)) 34))).mono ((Below.refl u1.heap.size u1).alloc (Nat.le_refl _) (.cells (uv (List.replicate 8 0)) 34)).size)
            refine hK.out _ _ HVu2.out ?_
            clear hK K
            (try simp only [Act.put, zA4, zA5, zA6])
            generalize u1.alloc (.cells (uv (List.replicate 8 0)) 34) = u2 at *
            generalize u1.heap.size = gE at *
            (refine wpOU_solo (o := ?_) ?_ ?_; rotate_left 1; (simp only [zA1, zA2, zA3]; with_reducible rfl))
            intro K hK
            go_simp
            refine (HEL.out z9 HEZ.out u2 (HWB.out _ HVu2.out) HDZu2.out).mono ?_
            rintro x u3 ⟨rfl, hb⟩
            have HVu3 := Lib.hid (HVu2.out.trans (hb.mono HVu2.out.size))
            have HEu3 := Lib.hid (HEu2.out.below hb HEu2.out.lt)
            have HTu3 := Lib.hid (HTu2.out.below hb HTu2.out.lt)
            clear hb
            refine hK.out _ _ HVu3.out ?_
            clear hK K
            (try simp only [Act.put, zA4, zA5, zA6])
            iterate 3
                (refine wpOU_step (o := ?_) ?_ ?_; rotate_left 1; (simp only [zA1, zA2, zA3]; with_reducible rfl))
                (first
                   | (refine wpOU_skip (by rfl) ?_)
                   | (refine wpOU_take (v := ?_) (by rfl) ?_ ?_; rotate_left 1; (intro wx hSx; go_simp; try with_reducible rfl)))
                (try simp only [Act.put, zA4, zA5, zA6])
            (refine wpOU_solo (o := ?_) ?_ ?_; rotate_left 1; (simp only [zA1, zA2, zA3]; with_reducible rfl))
            intro K hK
            rw [if_pos (by rfl)]
            refine wp_store_row 34 _ _ rfl gE (uv l) rfl rfl 34 (uv (List.replicate 8 0)) HEu3.out (einfo HEW.out) (by rw [ev_size HEW.out, ev_size z8]) (uv_one l) ?_
            have hv5 : Below wr.heap.size wr (u3.setRow gE (uv l)) := HVu3.out.trans ((Else.setRow _ _ _).below hgE)
            have he5 := HEu3.out.setRow (uv l)
            have ht5 := HTu3.out.other (Else.setRow u3 gE (uv l)) (by omega)
            refine hK.out _ _ hv5 ?_
            clear hK K
            (try simp only [Act.put, zA4, zA5, zA6])
            obtain ⟨m0, m1, v0, v1⟩ := row2 ht5
            generalize (u3.setRow gE (uv l)) = w5 at *
            (refine wpOU_solo (o := ?_) ?_ ?_; rotate_left 1; (simp only [zA1, zA2, zA3]; with_reducible rfl))
            intro K hK
            go_simp
            have hv6 := (hv5.setCell (p := ⟨gT, 0, none⟩) hgT (.int .i64 0)).setCell (p := ⟨gT, 1, none⟩) hgT (.int .i64 0)
            have he6 := (he5.far (p := ⟨gT, 0, none⟩) (by show gT ≠ gE; omega) (.int .i64 0)).far (p := ⟨gT, 1, none⟩) (by show gT ≠ gE; omega) (.int .i64 0)
            have ht6 := (ht5.put 0 (.int .i64 0)).put 1 (.int .i64 0)
            refine hK.out _ _ hv6 ?_
            clear hK K m0 m1 v0 v1
            (try simp only [Act.put, zA4, zA5, zA6])
            refine wpOU_done ?_
            go_wp2_with fail
            go_meet
            case rel => exact ⟨gE, gT, rfl, rfl, he6, ht6, hv6⟩
          ·(refine wpOU_solo (o := ?_) ?_ ?_; rotate_left 1; (simp only [zA1, zA2, zA3]; with_reducible rfl))
           intro K hK
           go_simp
           rw [zero_elem]
           have HVu1 := Lib.hid (HVu0.out.alloc HVu0.out.size (.cells (uv (List.replicate 8 0)) 34))
           have HEu1 := Lib.hid (RowAt.new u0 34 (uv (List.replicate 8 0)))
           have hgE : wr.heap.size ≤ u0.heap.size := HVu0.out.size
           have hne : u0.heap.size ≠ gT := by have := HTu0.out.lt; omega
           have HTu1 := Lib.hid (HTu0.out.alloc (.cells (uv (List.replicate 8 0)) 34))
           refine hK.out _ _ HVu1.out ?_
           clear hK K
           (try simp only [Act.put, zA4, zA5, zA6])
           generalize u0.alloc (.cells (uv (List.replicate 8 0)) 34) = u1 at *
           generalize u0.heap.size = gE at *
           (refine wpOU_solo (o := ?_) ?_ ?_; rotate_left 1; (simp only [zA1, zA2, zA3]; with_reducible rfl))
           intro K hK
           go_simp
           refine (HND.out u1 (HWB.out _ HVu1.out)).mono ?_
           rintro x u2 ⟨y, rfl, ⟨z9, rfl, hez, hdz⟩, hb⟩
           have HEZ := Lib.hid hez
           have HDZu2 := Lib.hid hdz.nods
           clear hez hdz
           have HVu2 := Lib.hid (HVu1.out.trans (hb.mono HVu1.out.size))
           have HEu2 := Lib.hid (HEu1.out.below hb HEu1.out.lt)
           have HTu2 := Lib.hid (HTu1.out.below hb HTu1.out.lt)
           clear hb
           refine hK.out _ _ HVu2.out ?_
           clear hK K
           (try simp only [Act.put, zA4, zA5, zA6])
           (refine wpOU_solo (o := ?_) ?_ ?_; rotate_left 1; (simp only [zA1, zA2, zA3]; with_reducible rfl))
           intro K hK
           go_simp
           refine (HEL.out z9 HEZ.out u2 (HWB.out _ HVu2.out) HDZu2.out).mono ?_
           rintro x u3 ⟨rfl, hb⟩
           have HVu3 := Lib.hid (HVu2.out.trans (hb.mono HVu2.out.size))
           have HEu3 := Lib.hid (HEu2.out.below hb HEu2.out.lt)
           have HTu3 := Lib.hid (HTu2.out.below hb HTu2.out.lt)
           clear hb
           refine hK.out _ _ HVu3.out ?_
           clear hK K
           (try simp only [Act.put, zA4, zA5, zA6])
           iterate 3
               (refine wpOU_step (o := ?_) ?_ ?_; rotate_left 1; (simp only [zA1, zA2, zA3]; with_reducible rfl))
               (first
                  | (refine wpOU_skip (by rfl) ?_)
                  | (refine wpOU_take (v := ?_) (by rfl) ?_ ?_; rotate_left 1; (intro wx hSx; go_simp; try with_reducible rfl)))
               (try simp only [Act.put, zA4, zA5, zA6])
           (refine wpOU_solo (o := ?_) ?_ ?_; rotate_left 1; (simp only [zA1, zA2, zA3]; with_reducible rfl))
           intro K hK
           rw [if_pos (by rfl)]
           refine wp_store_row 34 _ _ rfl gE (uv l) rfl rfl 34 (uv (List.replicate 8 0)) HEu3.out (einfo HEW.out) (by rw [ev_size HEW.out, ev_size z8]) (uv_one l) ?_
           have hv5 : Below wr.heap.size wr (u3.setRow gE (uv l)) := HVu3.out.trans ((Else.setRow _ _ _).below hgE)
           have he5 := HEu3.out.setRow (uv l)
           have ht5 := HTu3.out.other (Else.setRow u3 gE (uv l)) (by omega)
           refine hK.out _ _ hv5 ?_
           clear hK K
           (try simp only [Act.put, zA4, zA5, zA6])
           obtain ⟨m0, m1, v0, v1⟩ := row2 ht5
           generalize (u3.setRow gE (uv l)) = w5 at *
           (refine wpOU_solo (o := ?_) ?_ ?_; rotate_left 1; (simp only [zA1, zA2, zA3]; with_reducible rfl))
           intro K hK
           go_simp
           have hv6 := (hv5.setCell (p := ⟨gT, 0, none⟩) hgT (.int .i64 0)).setCell (p := ⟨gT, 1, none⟩) hgT (.int .i64 0)
           have he6 := (he5.far (p := ⟨gT, 0, none⟩) (by show gT ≠ gE; omega) (.int .i64 0)).far (p := ⟨gT, 1, none⟩) (by show gT ≠ gE; omega) (.int .i64 0)
           have ht6 := (ht5.put 0 (.int .i64 0)).put 1 (.int .i64 0)
           refine hK.out _ _ hv6 ?_
           clear hK K m0 m1 v0 v1
           (try simp only [Act.put, zA4, zA5, zA6])
           refine wpOU_done ?_
           go_wp2_with fail
           go_meet
           case rel => exact ⟨gE, gT, rfl, rfl, he6, ht6, hv6⟩
        case rest =>
         obtain ⟨gE, gT, rfl, rfl, he0, ht0, hb⟩ := hcut
         have HDwc := Lib.hid he0
         have HUwc := Lib.hid ht0
         clear he0 ht0 HND HEL HP HTwr
         have HBwc := Lib.hid (HBwr.out.trans (hb.mono HBwr.out.size))
         have HSwc := Lib.hid (HSwr.out.below hb HSwr.out.lt)
         have HXwc := Lib.hid (HXwr.out.below hb HXwr.out.lt)
         have HEwc := Lib.hid (HEwr.out.below hb HEwr.out.lt)
         clear hb
         obtain ⟨x0, x1, x2, x3, x4, _, _, _, _, _⟩ := row5 HXwc.out
         go_wp2_with (refine wpList_loadShape (by rfl) _ rfl w.heap.size rfl t A nf c HSwc.out ?_)
         refine (HRI0.out wc HBwc.out).mono ?_
         rintro x w7 ⟨rfl, hb⟩
         clear x0 x1 x2 x3 x4
         have HBw7 := Lib.hid (HBwc.out.trans (hb.mono HBwc.out.size))
         have HSw7 := Lib.hid (HSwc.out.below hb HSwc.out.lt)
         have HXw7 := Lib.hid (HXwc.out.below hb HXwc.out.lt)
         have HEw7 := Lib.hid (HEwc.out.below hb HEwc.out.lt)
         have HDw7 := Lib.hid (HDwc.out.below hb HDwc.out.lt)
         have HUw7 := Lib.hid (HUwc.out.below hb HUwc.out.lt)
         clear hb
         obtain ⟨x0, x1, x2, x3, x4, _, _, _, _, _⟩ := row5 HXw7.out
         go_wp2_with fail
         refine (HIC0.out w7 HBw7.out).mono ?_
         rintro x w8 ⟨rfl, hb⟩
         clear x0 x1 x2 x3 x4
         have HBw8 := Lib.hid (HBw7.out.trans (hb.mono HBw7.out.size))
         have HSw8 := Lib.hid (HSw7.out.below hb HSw7.out.lt)
         have HXw8 := Lib.hid (HXw7.out.below hb HXw7.out.lt)
         have HEw8 := Lib.hid (HEw7.out.below hb HEw7.out.lt)
         have HDw8 := Lib.hid (HDw7.out.below hb HDw7.out.lt)
         have HUw8 := Lib.hid (HUw7.out.below hb HUw7.out.lt)
         clear hb
         go_wp2_with (first | (refine wpList_loadShape (by rfl) _ rfl w.heap.size rfl t A nf c HSw8.out ?_) | (refine wpList_loadElem (by rfl) _ rfl g5 rfl _ hew HEw8.out ?_))
         refine (HFI.out w8 HBw8.out).mono ?_
         rintro x w9 ⟨rfl, hb⟩
         have HBw9 := Lib.hid (HBw8.out.trans (hb.mono HBw8.out.size))
         have HSw9 := Lib.hid (HSw8.out.below hb HSw8.out.lt)
         have HXw9 := Lib.hid (HXw8.out.below hb HXw8.out.lt)
         have HEw9 := Lib.hid (HEw8.out.below hb HEw8.out.lt)
         have HDw9 := Lib.hid (HDw8.out.below hb HDw8.out.lt)
         have HUw9 := Lib.hid (HUw8.out.below hb HUw8.out.lt)
         clear hb
         obtain ⟨n0, n1, _, _⟩ := row2 HUw9.out
         go_wp2_with (first | (refine wpList_loadElem (by rfl) _ rfl gE rfl _ hew HDw9.out ?_) | (refine wpList_loadElem (by rfl) _ rfl g5 rfl _ hew HEw9.out ?_))
         refine (HAL.out _ HBw9.out).mono ?_
         rintro x wz ⟨rfl, hb⟩
         have HBZ := Lib.hid (HBw9.out.trans (hb.mono HBw9.out.size))
         clear hb
         go_wp2_with fail
         go_ret
         exact ⟨rfl, HBZ.out⟩
end Go.Proofs.YtkgonoejnochjaaGreatDoor

