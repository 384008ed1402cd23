/- Texts that SpellElemCard need. Conditions: those that each states. -/

import Derived.Test.YtkgonoejnochjaaGreatDoorY32
import Derived.Test.YtkgonoejnochjaaGreatDoorY41
import Derived.Test.YtkgonoejnochjaaGreatDoorY47
set_option linter.unusedSimpArgs false
set_option linter.unusedVariables false
set_option maxRecDepth 8000
namespace Go.Proofs.YtkgonoejnochjaaGreatDoor
open Go.RowKit LX TR TM SP RM
theorem SP.ev_form {t : Bool} {fs : List Fac} {x : Nd} : ∃ (l : List Nat) (a b : Int), EW l ∧ evV (elemR t fs x) = .tuple #[.agg (uv l), .agg #[.int .i64 a, .int .i64 b]] := by
 cases h : elemR t fs x with
 | ok l => exact ⟨l, 0, 0, (elem_fits h).2.2.1, rfl⟩
 | error p => exact ⟨List.replicate 8 0, 4, p, EW.zeros, rfl⟩
set_option maxRecDepth 100000 in
set_option maxHeartbeats 6400000 in
theorem spellElem_any (t : Bool) (A : Option Addr) (c : Nat) (fs : List Fac) (x : Nd) (w : World) (hT : Tab w) (hF : Facs w A fs) (hx : Nods w w.heap.size [x]) (hc : TM.cnt [x] ≤ 2147483648) :
 Calls Tryz.prog 3 #[.agg (sv t A fs.length c), .agg (nv x)] w fun e w' => e = .returned (.bool true) ∧ Below w.heap.size w w' := by
 have z8 := EW.zeros
 have HB7 : Hid (∀ W, Below w.heap.size w W → Calls Tryz.prog 7 #[.agg (sv t A fs.length c)] W fun e w' => e = .returned (.bool (bigShB fs)) ∧ Below W.heap.size W w') := fun W h => bigS_any t A c fs W (hF.below h)
 have HBX : Hid (∀ B d W, Below w.heap.size w W → Sl W W.heap.size B (ncs [x]) → Calls Tryz.prog 8 #[.slice B 1 d] W fun e w' => e = .returned (.bool (decide (300 < TM.cnt [x]))) ∧ Below W.heap.size W w') := fun B d W h hs => by
  have h1 := big10_any B d [x] (by simp) (fun z hz => by
   obtain rfl := List.mem_singleton.1 hz
   omega) W hs (fun z hz => by
   obtain rfl := List.mem_singleton.1 hz
   exact (hx.below h).mono h.size)
  simpa using h1
 obtain ⟨l, a, b, hew, hev⟩ := SP.ev_form (t := t) (fs := fs) (x := x)
 have HEW := Lib.hid hew
 have HP : Hid (∀ W, Below w.heap.size w W → Calls Tryz.prog 10 #[.agg (sv t A fs.length c), .agg (nv x)] W fun e w' => e = .returned (.tuple #[.agg (uv l), .agg #[.int .i64 a, .int .i64 b]]) ∧ Below W.heap.size W w') := fun W h => by
  rw [← hev]
  exact selem_any t A c fs x W (hT.below h) (hF.below h) ((hx.below h).mono h.size) (by omega)
 have HQ : Hid (∀ W, Below w.heap.size w W → Calls Tryz.prog 11 #[.agg (sv t A fs.length c), .agg (nv x)] W fun e w' => e = .returned (.tuple #[.agg (uv l), .agg #[.int .i64 a, .int .i64 b]]) ∧ Below W.heap.size W w') := fun W h => by
  rw [← hev]
  exact qelem_any t A c fs x W (hF.below h) ((hx.below h).mono h.size) hc
 have HAL : Hid (∀ W, Below w.heap.size w W → Calls Tryz.prog 9 #[] W fun e w' => e = .returned (.bool true) ∧ Below W.heap.size W w') := fun W h => alive11_any W (hT.below h)
 have heq : ∀ W, (binOp .eql 34 (.agg (uv l)) (.agg (uv l))).run Tryz.prog W = .ok (.bool true) W := fun W => by
  rw [run_eql_elem hew hew]
  simp
 clear hT hF hx hc hew hev
 generalize bigShB fs = b7 at *
 generalize decide (300 < TM.cnt [x]) = b10 at *
 obtain ⟨xk, xp, xs, xA, xc, xw, xB, xd, xz⟩ := x
 unfold nv at HP HQ ⊢
 simp only [Nd.k, Nd.p, Nd.s, Nd.A, Nd.c, Nd.ws, Nd.B, Nd.d, Nd.ks] at HP HQ ⊢
 generalize fs.length = nf at *
 have hs0 := (RowAt.new w 24 (sv t A nf c)).alloc (.cells #[.int .i64 xk, .int .i64 xp, .string xs, .slice xA xw.length xc, .slice xB xz.length xd] 28)
 have hx0 := RowAt.new (w.alloc (.cells (sv t A nf c) 24)) 28 #[.int .i64 xk, .int .i64 xp, .string xs, .slice xA xw.length xc, .slice xB xz.length xd]
 rw [show (w.alloc (.cells (sv t A nf c) 24)).heap.size = w.heap.size + 1 by simp] at hx0
 have HBw1 : Hid (Below w.heap.size w ((w.alloc (.cells (sv t A nf c) 24)).alloc (.cells #[.int .i64 xk, .int .i64 xp, .string xs, .slice xA xw.length xc, .slice xB xz.length xd] 28))) := ((Below.refl _ _).alloc (Nat.le_refl _) _).alloc (by simp) _
 have HSw1 := Lib.hid hs0
 have HXw1 := Lib.hid hx0
 clear hs0 hx0
 go_enter Tryz.func3, Tryz.ntmps3
 go_upto_region 1 with fail
 generalize ((w.alloc (.cells (sv t A nf c) 24)).alloc (.cells #[.int .i64 xk, .int .i64 xp, .string xs, .slice xA xw.length xc, .slice xB xz.length xd] 28)) = w1 at *
 go_wp2_with (refine wpList_loadShape (by rfl) _ rfl w.heap.size rfl t A nf c HSw1.out ?_)
 refine (HB7.out w1 HBw1.out).mono ?_
 rintro e w2 ⟨rfl, hb⟩
 have HBw2 := Lib.hid (HBw1.out.trans (hb.mono HBw1.out.size))
 have HSw2 := Lib.hid (HSw1.out.below hb HSw1.out.lt)
 have HXw2 := Lib.hid (HXw1.out.below hb HXw1.out.lt)
 clear hb
 obtain ⟨x0, x1, x2, x3, x4, _, _, _, _, _⟩ := row5 HXw2.out
 cases b7
 case' true =>
  go_wp2_with fail
  refine (HAL.out _ HBw2.out).mono ?_
  rintro e wz ⟨rfl, hb⟩
  have HBZ := Lib.hid (HBw2.out.trans (hb.mono HBw2.out.size))
  clear hb
  go_wp2_with fail
  go_ret
  exact ⟨rfl, HBZ.out⟩
 case' false =>
  go_wp2_with (refine wpList_nodes1 (by rfl) _ rfl (.mk xk xp xs xA xc xw xB xd xz) rfl ?_; intro w3 hsl hb)
  have HBG := Lib.hid (HBX.out _ 1 w3 (HBw2.out.trans (hb.mono HBw2.out.size)) hsl)
  clear x0 x1 x2 x3 x4 hsl
  have HBw3 := Lib.hid (HBw2.out.trans (hb.mono HBw2.out.size))
  have HSw3 := Lib.hid (HSw2.out.below hb HSw2.out.lt)
  have HXw3 := Lib.hid (HXw2.out.below hb HXw2.out.lt)
  clear hb
  refine HBG.out.mono ?_
  rintro e w4 ⟨rfl, hb⟩
  have HBw4 := Lib.hid (HBw3.out.trans (hb.mono HBw3.out.size))
  have HSw4 := Lib.hid (HSw3.out.below hb HSw3.out.lt)
  have HXw4 := Lib.hid (HXw3.out.below hb HXw3.out.lt)
  clear hb
  clear HBG
  cases b10
  case' true =>
   go_wp2_with fail
   refine (HAL.out _ HBw4.out).mono ?_
   rintro e wz ⟨rfl, hb⟩
   have HBZ := Lib.hid (HBw4.out.trans (hb.mono HBw4.out.size))
   clear hb
   go_wp2_with fail
   go_ret
   exact ⟨rfl, HBZ.out⟩
  case' false =>
   obtain ⟨x0, x1, x2, x3, x4, _, _, _, _, _⟩ := row5 HXw4.out
   go_wp2_with (refine wpList_loadShape (by rfl) _ rfl w.heap.size rfl t A nf c HSw4.out ?_)
   refine (HP.out w4 HBw4.out).mono ?_
   rintro e w5 ⟨rfl, hb⟩
   clear x0 x1 x2 x3 x4
   have HBw5 := Lib.hid (HBw4.out.trans (hb.mono HBw4.out.size))
   have HSw5 := Lib.hid (HSw4.out.below hb HSw4.out.lt)
   have HXw5 := Lib.hid (HXw4.out.below hb HXw4.out.lt)
   clear hb
   go_upto_region 4 with (refine wpList_storeElem (by rfl) _ _ rfl w5.heap.size rfl _ HEW.out rfl _ z8 (two_zero w5) ?_; intro w8 q8 he8; have hm8 := two_mid he8; obtain ⟨m0, m1, v0, v1⟩ := row2 hm8)
   obtain ⟨hE9, hF9, hB9⟩ := two_end he8 q8 (.int .i64 a) (.int .i64 b)
   have HEw6 := Lib.hid hE9
   have HTw6 := Lib.hid hF9
   have HBw6 := Lib.hid (HBw5.out.trans (hB9.mono HBw5.out.size))
   have HBBw6 := Lib.hid hB9
   have HSw6 := Lib.hid (HSw5.out.below hB9 HSw5.out.lt)
   have HXw6 := Lib.hid (HXw5.out.below hB9 HXw5.out.lt)
   clear he8 q8 hm8 m0 m1 v0 v1 hE9 hF9 hB9
   have hsw6 : w5.heap.size + 1 < ((w8.setCell ⟨w5.heap.size + 1, 0, none⟩ (.int .i64 a)).setCell ⟨w5.heap.size + 1, 1, none⟩ (.int .i64 b)).heap.size := HTw6.out.lt
   generalize (w8.setCell ⟨w5.heap.size + 1, 0, none⟩ (.int .i64 a)).setCell ⟨w5.heap.size + 1, 1, none⟩ (.int .i64 b) = w6 at *
   have hg5 : w5.heap.size + 1 < w6.heap.size := hsw6
   generalize w5.heap.size = g5 at *
   obtain ⟨x0, x1, x2, x3, x4, _, _, _, _, _⟩ := row5 HXw6.out
   go_wp2_with (refine wpList_loadShape (by rfl) _ rfl w.heap.size rfl t A nf c HSw6.out ?_)
   refine (HQ.out w6 HBw6.out).mono ?_
   rintro e w7 ⟨rfl, hb⟩
   clear x0 x1 x2 x3 x4
   have HBw7 := Lib.hid (HBw6.out.trans (hb.mono HBw6.out.size))
   have HSw7 := Lib.hid (HSw6.out.below hb HSw6.out.lt)
   have HXw7 := Lib.hid (HXw6.out.below hb HXw6.out.lt)
   have HEw7 := Lib.hid (HEw6.out.below hb HEw6.out.lt)
   have HTw7 := Lib.hid (HTw6.out.below hb HTw6.out.lt)
   clear hb
   go_upto_region 5 with (refine wpList_storeElem (by rfl) _ _ rfl w7.heap.size rfl _ HEW.out rfl _ z8 (two_zero w7) ?_; intro w8 q8 he8; have hm8 := two_mid he8; obtain ⟨m0, m1, v0, v1⟩ := row2 hm8)
   obtain ⟨hE9, hF9, hB9⟩ := two_end he8 q8 (.int .i64 a) (.int .i64 b)
   have HDw9 := Lib.hid hE9
   have HUw9 := Lib.hid hF9
   have HBw9 := Lib.hid (HBw7.out.trans (hB9.mono HBw7.out.size))
   have HBBw9 := Lib.hid hB9
   have HSw9 := Lib.hid (HSw7.out.below hB9 HSw7.out.lt)
   have HXw9 := Lib.hid (HXw7.out.below hB9 HXw7.out.lt)
   have HEw9 := Lib.hid (HEw7.out.below hB9 HEw7.out.lt)
   have HTw9 := Lib.hid (HTw7.out.below hB9 HTw7.out.lt)
   clear he8 q8 hm8 m0 m1 v0 v1 hE9 hF9 hB9
   have hsw9 : w7.heap.size + 1 < ((w8.setCell ⟨w7.heap.size + 1, 0, none⟩ (.int .i64 a)).setCell ⟨w7.heap.size + 1, 1, none⟩ (.int .i64 b)).heap.size := HUw9.out.lt
   generalize (w8.setCell ⟨w7.heap.size + 1, 0, none⟩ (.int .i64 a)).setCell ⟨w7.heap.size + 1, 1, none⟩ (.int .i64 b) = w9 at *
   generalize w7.heap.size = g7 at *
   obtain ⟨m0, m1, _, _⟩ := row2 HTw9.out
   obtain ⟨n0, n1, _, _⟩ := row2 HUw9.out
   go_wp2_with (first | (refine wpList_loadElem (by rfl) _ rfl g5 rfl _ HEW.out HEw9.out ?_) | (refine wpList_loadElem (by rfl) _ rfl g7 rfl _ HEW.out HDw9.out ?_))
   refine (HAL.out _ HBw9.out).mono ?_
   rintro e wz ⟨rfl, hb⟩
   have HBZ := Lib.hid (HBw9.out.trans (hb.mono HBw9.out.size))
   clear hb
   go_wp2_with fail
   go_ret
   exact ⟨rfl, HBZ.out⟩
end Go.Proofs.YtkgonoejnochjaaGreatDoor

