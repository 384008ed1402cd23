/- Texts that all the claims need. Conditions: those that each states. -/

import Derived.Test.YtkgonoejnochjaaGreatDoorY27
import Derived.Test.YtkgonoejnochjaaGreatDoorY30
import Derived.Test.YtkgonoejnochjaaGreatDoorY31
set_option linter.unusedSimpArgs false
set_option linter.unusedVariables false
set_option maxRecDepth 8000
namespace Go.Proofs.YtkgonoejnochjaaGreatDoor
open Go.RowKit LX TR TM SP RM
set_option maxRecDepth 100000 in
set_option maxHeartbeats 6400000 in
theorem alive11_any (w : World) (hT : Tab w) : Calls Tryz.prog 9 #[] w fun e w' => e = .returned (.bool true) ∧ Below w.heap.size w w' := by
 have HT := Lib.hid hT; clear hT
 have z8 := EW.zeros
 have e8 := ew1
 have HB0 : Hid (Below w.heap.size w (w.alloc (.cells (scells pq).toArray 9))) := (Below.refl _ _).alloc (Nat.le_refl _) _
 have hpq : (#[.string ⟨#[112]⟩, .string ⟨#[113]⟩] : Array Value) = (scells pq).toArray := rfl
 have HPQ := Lib.hid hpq; clear hpq
 have HOK := Lib.hid (fG_ok w)
 have heq : ∀ W, (binOp .eql 34 (.agg (uv e1)) (.agg #[.int .u64 1, .int .u64 0, .int .u64 0, .int .u64 0, .int .u64 0, .int .u64 0, .int .u64 0, .int .u64 0])).run Tryz.prog W = .ok (.bool true) W := fun W => run_eql_elem ew1 ew1 W
 go_enter Tryz.func9, Tryz.ntmps9
 go_upto_region 2 with (refine wpList_oneF (by rfl) _ rfl (fG w.heap.size) rwG (by kernel_rfl) ?_; intro w2 r2 hb2)
 rw [HPQ.out] at r2 hb2
 have hf2 := fac_of_row r2 (HOK.out.below hb2)
 rw [show (w.alloc (.cells (scells pq).toArray 9)).heap.size = w.heap.size + 1 by simp] at hf2
 have HB2 := Lib.hid (HB0.out.trans (hb2.mono HB0.out.size))
 have HS3 : Hid (RowAt (w2.alloc (.cells #[.bool false, .slice (some ⟨w.heap.size + 1, 0, none⟩) 1 1] 24)) w2.heap.size 24 (sv false (some ⟨w.heap.size + 1, 0, none⟩) 1 1)) := RowAt.new _ _ _
 have HB3 := Lib.hid (HB2.out.alloc HB2.out.size (.cells #[.bool false, .slice (some ⟨w.heap.size + 1, 0, none⟩) 1 1] 24))
 have HF3 := Lib.hid (hf2.below ((Below.refl _ _).alloc (Nat.le_refl _) (.cells #[.bool false, .slice (some ⟨w.heap.size + 1, 0, none⟩) 1 1] 24)))
 clear r2 hb2 hf2 HB2 HB0 HPQ HOK
 generalize w2.alloc (.cells #[.bool false, .slice (some ⟨w.heap.size + 1, 0, none⟩) 1 1] 24) = w3 at *
 generalize hgs : w2.heap.size = gS at *
 have hgS : gS < w3.heap.size := HS3.out.lt
 clear hgs
 have HW4 := Lib.hid (sl_new w3 54 #[.string ⟨#[113]⟩, .int .i64 0])
 have hb34 : Below w3.heap.size w3 (w3.alloc (.cells #[.string ⟨#[113]⟩, .int .i64 0] 54)) := (Below.refl _ _).alloc (Nat.le_refl _) _
 have HB34 := Lib.hid hb34; clear hb34
 have hsz4 : (w3.alloc (.cells #[.string ⟨#[113]⟩, .int .i64 0] 54)).heap.size = w3.heap.size + 1 := by simp
 have HSZ4 := Lib.hid hsz4; clear hsz4
 go_upto_region 3 with (refine wpList_nodes1 (by rfl) _ rfl (kG (some ⟨w3.heap.size, 0, none⟩)) rfl ?_; intro w5 hsl hb5)
 rw [HSZ4.out] at hsl
 have hw5 : Below w3.heap.size w3 w5 := HB34.out.trans (hb5.mono (by rw [HSZ4.out]; omega))
 have hsw : Sl w5 w5.heap.size (some ⟨w3.heap.size, 0, none⟩) (wcs [⟨⟨#[113]⟩, 0⟩]) := (Sl.below HW4.out (hb5.mono (by rw [HSZ4.out]; exact Nat.le_refl _))).mono (Nat.le_trans (by rw [HSZ4.out]; exact Nat.le_refl _) hb5.size)
 have hal : Below w5.heap.size w5 (w5.alloc (.cells #[.int .i64 5, .int .i64 0, .string ⟨#[]⟩, .slice none 0 0, .slice (some ⟨w3.heap.size + 1, 0, none⟩) 1 1] 28)) := (Below.refl _ _).alloc (Nat.le_refl _) _
 have HX6 : Hid (RowAt (w5.alloc (.cells #[.int .i64 5, .int .i64 0, .string ⟨#[]⟩, .slice none 0 0, .slice (some ⟨w3.heap.size + 1, 0, none⟩) 1 1] 28)) w5.heap.size 28 #[.int .i64 5, .int .i64 0, .string ⟨#[]⟩, .slice none 0 0, .slice (some ⟨w3.heap.size + 1, 0, none⟩) 1 1]) := RowAt.new _ _ _
 have HND := Lib.hid (xG_nods ((Sl.below hsw hal).mono hal.size) ((Sl.below hsl hal).mono hal.size))
 have HS6 := Lib.hid ((HS3.out.below hw5 hgS).alloc (.cells #[.int .i64 5, .int .i64 0, .string ⟨#[]⟩, .slice none 0 0, .slice (some ⟨w3.heap.size + 1, 0, none⟩) 1 1] 28))
 have HF6 := Lib.hid ((HF3.out.below hw5).below hal)
 have HB6 := Lib.hid ((HB3.out.trans (hw5.mono HB3.out.size)).trans (hal.mono (Nat.le_trans HB3.out.size hw5.size)))
 have hlt6 : gS < w5.heap.size := Nat.lt_of_lt_of_le hgS hw5.size
 clear hsl hb5 hw5 hsw hal HS3 HF3 HB3 HW4 HB34 HSZ4
 generalize w5.alloc (.cells #[.int .i64 5, .int .i64 0, .string ⟨#[]⟩, .slice none 0 0, .slice (some ⟨w3.heap.size + 1, 0, none⟩) 1 1] 28) = w6 at *
 generalize w5.heap.size = gX at *
 generalize w3.heap.size + 1 = gK at *
 have HEL := selem_any false (some ⟨w.heap.size + 1, 0, none⟩) 1 [fG w.heap.size] _ w6 (HT.out.below HB6.out) HF6.out HND.out (by
  unfold xG kG
  simp only [TM.cnt]
  decide)
 rw [g_elem] at HEL
 have HELh : Hid (Calls Tryz.prog 10 #[.agg (sv false (some ⟨w.heap.size + 1, 0, none⟩) 1 1), .agg #[.int .i64 5, .int .i64 0, .string ⟨#[]⟩, .slice none 0 0, .slice (some ⟨gK, 0, none⟩) 1 1]] w6 fun e w' => e = .returned (.tuple #[.agg (uv e1), .agg #[.int .i64 0, .int .i64 0]]) ∧ Below w6.heap.size w6 w') := HEL
 have HTX : Hid (∀ W, Below w6.heap.size w6 W → Calls Tryz.prog 15 #[.agg (sv false (some ⟨w.heap.size + 1, 0, none⟩) 1 1), .agg (uv e1)] W fun x w' => x = .returned (.string ⟨#[35, 91, 112, 58, 123, 113, 125, 93]⟩) ∧ Below W.heap.size W w') := fun W h =>
  (stext_any false (some ⟨w.heap.size + 1, 0, none⟩) 1 [fG w.heap.size] e1 ew1 W (HT.out.below (HB6.out.trans (h.mono HB6.out.size))) (HF6.out.below h)).mono fun x w' ⟨⟨s, h1, h2⟩, h3⟩ => ⟨by
   rw [h1]
   congr 2
   refine LX.lst_inj (h2.trans ?_)
   rw [g_text]
   kernel_rfl, h3⟩
 clear HEL HND HF6
 obtain ⟨x0, x1, x2, x3, x4, _, _, _, _, _⟩ := row5 HX6.out
 go_wp2_with (refine wpList_loadShape (by rfl) _ rfl gS rfl false (some ⟨w.heap.size + 1, 0, none⟩) 1 1 HS6.out ?_)
 refine HELh.out.mono ?_
 rintro e w7 ⟨rfl, hb⟩
 have HS7 := Lib.hid (HS6.out.below hb HS6.out.lt)
 have HB67 := Lib.hid hb
 have hlt7 : gS < w7.heap.size := Nat.lt_of_lt_of_le HS6.out.lt hb.size
 clear hb x0 x1 x2 x3 x4 HX6 HS6 HELh
 go_upto_region 4 with (refine wpList_storeElem (by rfl) _ _ rfl w7.heap.size rfl _ e8 rfl _ z8 (two_zero w7) ?_; intro w8 q8 he8; have hm8 := two_mid he8; obtain ⟨m0, m1, v0, v1⟩ := row2 hm8)
 obtain ⟨hE9, hF9, hB9⟩ := two_end he8 q8 (.int .i64 0) (.int .i64 0)
 have HE9 := Lib.hid hE9
 have HF9 := Lib.hid hF9
 have HB9 := Lib.hid (HB67.out.trans (hB9.mono HB67.out.size))
 have HS9 := Lib.hid (HS7.out.below hB9 hlt7)
 clear he8 q8 hm8 m0 m1 v0 v1 hE9 hF9 hB9 HS7
 generalize (w8.setCell ⟨w7.heap.size + 1, 0, none⟩ (.int .i64 0)).setCell ⟨w7.heap.size + 1, 1, none⟩ (.int .i64 0) = w9 at *
 generalize w7.heap.size = gE at *
 obtain ⟨m0, m1, _, _⟩ := row2 HF9.out
 go_wp2_with (first | (refine wpList_loadElem (by rfl) _ rfl gE rfl _ e8 HE9.out ?_) | (refine wpList_loadShape (by rfl) _ rfl gS rfl false (some ⟨w.heap.size + 1, 0, none⟩) 1 1 HS9.out ?_))
 refine (HTX.out w9 HB9.out).mono ?_
 rintro e w10 ⟨rfl, hb⟩
 have HB10 := Lib.hid ((HB6.out.trans (HB9.out.mono HB6.out.size)).trans (hb.mono (Nat.le_trans HB6.out.size HB9.out.size)))
 clear hb m0 m1
 go_wp2_with fail
 go_ret
 exact ⟨rfl, HB10.out⟩
end Go.Proofs.YtkgonoejnochjaaGreatDoor

