/- Texts that SpellNodeCard need. Conditions: those that each states. -/

import Derived.Test.YtkgonoejnochjaaGreatDoorY20
import Derived.Test.YtkgonoejnochjaaGreatDoorY50
set_option linter.unusedSimpArgs false
set_option linter.unusedVariables false
set_option maxRecDepth 8000
namespace Go.Proofs.YtkgonoejnochjaaGreatDoor
namespace SP
open TM
end SP
open Go.RowKit LX TR TM SP RM
set_option maxRecDepth 100000 in
set_option maxHeartbeats 1600000 in
theorem qcon_set (f : Fac) (v : Nat) (hv : v < 18446744073709551616) (w : World) (hf : FacOk w f) (hn : f.names.length ≤ 2147483648) (hk : f.kind = 2) :
 Calls Tryz.prog 29 #[.agg (fv f), .int .u64 (v : Int)] w fun e w' => ∃ x, e = .returned x ∧ NodeV w' w.heap.size (nd 3 0 ⟨#[]⟩ (nmd f.names v) []) x ∧ Below w.heap.size w w' := by
 have HND := Lib.hid (fun W (h : Below w.heap.size w W) => qnamed_any f.A f.c f.names v hv W hn (hf.below h).strs)
 have hl := hf.rows
 have hl0 := hf.strs
 have HST : Hid (∀ W, Below w.heap.size w W → Strs W f.A f.names) := fun W h => (hf.below h).strs
 have HF1 := Lib.hid ((RowAt.new w 51 (fv f)).alloc (.cells #[.int .i64 0, .int .i64 0, .string ⟨#[]⟩, .slice none 0 0, .slice none 0 0] 28))
 have hg0 := RowAt.new (w.alloc (.cells (fv f) 51)) 28 #[.int .i64 0, .int .i64 0, .string ⟨#[]⟩, .slice none 0 0, .slice none 0 0]
 rw [show (w.alloc (.cells (fv f) 51)).heap.size = w.heap.size + 1 by simp] at hg0
 have HG1 := Lib.hid hg0
 have HB1 : Hid (Below w.heap.size w ((w.alloc (.cells (fv f) 51)).alloc (.cells #[.int .i64 0, .int .i64 0, .string ⟨#[]⟩, .slice none 0 0, .slice none 0 0] 28))) := ((Below.refl _ _).alloc (Nat.le_refl _) _).alloc (by simp) _
 have HC : Hid (∀ W, RowAt W w.heap.size 51 (fv f) → W.cell? ⟨w.heap.size, 0, none⟩ = some (.int .i64 f.kind) ∧ W.cell? ⟨w.heap.size, 1, none⟩ = some (.slice f.A f.names.length f.c) ∧ W.cell? ⟨w.heap.size, 2, none⟩ = some (.int .i64 f.n) ∧ W.rangeAt w.heap.size 2 (rvl f.n f.l)) := fun W h => fac_cells h
 clear hg0 hf hl0
 refine calls_hid fun Q' hQ => ?_
 have HQ := Lib.hid hQ; clear hQ
 generalize f.kind = kd at *
 have ta : (kd == 2) = true := by simp [hk]
 clear hk
 go_enter Tryz.func29, Tryz.ntmps29
 go_upto_region 1 with fail
 generalize ((w.alloc (.cells (fv f) 51)).alloc (.cells #[.int .i64 0, .int .i64 0, .string ⟨#[]⟩, .slice none 0 0, .slice none 0 0] 28)) = w1 at *
 obtain ⟨c0, c1, c2, c3⟩ := HC.out _ HF1.out
 go_wp2_with fail
 refine (HND.out w1 HB1.out).mono ?_
 rintro e w2 ⟨Y, dd, rfl, hd, hsl, hb⟩
 have HF2 := Lib.hid (HF1.out.below hb HF1.out.lt)
 have HG2 := Lib.hid (HG1.out.below hb HG1.out.lt)
 have HB2 := Lib.hid (HB1.out.trans (hb.mono HB1.out.size))
 have HLT : Hid (w.heap.size + 1 < w1.heap.size) := HG1.out.lt
 have HSL := Lib.hid hsl
 clear hb hsl c0 c1 c2 c3
 obtain ⟨g0, g1, g2, g3, g4, u0, u1, u2, u3, u4⟩ := row5 HG2.out
 go_wp2_with fail
 change bodyPost _ _ _ _ _ (set5 w2 (w.heap.size + 1) (.int .i64 3) (.int .i64 0) (.string ⟨#[]⟩) (.slice Y (nmd f.names v).length dd) (.slice none 0 0))
 have hrow := set5_row (a0 := .int .i64 3) (b0 := .int .i64 0) (c0 := .string ⟨#[]⟩) (d0 := .slice Y (nmd f.names v).length dd) (e0 := .slice none 0 0) HG2.out
 have hbf := HB2.out.trans (set5_below (a0 := .int .i64 3) (b0 := .int .i64 0) (c0 := .string ⟨#[]⟩) (d0 := .slice Y (nmd f.names v).length dd) (e0 := .slice none 0 0) (w := w2) (b := w.heap.size) (g := w.heap.size + 1) (Nat.le_add_right _ _))
 exact bodyPost_ret (ret_cell rfl _ _ (w.heap.size + 1) _ _ (0, 0) _ rfl hrow Tryz.underlying28 rfl (node_info _ _ _ _ _)) rfl (HQ.out _ _ ⟨_, rfl, nodeV_names trivial hd (set5_slc HSL.out fun k _ h8 => ⟨by have := HLT.out; omega, by have := HLT.out; omega⟩), hbf⟩)
set_option maxRecDepth 100000 in
set_option maxHeartbeats 1600000 in
theorem qcon_point (f : Fac) (v : Nat) (hv : v < 18446744073709551616) (w : World) (hf : FacOk w f) (hn : f.names.length ≤ 2147483648) (h2 : f.kind ≠ 2) (h3 : f.kind ≠ 3) (k : Nat) (hp : ptK f v = (k : Int)) (hkn : k < f.names.length) :
 Calls Tryz.prog 29 #[.agg (fv f), .int .u64 (v : Int)] w fun e w' => ∃ x, e = .returned x ∧ NodeV w' w.heap.size (nd 2 0 (f.names.getD k ⟨#[]⟩) [] []) x ∧ Below w.heap.size w w' := by
 have HLV := Lib.hid (fun W => refLevel_any (f.names.length : Int) v W)
 have HPT := Lib.hid (fun W => qpoint_any f.n f.l hf.rows v W)
 have HP := Lib.hid hp
 unfold ptK at HP
 clear hp
 have hl := hf.rows
 have hl0 := hf.strs
 have HST : Hid (∀ W, Below w.heap.size w W → Strs W f.A f.names) := fun W h => (hf.below h).strs
 have HF1 := Lib.hid ((RowAt.new w 51 (fv f)).alloc (.cells #[.int .i64 0, .int .i64 0, .string ⟨#[]⟩, .slice none 0 0, .slice none 0 0] 28))
 have hg0 := RowAt.new (w.alloc (.cells (fv f) 51)) 28 #[.int .i64 0, .int .i64 0, .string ⟨#[]⟩, .slice none 0 0, .slice none 0 0]
 rw [show (w.alloc (.cells (fv f) 51)).heap.size = w.heap.size + 1 by simp] at hg0
 have HG1 := Lib.hid hg0
 have HB1 : Hid (Below w.heap.size w ((w.alloc (.cells (fv f) 51)).alloc (.cells #[.int .i64 0, .int .i64 0, .string ⟨#[]⟩, .slice none 0 0, .slice none 0 0] 28))) := ((Below.refl _ _).alloc (Nat.le_refl _) _).alloc (by simp) _
 have HC : Hid (∀ W, RowAt W w.heap.size 51 (fv f) → W.cell? ⟨w.heap.size, 0, none⟩ = some (.int .i64 f.kind) ∧ W.cell? ⟨w.heap.size, 1, none⟩ = some (.slice f.A f.names.length f.c) ∧ W.cell? ⟨w.heap.size, 2, none⟩ = some (.int .i64 f.n) ∧ W.rangeAt w.heap.size 2 (rvl f.n f.l)) := fun W h => fac_cells h
 clear hg0 hf hl0
 refine calls_hid fun Q' hQ => ?_
 have HQ := Lib.hid hQ; clear hQ
 generalize f.kind = kd at *
 have ta : (kd == 2) = false := by simp [h2]
 have tb : (kd == 3) = false := by simp [h3]
 clear h2 h3
 generalize RG.lv f.names.length v = lv at *
 generalize RG.lvB f.names.length v = lb at *
 generalize ptO f.n f.l v = po at *
 by_cases h4 : kd = 4
 ·have HP4 : Hid (((po.getD 0 : Nat) : Int) = (k : Int)) := by
   have h5 := HP.out
   rw [if_pos h4] at h5
   exact h5
  have tc : (kd == 4) = true := by simp [h4]
  clear h4 HP
  go_enter Tryz.func29, Tryz.ntmps29
  go_upto_region 1 with fail
  generalize ((w.alloc (.cells (fv f) 51)).alloc (.cells #[.int .i64 0, .int .i64 0, .string ⟨#[]⟩, .slice none 0 0, .slice none 0 0] 28)) = w1 at *
  obtain ⟨c0, c1, c2, c3⟩ := HC.out _ HF1.out
  go_wp2_with fail
  refine (HLV.out w1).mono ?_
  rintro e w2 ⟨rfl, hb⟩
  have HF2 := Lib.hid (HF1.out.below hb HF1.out.lt)
  have HG2 := Lib.hid (HG1.out.below hb HG1.out.lt)
  have HB2 := Lib.hid (HB1.out.trans (hb.mono HB1.out.size))
  clear hb c0 c1 c2 c3
  obtain ⟨c0, c1, c2, c3⟩ := HC.out _ HF2.out
  go_wp2_with (refine wpList_loadRelIn (by rfl) _ rfl w.heap.size 2 rfl f.n f.l hl c3 ?_)
  refine (HPT.out w2).mono ?_
  rintro e w3 ⟨rfl, hb⟩
  have HF3 := Lib.hid (HF2.out.below hb HF2.out.lt)
  have HG3 := Lib.hid (HG2.out.below hb HG2.out.lt)
  have HB3 := Lib.hid (HB2.out.trans (hb.mono HB2.out.size))
  clear hb c0 c1 c2 c3
  obtain ⟨c0, c1, c2, c3⟩ := HC.out _ HF3.out
  obtain ⟨bb, o, hA, hcs⟩ := (HST.out w3 HB3.out).at hkn
  have hck := hcs k hkn
  unfold optV
  rw [HP4.out]
  generalize po.isSome = pb
  generalize f.names.getD k ⟨#[]⟩ = s at *
  generalize f.names.length = nn at *
  rw [hA] at c1
  have hin : (k : Int) < (nn : Int) := by omega
  obtain ⟨g0, g1, g2, g3, g4, u0, u1, u2, u3, u4⟩ := row5 HG3.out
  go_wp2_with fail
  change bodyPost _ _ _ _ _ (set5 w3 (w.heap.size + 1) (.int .i64 2) (.int .i64 0) (.string s) (.slice none 0 0) (.slice none 0 0))
  have hrow := set5_row (a0 := .int .i64 2) (b0 := .int .i64 0) (c0 := .string s) (d0 := .slice none 0 0) (e0 := .slice none 0 0) HG3.out
  have hbf := HB3.out.trans (set5_below (a0 := .int .i64 2) (b0 := .int .i64 0) (c0 := .string s) (d0 := .slice none 0 0) (e0 := .slice none 0 0) (w := w3) (b := w.heap.size) (g := w.heap.size + 1) (Nat.le_add_right _ _))
  exact bodyPost_ret (ret_cell rfl _ _ (w.heap.size + 1) _ _ (0, 0) _ rfl hrow Tryz.underlying28 rfl (node_info _ _ _ _ _)) rfl (HQ.out _ _ ⟨_, rfl, nodeV_leaf _ _ _ _ _, hbf⟩)
 ·have HP4 : Hid (lv = (k : Int)) := by
   have h5 := HP.out
   rw [if_neg h4] at h5
   exact h5
  have tc : (kd == 4) = false := by simp [h4]
  clear h4 HP
  go_enter Tryz.func29, Tryz.ntmps29
  go_upto_region 1 with fail
  generalize ((w.alloc (.cells (fv f) 51)).alloc (.cells #[.int .i64 0, .int .i64 0, .string ⟨#[]⟩, .slice none 0 0, .slice none 0 0] 28)) = w1 at *
  obtain ⟨c0, c1, c2, c3⟩ := HC.out _ HF1.out
  go_wp2_with fail
  refine (HLV.out w1).mono ?_
  rintro e w3 ⟨rfl, hb⟩
  have HF3 := Lib.hid (HF1.out.below hb HF1.out.lt)
  have HG3 := Lib.hid (HG1.out.below hb HG1.out.lt)
  have HB3 := Lib.hid (HB1.out.trans (hb.mono HB1.out.size))
  clear hb c0 c1 c2 c3
  obtain ⟨c0, c1, c2, c3⟩ := HC.out _ HF3.out
  obtain ⟨bb, o, hA, hcs⟩ := (HST.out w3 HB3.out).at hkn
  have hck := hcs k hkn
  rw [HP4.out]
  generalize f.names.getD k ⟨#[]⟩ = s at *
  generalize f.names.length = nn at *
  rw [hA] at c1
  have hin : (k : Int) < (nn : Int) := by omega
  obtain ⟨g0, g1, g2, g3, g4, u0, u1, u2, u3, u4⟩ := row5 HG3.out
  go_wp2_with fail
  change bodyPost _ _ _ _ _ (set5 w3 (w.heap.size + 1) (.int .i64 2) (.int .i64 0) (.string s) (.slice none 0 0) (.slice none 0 0))
  have hrow := set5_row (a0 := .int .i64 2) (b0 := .int .i64 0) (c0 := .string s) (d0 := .slice none 0 0) (e0 := .slice none 0 0) HG3.out
  have hbf := HB3.out.trans (set5_below (a0 := .int .i64 2) (b0 := .int .i64 0) (c0 := .string s) (d0 := .slice none 0 0) (e0 := .slice none 0 0) (w := w3) (b := w.heap.size) (g := w.heap.size + 1) (Nat.le_add_right _ _))
  exact bodyPost_ret (ret_cell rfl _ _ (w.heap.size + 1) _ _ (0, 0) _ rfl hrow Tryz.underlying28 rfl (node_info _ _ _ _ _)) rfl (HQ.out _ _ ⟨_, rfl, nodeV_leaf _ _ _ _ _, hbf⟩)
end Go.Proofs.YtkgonoejnochjaaGreatDoor

