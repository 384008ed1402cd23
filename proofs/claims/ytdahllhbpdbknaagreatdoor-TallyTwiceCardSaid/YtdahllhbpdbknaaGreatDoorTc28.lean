/- Texts that all the claims need. Conditions: those that each states. -/

import Derived.Test.YtdahllhbpdbknaaGreatDoorTc16
import Derived.Test.YtdahllhbpdbknaaGreatDoorTc27
set_option linter.unusedSimpArgs false
set_option linter.unusedVariables false
set_option maxRecDepth 100000
set_option maxHeartbeats 40000000
namespace Go.Proofs.YtdahllhbpdbknaaGreatDoor
section
open Go.RowKit RM Go.Maps
section
variable {M : Nat → Prop} {w w1 w2 : World} {B q g : Nat}
end
theorem prepare_any (t : Bool) (A : Option Addr) (c : Nat) (fs : List Fac) (gs gt : Nat) (w : World) (hT : Tab w) (hF : Facs w A fs) (hs : RowAt w gs 24 (sv t A fs.length c)) (hg : RowAt w gt 98 #[.slice none 0 0]) :
 Calls Tryz.prog 41 #[.pointer (some ⟨gs, 0, none⟩), .pointer (some ⟨gt, 0, none⟩)] w fun e w' => e = .returned (.tuple #[]) ∧ Mut gt w w' ∧
  ((rightS t fs = false ∧ RowAt w' gt 98 #[.slice none 0 0]) ∨ (rightS t fs = true ∧ ∃ tb, RowAt w' gt 98 #[.slice (some ⟨tb, 0, none⟩) 8 8] ∧ TblsAt w' w.heap.size tb fs)) := by
 have hto := tablesOf_any t A c fs w hT hF
 obtain ⟨c0, c1⟩ := shape_cells hs
 have HG := zh hg
 clear hs hT hF hg
 cases hrt : rightS t fs with
 | false =>
   have HTO : Hid (Calls Tryz.prog 42 #[.agg (sv t A fs.length c)] w fun e w' => e = .returned (.slice none 0 0) ∧ Below w.heap.size w w') := zh (hto.mono fun e w' h => by
    rcases h.1 with h1 | h1
    ·exact ⟨h1.2, h.2⟩
    ·exact absurd h1.1 (by rw [hrt]; decide))
   clear hto hrt
   generalize fs.length = n at *
   refine cHid fun Q' hQ => ?_
   have HQ := zh hQ; clear hQ
   go_enter Tryz.func41, Tryz.ntmps41
   go_wp2_with (go_at_call 42; refine HTO.out.mono ?_; rintro e w2 ⟨rfl, hb2⟩; have HB2 := zh hb2; clear hb2; have HG2 := zh (HG.out.below HB2.out HG.out.lt); have q0 := (HG2.out.cell 0).trans (rfl : _ = some (Value.slice none 0 0)); have qf := HG2.out.free 0)
   refine bodyPost_ret (results_none rfl _ _ _) rfl (HQ.out _ _ ⟨rfl, (Mut.of_below HB2.out gt).trans (Mut.of_set _ gt 0 _), .inl ⟨by trivial, HG2.out.put 0 _⟩⟩)
 | true =>
   have HTO : Hid (Calls Tryz.prog 42 #[.agg (sv t A fs.length c)] w fun e w' => ∃ tb, e = .returned (.slice (some ⟨tb, 0, none⟩) 8 8) ∧ TblsAt w' w.heap.size tb fs ∧ Below w.heap.size w w') := zh (hto.mono fun e w' h => by
    rcases h.1 with h1 | h1
    ·exact absurd h1.1 (by rw [hrt]; decide)
    ·obtain ⟨_, tb, h2, h3⟩ := h1
     exact ⟨tb, h2, h3, h.2⟩)
   clear hto hrt
   generalize fs.length = n at *
   refine cHid fun Q' hQ => ?_
   have HQ := zh hQ; clear hQ
   go_enter Tryz.func41, Tryz.ntmps41
   go_wp2_with (go_at_call 42; refine HTO.out.mono ?_; rintro e w2 ⟨tb, rfl, hta, hb2⟩; have HTA := zh hta; have HB2 := zh hb2; clear hta hb2; have HG2 := zh (HG.out.below HB2.out HG.out.lt); have q0 := (HG2.out.cell 0).trans (rfl : _ = some (Value.slice none 0 0)); have qf := HG2.out.free 0)
   refine bodyPost_ret (results_none rfl _ _ _) rfl (HQ.out _ _ ⟨rfl, (Mut.of_below HB2.out gt).trans (Mut.of_set _ gt 0 _), .inr ⟨by trivial, tb, HG2.out.put 0 _, ?_⟩⟩)
   have hlt := HG.out.lt
   exact HTA.out.same fun k h1 h2 => (Mut.of_set w2 gt 0 _).block k h2 (by omega)
theorem once_any (t : Bool) (A : Option Addr) (c : Nat) (fs : List Fac) (gs gt go lo : Nat) (w : World) (hT : Tab w) (hF : Facs w A fs) (hs : RowAt w gs 24 (sv t A fs.length c)) (hlo : lo ≤ w.heap.size) (hgl : go < lo) (hgt : gt < lo)
 (hT' : ∀ W, But (fun k => k = go ∨ k = gt) w W → Tab W) (hF' : ∀ W, But (fun k => k = go ∨ k = gt) w W → Facs W A fs) (hsg : gs ≠ go ∧ gs ≠ gt)
 (hJ : JSt w lo go gt t fs) :
 Calls Tryz.prog 44 #[.pointer (some ⟨go, 0, none⟩), .func (.func 41) #[] #[.pointer (some ⟨gs, 0, none⟩), .pointer (some ⟨gt, 0, none⟩)]] w fun e w' => e = .returned (.tuple #[]) ∧ JDone w' lo go gt t fs ∧ But (fun k => k = go ∨ k = gt) w w' := by
 rcases hJ with ⟨h1, h2⟩ | hJ
 ·have hot : gt ≠ go := blk_apart h2 h1 (by decide)
  have hm1 : But (fun k => k = go ∨ k = gt) w (w.setCell ⟨go, 1, none⟩ (.int .i32 1)) := But.set w go 1 _ (.inl rfl)
  have hs1 : (w.setCell ⟨go, 1, none⟩ (.int .i32 1)).heap.size = w.heap.size := by simp [World.setCell]
  refine (oDo_first go 41 #[.pointer (some ⟨gs, 0, none⟩), .pointer (some ⟨gt, 0, none⟩)] w (fun W => Mut gt (w.setCell ⟨go, 1, none⟩ (.int .i32 1)) W ∧ ((rightS t fs = false ∧ RowAt W gt 98 #[.slice none 0 0]) ∨ (rightS t fs = true ∧ ∃ tb, RowAt W gt 98 #[.slice (some ⟨tb, 0, none⟩) 8 8] ∧ TblsAt W lo tb fs))) h1 (fun _ _ => by kernel_rfl) ?_).mono ?_
  ·refine (prepare_any t A c fs gs gt _ (hT' _ hm1) (hF' _ hm1) (hs.far (p := ⟨go, 1, none⟩) (fun e => hsg.1 e.symm) _) (h2.far (p := ⟨go, 1, none⟩) (fun e => hot e.symm) _)).mono ?_
   rintro e W ⟨he, hm, hr⟩
   refine ⟨he, ⟨hm, ?_⟩, (once_state h1 1).mut hm (fun e => hot e.symm)⟩
   rcases hr with hr | ⟨hr, tb, h3, h4⟩
   ·exact .inl hr
   ·exact .inr ⟨hr, tb, h3, h4.mono (by rw [hs1]; exact hlo)⟩
  ·rintro e w' ⟨he, W, ⟨hm, hr⟩, hrow, rfl⟩
   have hbW : But (fun k => k = go ∨ k = gt) w W := hm1.trans (But.of_mut hm (.inr rfl))
   have hbE : But (fun k => k = go ∨ k = gt) W ((W.drew.setCell ⟨go, 0, none⟩ (.int .u32 1)).setCell ⟨go, 1, none⟩ (.int .i32 0)) := ((But.refl _ W).drew.trans (But.set _ go 0 _ (.inl rfl))).trans (But.set _ go 1 _ (.inl rfl))
   have hmE : Mut go W ((W.drew.setCell ⟨go, 0, none⟩ (.int .u32 1)).setCell ⟨go, 1, none⟩ (.int .i32 0)) := ((Mut.refl go W).drew.trans (Mut.of_set _ go 0 _)).trans (Mut.of_set _ go 1 _)
   refine ⟨he, ⟨once_state (once_done (w := W.drew) hrow 1) 0, ?_⟩, hbW.trans hbE⟩
   rcases hr with ⟨hr, h3⟩ | ⟨hr, tb, h3, h4⟩
   ·exact .inl ⟨hr, h3.mut hmE hot⟩
   ·exact .inr ⟨hr, tb, h3.mut hmE hot, h4.same fun k h5 h6 => hmE.block k h6 (by omega)⟩
 ·refine (oDo_done go _ w hJ.1).mono ?_
  rintro e w' ⟨he, rfl⟩
  exact ⟨he, hJ, But.refl _ _⟩
end
end Go.Proofs.YtdahllhbpdbknaaGreatDoor
