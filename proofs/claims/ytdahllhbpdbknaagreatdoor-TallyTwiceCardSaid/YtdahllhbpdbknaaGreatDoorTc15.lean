/- Texts that all the claims need. Conditions: those that each states. -/
import Derived.ChangeAlike
import Derived.Defers
import Derived.Laws.LoneSync
import Derived.Laws.NewBlocks
import Derived.Laws.Pointers
import Derived.RegionCalls
import Derived.RegionTactic
import Derived.Test.YtdahllhbpdbknaaGreatDoorTc1
set_option linter.unusedSimpArgs false
set_option linter.unusedVariables false
set_option maxRecDepth 100000
set_option maxHeartbeats 40000000
namespace Go.Proofs.YtdahllhbpdbknaaGreatDoor
section
open Go.RowKit
def onceC (d s : Int) : Array Value := #[.int .u32 d, .int .i32 s, .int .u32 0]
theorem oDisable (w : World) : (callFunc 103 #[]).run Tryz.prog w = .ok (.value (.tuple #[])) w := run_call_mark0 Tryz.func103 (by kernel_rfl) (by kernel_rfl) (by kernel_rfl) .disable (by kernel_rfl) w
theorem oEnable (w : World) : (callFunc 105 #[]).run Tryz.prog w = .ok (.value (.tuple #[])) w := run_call_mark0 Tryz.func105 (by kernel_rfl) (by kernel_rfl) (by kernel_rfl) .enable (by kernel_rfl) w
theorem oAcquire (a : Addr) (w : World) : (callFunc 106 #[.pointer (some a)]).run Tryz.prog w = .ok (.value (.tuple #[])) w := run_call_marked Tryz.func106 (by kernel_rfl) (by kernel_rfl) (by kernel_rfl) .acquire (by kernel_rfl) a w
theorem oRelease (a : Addr) (w : World) : (callFunc 108 #[.pointer (some a)]).run Tryz.prog w = .ok (.value (.tuple #[])) w := run_call_marked Tryz.func108 (by kernel_rfl) (by kernel_rfl) (by kernel_rfl) .releaseMerge (by kernel_rfl) a w
theorem oLockI (a : Addr) (w : World) (hc : w.cell? a = some (.int .i32 0)) (hz : w.frozen? a = false) :
 Calls Tryz.prog 91 #[.pointer (some a)] w fun e w' => e = .returned (.tuple #[]) ∧ w' = w.setCell a (.int .i32 1) := by
 have hd := oDisable
 have he := oEnable
 have ha := oAcquire
 have hcas := run_call_cas_hit (P := Tryz.prog) Tryz.func104 (by kernel_rfl) (by kernel_rfl) (by kernel_rfl) .i32 (by kernel_rfl) (y := 1) hc hz
 have hc' : (w.setCell a (.int .i32 1)).cell? a = some (.int .i32 1) := World.cell?_setCell_same w a _ hc
 have hcv := run_convert_to_unsafe (P := Tryz.prog) (src := 153) (dst := 157) Tryz.underlying153 Tryz.underlying157 (by kernel_rfl) hc'
 go_enter Tryz.func91, Tryz.ntmps91
 go_wp2
 first | go_end0 | (simp only [Exit.inBlock, Exit.then]; refine bodyPost_ret (results_none rfl _ _ _) rfl ?_) | refine bodyPost_ret (results_none rfl _ _ _) rfl ?_
 all_goals exact ⟨rfl, rfl⟩
theorem oLock (a : Addr) (w : World) (hc : w.cell? a = some (.int .i32 0)) (hz : w.frozen? a = false) :
 Calls Tryz.prog 76 #[.pointer (some a)] w fun e w' => e = .returned (.tuple #[]) ∧ w' = w.setCell a (.int .i32 1) := by
 go_enter Tryz.func76, Tryz.ntmps76
 go_wp2_with (go_at_call 91; refine (oLockI a _ hc hz).mono ?_; rintro e w' ⟨rfl, rfl⟩)
 go_end0
 exact ⟨rfl, rfl⟩
theorem oStoreD (a : Addr) (x : Value) (u : FrameMode) (w : World) (hc : w.cell? a = some x) (hz : w.frozen? a = false) :
 CallsD Tryz.prog 78 #[.pointer (some a), .bool true] u w fun e u' w' => u' = u ∧ (e = .returned (.tuple #[]) ∧ w' = w.drew.setCell a (.int .u32 1)) := by
 have hc' : w.drew.cell? a = some x := hc
 have hz' : w.drew.frozen? a = false := hz
 have hst := run_call_store (P := Tryz.prog) Tryz.func93 (by kernel_rfl) (by kernel_rfl) (by kernel_rfl) (by kernel_rfl) (k := .u32) (y := 1) hc' hz'
 go_enter_d Tryz.func78, Tryz.ntmps78
 go_wp2
 go_region_calls
 all_goals (go_end0; exact ⟨rfl, rfl⟩)
theorem oUnlockI (a : Addr) (w : World) (hc : w.cell? a = some (.int .i32 1)) (hz : w.frozen? a = false) :
 Calls Tryz.prog 92 #[.pointer (some a)] w fun e w' => e = .returned (.tuple #[]) ∧ w' = w.setCell a (.int .i32 0) := by
 have hd := oDisable
 have he := oEnable
 have hr := oRelease
 have hadd := run_call_add (P := Tryz.prog) Tryz.func109 (by kernel_rfl) (by kernel_rfl) (by kernel_rfl) .i32 (by kernel_rfl) (y := -1) (s := 0) hc hz (by simp [go_sem]; rfl)
 have hcv := run_convert_to_unsafe (P := Tryz.prog) (src := 153) (dst := 157) Tryz.underlying153 Tryz.underlying157 (by kernel_rfl) hc
 go_enter Tryz.func92, Tryz.ntmps92
 go_wp2
 first | go_end0 | (simp only [Exit.inBlock, Exit.then]; refine bodyPost_ret (results_none rfl _ _ _) rfl ?_) | refine bodyPost_ret (results_none rfl _ _ _) rfl ?_
 all_goals exact ⟨rfl, rfl⟩
theorem oUnlockD (a : Addr) (u : FrameMode) (w : World) (hc : w.cell? a = some (.int .i32 1)) (hz : w.frozen? a = false) :
 CallsD Tryz.prog 77 #[.pointer (some a)] u w fun e u' w' => u' = u ∧ (e = .returned (.tuple #[]) ∧ w' = w.setCell a (.int .i32 0)) := by
 go_enter_d Tryz.func77, Tryz.ntmps77
 go_wp2_with (go_at_call 92; refine (oUnlockI a _ hc hz).mono ?_; rintro e w' ⟨rfl, rfl⟩)
 go_end0
 exact ⟨rfl, rfl⟩
section
variable {w : World} {b : Nat} {d s : Int}
theorem once_cells (h : RowAt w b 97 (onceC d s)) : w.cell? ⟨b, 0, none⟩ = some (.int .u32 d) ∧ w.cell? ⟨b, 1, none⟩ = some (.int .i32 s) ∧ w.frozen? ⟨b, 0, none⟩ = false ∧ w.frozen? ⟨b, 1, none⟩ = false :=
 ⟨(h.cell 0).trans rfl, (h.cell 1).trans rfl, h.free 0, h.free 1⟩
theorem once_state (h : RowAt w b 97 (onceC d s)) (z : Int) : RowAt (w.setCell ⟨b, 1, none⟩ (.int .i32 z)) b 97 (onceC d z) := h.put 1 _
theorem once_done (h : RowAt w b 97 (onceC d s)) (z : Int) : RowAt (w.setCell ⟨b, 0, none⟩ (.int .u32 z)) b 97 (onceC z s) := h.put 0 _
end
theorem oLoad (a : Addr) (x : Int) (w : World) (hc : w.cell? a = some (.int .u32 x)) :
 Calls Tryz.prog 62 #[.pointer (some a)] w fun e w' => e = .returned (.bool (x != 0)) ∧ w' = w := by
 have hl := run_call_load (P := Tryz.prog) Tryz.func75 (by kernel_rfl) (by kernel_rfl) (by kernel_rfl) .u32 (by kernel_rfl) hc
 go_enter Tryz.func62, Tryz.ntmps62
 go_wp2_with fail
 go_ret
 exact ⟨rfl, rfl⟩
theorem oSlow (b : Nat) (F : FuncId) (cap : Array Value) (w : World) (R : World → Prop) (hr : RowAt w b 97 (onceC 0 0))
 (hF : ∀ args w, (callFunc F args).run Tryz.prog w = .ok (.enter F args) w)
 (H : Calls Tryz.prog F cap (w.setCell ⟨b, 1, none⟩ (.int .i32 1)) fun e W => e = .returned (.tuple #[]) ∧ R W ∧ RowAt W b 97 (onceC 0 1)) :
 Calls Tryz.prog 63 #[.pointer (some ⟨b, 0, none⟩), .func (.func F) #[] cap] w fun e w' => e = .returned (.tuple #[]) ∧
  ∃ W, R W ∧ RowAt W b 97 (onceC 0 1) ∧ w' = (W.drew.setCell ⟨b, 0, none⟩ (.int .u32 1)).setCell ⟨b, 1, none⟩ (.int .i32 0) := by
 obtain ⟨h0, h1, f0, f1⟩ := once_cells hr
 obtain ⟨k0, _, _, _⟩ := once_cells (once_state hr 1)
 have HH := zh H; clear H
 have HL := zh (oLoad _ _ _ k0)
 have hnot : ∀ (x : Bool) (w : World), (Op.unary .not (.bool x)).run Tryz.prog w = .ok (.bool (!x)) w := fun _ _ => rfl
 go_enter_defers Tryz.func63, Tryz.ntmps63
 go_wp2_with (go_at_call 76; refine (oLock ⟨b, 1, none⟩ _ (by go_simp) (by go_simp)).mono ?_; rintro e w' ⟨rfl, rfl⟩)
 go_wp2_with (first
  | (go_at_call 62; refine HL.out.mono ?_; rintro e w' ⟨rfl, rfl⟩)
  | (refine HH.out.mono ?_; rintro e W ⟨rfl, hR, hrow⟩))
 obtain ⟨q0, q1, z0, z1⟩ := once_cells hrow
 go_wp2_with fail
 refine leaves_cons (f := 78) (args := #[.pointer (some ⟨b, 0, none⟩), .bool true]) (by simp) (by simp [go_sem]) ?_
 refine (oStoreD ⟨b, 0, none⟩ (.int .u32 0) .returning _ q0 z0).mono ?_
 rintro e u' w'' ⟨rfl, rfl, rfl⟩
 obtain ⟨p0, p1, y0, y1⟩ := once_cells (once_done (w := W.drew) hrow 1)
 refine leaves_cons (f := 77) (args := #[.pointer (some ⟨b, 1, none⟩)]) (by simp [settle]) (by simp [go_sem]) ?_
 refine (oUnlockD ⟨b, 1, none⟩ _ _ p1 y1).mono ?_
 rintro e u' w'' ⟨rfl, rfl, rfl⟩
 simp [Leaves, settle, results, Tryz.results63]
 exact ⟨W, hR, hrow, rfl⟩
theorem oDo_first (b : Nat) (F : FuncId) (cap : Array Value) (w : World) (R : World → Prop) (hr : RowAt w b 97 (onceC 0 0))
 (hF : ∀ args w, (callFunc F args).run Tryz.prog w = .ok (.enter F args) w)
 (H : Calls Tryz.prog F cap (w.setCell ⟨b, 1, none⟩ (.int .i32 1)) fun e W => e = .returned (.tuple #[]) ∧ R W ∧ RowAt W b 97 (onceC 0 1)) :
 Calls Tryz.prog 44 #[.pointer (some ⟨b, 0, none⟩), .func (.func F) #[] cap] w fun e w' => e = .returned (.tuple #[]) ∧
  ∃ W, R W ∧ RowAt W b 97 (onceC 0 1) ∧ w' = (W.drew.setCell ⟨b, 0, none⟩ (.int .u32 1)).setCell ⟨b, 1, none⟩ (.int .i32 0) := by
 obtain ⟨h0, h1, f0, f1⟩ := once_cells hr
 have HS := zh (oSlow b F cap w R hr hF H); clear H
 have HL := zh (oLoad _ _ _ h0)
 have hnot : ∀ (x : Bool) (w : World), (Op.unary .not (.bool x)).run Tryz.prog w = .ok (.bool (!x)) w := fun _ _ => rfl
 go_enter Tryz.func44, Tryz.ntmps44
 go_wp2_with (first
  | (go_at_call 63; refine HS.out.mono ?_; rintro e w' ⟨rfl, hW⟩)
  | (go_at_call 62; refine HL.out.mono ?_; rintro e w' ⟨rfl, rfl⟩))
 go_end0
 exact ⟨rfl, hW⟩
theorem oDo_done (b : Nat) (fv : Value) (w : World) (hr : RowAt w b 97 (onceC 1 0)) :
 Calls Tryz.prog 44 #[.pointer (some ⟨b, 0, none⟩), fv] w fun e w' => e = .returned (.tuple #[]) ∧ w' = w := by
 obtain ⟨h0, h1, f0, f1⟩ := once_cells hr
 have HL := zh (oLoad _ _ _ h0)
 have hnot : ∀ (x : Bool) (w : World), (Op.unary .not (.bool x)).run Tryz.prog w = .ok (.bool (!x)) w := fun _ _ => rfl
 go_enter Tryz.func44, Tryz.ntmps44
 go_wp2_with (go_at_call 62; refine HL.out.mono ?_; rintro e w' ⟨rfl, rfl⟩)
 go_end0
 exact ⟨rfl, rfl⟩
theorem aAdd (a : Addr) (x s : Int) (w : World) (hs : IntKind.i64.wrap (x + 1) = s) (hc : w.cell? a = some (.int .i64 x)) (hz : w.frozen? a = false) :
 Calls Tryz.prog 29 #[.pointer (some a), .int .i64 1] w fun e w' => e = .returned (.int .i64 s) ∧ w' = w.setCell a (.int .i64 s) := by
 have hadd := run_call_add (P := Tryz.prog) Tryz.func53 (by kernel_rfl) (by kernel_rfl) (by kernel_rfl) .i64 (by kernel_rfl) (y := 1) (s := s) hc hz (by simp [go_sem]; exact hs)
 go_enter Tryz.func29, Tryz.ntmps29
 go_wp2_with fail
 go_ret
 exact ⟨rfl, rfl⟩
theorem aLoad (a : Addr) (x : Int) (w : World) (hc : w.cell? a = some (.int .i64 x)) :
 Calls Tryz.prog 33 #[.pointer (some a)] w fun e w' => e = .returned (.int .i64 x) ∧ w' = w := by
 have hl := run_call_load (P := Tryz.prog) Tryz.func55 (by kernel_rfl) (by kernel_rfl) (by kernel_rfl) .i64 (by kernel_rfl) hc
 go_enter Tryz.func33, Tryz.ntmps33
 go_wp2_with fail
 go_ret
 exact ⟨rfl, rfl⟩
end
end Go.Proofs.YtdahllhbpdbknaaGreatDoor
