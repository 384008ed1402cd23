/- Texts that SpellElemCard need. Conditions: those that each states. -/

import Derived.Test.YtkgonoejnochjaaGreatDoorY45
set_option linter.unusedSimpArgs false
set_option linter.unusedVariables false
set_option maxRecDepth 8000
namespace Go.Proofs.YtkgonoejnochjaaGreatDoor
open Go.RowKit LX TR TM SP
set_option maxRecDepth 100000 in
set_option maxHeartbeats 3200000 in
theorem qwordC_any (f : Fac) (x : Nd) (w : World) (hf : FacOk w f) (hn : f.names.length ≤ 4294967296) (hx : Nods w w.heap.size [x]) (hc : TM.cnt [x] ≤ 4294967296) :
 Calls Tryz.prog 25 #[.agg (fv f), .agg (nv x)] w fun e w' => e = .returned (.agg (gv (wordC f x))) ∧ Below w.heap.size w w' := by
 have HRL : Hid (∀ W, Below w.heap.size w W → Calls Tryz.prog 52 #[.agg (fv f), .agg (nv x)] W fun e w' => e = .returned (.agg (gv (rls f x.ks 0))) ∧ Below W.heap.size W w') := fun W h => qrules_any f x W (hf.below h) hn ((hx.below h).mono h.size) hc
 obtain ⟨xk, xp, xs, xA, xc, xw, xB, xd, xz⟩ := x
 have hwl : xw.length ≤ 4294967296 := by
  rw [TM.cnt_cons] at hc
  have hc : 1 + xw.length + TM.cnt xz + _ ≤ 4294967296 := hc
  omega
 have HPL : Hid (∀ W, Below w.heap.size w W → Calls Tryz.prog 51 #[.slice f.A f.names.length f.c, .slice xA xw.length xc] W fun e w' => e = .returned (.agg (gv (plc f.names xw))) ∧ Below W.heap.size W w') := fun W h =>
  qplaces_any f.A xA f.c xc f.names xw W hn hwl (hf.below h).strs ((hx.at.1.1.below h).mono h.size)
 have HFI : Hid (∀ W, Below w.heap.size w W → Calls Tryz.prog 53 #[.slice f.A f.names.length f.c, .string xs] W fun e w' => e = .returned (.int .i64 (idx f.names xs)) ∧ W = w') := fun W h => refFind_any f.A f.c f.names xs W hn (hf.below h).strs
 have HHW : Hid (∀ (k : Int) W, Calls Tryz.prog 54 #[.agg (rv f.n f.l), .int .i64 k] W fun e w' => e = .returned (.int .u64 ((wordN f.n f.l k : Nat) : Int)) ∧ Below W.heap.size W w') := fun k W => qword_any f.n f.l hf.rows k W
 have HRW : Hid (∀ (k : Int) W, Calls Tryz.prog 55 #[.int .i64 (f.names.length : Int), .int .i64 k] W fun e w' => e = .returned (.tuple #[.int .u64 (RG.wR f.names.length k : Int), .bool (RG.okR f.names.length k)]) ∧ Below W.heap.size W w') := fun k W => refWord_any f.names.length k W
 have hE : gv (wordC f (.mk xk xp xs xA xc xw xB xd xz)) = if f.kind = 2 then (if xk = 3 then gv (plc f.names xw) else #[.int .u64 0, .bool true, .int .i64 xp])
  else if f.kind = 3 then (if xk = 5 then gv (rls f xz 0) else #[.int .u64 0, .bool true, .int .i64 xp])
  else if xk = 2 ∧ 0 ≤ idx f.names xs then (if f.kind = 4 then #[.int .u64 ((wordN f.n f.l (idx f.names xs) : Nat) : Int), .bool false, .int .i64 0] else #[.int .u64 (RG.wR f.names.length (idx f.names xs) : Int), .bool false, .int .i64 0])
  else #[.int .u64 0, .bool true, .int .i64 xp] := by
  show gv (if f.kind = 2 then (if xk = 3 then plc f.names xw else .error xp) else if f.kind = 3 then (if xk = 5 then rls f xz 0 else .error xp) else if xk = 2 ∧ 0 ≤ idx f.names xs then (if f.kind = 4 then .ok (wordN f.n f.l (idx f.names xs)) else .ok (RG.wR f.names.length (idx f.names xs))) else .error xp) = _
  by_cases h1 : f.kind = 2
  ·rw [if_pos h1, if_pos h1]
   by_cases h2 : xk = 3
   ·rw [if_pos h2, if_pos h2]
   ·rw [if_neg h2, if_neg h2]; rfl
  ·rw [if_neg h1, if_neg h1]
   by_cases h2 : f.kind = 3
   ·rw [if_pos h2, if_pos h2]
    by_cases h3 : xk = 5
    ·rw [if_pos h3, if_pos h3]
    ·rw [if_neg h3, if_neg h3]; rfl
   ·rw [if_neg h2, if_neg h2]
    by_cases h3 : xk = 2 ∧ 0 ≤ idx f.names xs
    ·rw [if_pos h3, if_pos h3]
     by_cases h4 : f.kind = 4
     ·rw [if_pos h4, if_pos h4]; rfl
     ·rw [if_neg h4, if_neg h4]; rfl
    ·rw [if_neg h3, if_neg h3]; rfl
 unfold nv at HRL ⊢
 simp only [Nd.k, Nd.p, Nd.s, Nd.A, Nd.c, Nd.ws, Nd.B, Nd.d, Nd.ks] at HRL ⊢
 have hl := hf.rows
 have HFw1 := Lib.hid (((RowAt.new w 51 (fv f)).alloc (.cells #[.int .i64 xk, .int .i64 xp, .string xs, .slice xA xw.length xc, .slice xB xz.length xd] 28)).alloc (.cells #[.int .u64 0, .bool false, .int .i64 0] 61) |>.alloc (.cells #[.int .u64 0, .bool true, .int .i64 xp] 61))
 have hx0 := ((RowAt.new (w.alloc (.cells (fv f) 51)) 28 #[.int .i64 xk, .int .i64 xp, .string xs, .slice xA xw.length xc, .slice xB xz.length xd]).alloc (.cells #[.int .u64 0, .bool false, .int .i64 0] 61)).alloc (.cells #[.int .u64 0, .bool true, .int .i64 xp] 61)
 have hg0 := (RowAt.new ((w.alloc (.cells (fv f) 51)).alloc (.cells #[.int .i64 xk, .int .i64 xp, .string xs, .slice xA xw.length xc, .slice xB xz.length xd] 28)) 61 #[.int .u64 0, .bool false, .int .i64 0]).alloc (.cells #[.int .u64 0, .bool true, .int .i64 xp] 61)
 have hd0 := RowAt.new (((w.alloc (.cells (fv f) 51)).alloc (.cells #[.int .i64 xk, .int .i64 xp, .string xs, .slice xA xw.length xc, .slice xB xz.length xd] 28)).alloc (.cells #[.int .u64 0, .bool false, .int .i64 0] 61)) 61 #[.int .u64 0, .bool true, .int .i64 xp]
 have hb1 : Below w.heap.size w ((((w.alloc (.cells (fv f) 51)).alloc (.cells #[.int .i64 xk, .int .i64 xp, .string xs, .slice xA xw.length xc, .slice xB xz.length xd] 28)).alloc (.cells #[.int .u64 0, .bool false, .int .i64 0] 61)).alloc (.cells #[.int .u64 0, .bool true, .int .i64 xp] 61)) := ((((Below.refl _ _).alloc (Nat.le_refl _) _).alloc (by simp) _).alloc (by simp; omega) _).alloc (by simp; omega) _
 rw [show (w.alloc (.cells (fv f) 51)).heap.size = w.heap.size + 1 by simp] at hx0
 rw [show ((w.alloc (.cells (fv f) 51)).alloc (.cells #[.int .i64 xk, .int .i64 xp, .string xs, .slice xA xw.length xc, .slice xB xz.length xd] 28)).heap.size = w.heap.size + 2 by simp] at hg0
 rw [show (((w.alloc (.cells (fv f) 51)).alloc (.cells #[.int .i64 xk, .int .i64 xp, .string xs, .slice xA xw.length xc, .slice xB xz.length xd] 28)).alloc (.cells #[.int .u64 0, .bool false, .int .i64 0] 61)).heap.size = w.heap.size + 3 by simp] at hd0
 have HXw1 := Lib.hid hx0
 have HGw1 := Lib.hid hg0
 have HDw1 := Lib.hid hd0
 have HBw1 := Lib.hid hb1
 clear hx0 hg0 hd0 hb1 hf hx hc hn
 have HE := Lib.hid hE
 clear hE
 generalize gv (wordC f (.mk xk xp xs xA xc xw xB xd xz)) = G at *
 generalize plc f.names xw = P at *
 generalize rls f xz 0 = Q at *
 generalize idx f.names xs = k at *
 have HC : Hid (∀ W, RowAt W w.heap.size 51 (fv f) → W.cell? ⟨w.heap.size, 0, none⟩ = some (.int .i64 f.kind) ∧ W.cell? ⟨w.heap.size, 1, none⟩ = some (.slice f.A f.names.length f.c) ∧ W.cell? ⟨w.heap.size, 2, none⟩ = some (.int .i64 f.n) ∧ W.rangeAt w.heap.size 2 (rvl f.n f.l)) := fun W h => fac_cells h
 generalize f.kind = kd at *
 generalize hwn : wordN f.n f.l k = wn at *
 generalize hwr : RG.wR f.names.length k = wr9 at *
 by_cases e2 : kd = 2
 ·have HE2 := HE.out
  rw [if_pos e2] at HE2
  have ta : (kd == 2) = true := by simp [e2]
  by_cases e3 : xk = 3
  ·rw [if_pos e3] at HE2
   have tb : (xk != 3) = false := by simp [e3]
   clear e2 e3
   clear HE
   have HE := Lib.hid HE2
   clear HE2
   go_enter Tryz.func25, Tryz.ntmps25
   go_upto_region 2 with fail
   generalize ((((w.alloc (.cells (fv f) 51)).alloc (.cells #[.int .i64 xk, .int .i64 xp, .string xs, .slice xA xw.length xc, .slice xB xz.length xd] 28)).alloc (.cells #[.int .u64 0, .bool false, .int .i64 0] 61)).alloc (.cells #[.int .u64 0, .bool true, .int .i64 xp] 61)) = w1 at *
   obtain ⟨c0, c1, c2, c3⟩ := HC.out _ HFw1.out
   obtain ⟨x0, x1, x2, x3, x4, _, _, _, _, _⟩ := row5 HXw1.out
   obtain ⟨r0, r1, r2, z0, z1, z2⟩ := row3 HGw1.out
   obtain ⟨b0, b1, b2, _, _, _⟩ := row3 HDw1.out
   go_wp2_with fail
   refine (HPL.out _ HBw1.out).mono ?_
   rintro e w2 ⟨rfl, hb⟩
   have HFw2 := Lib.hid (HFw1.out.below hb HFw1.out.lt)
   have HXw2 := Lib.hid (HXw1.out.below hb HXw1.out.lt)
   have HGw2 := Lib.hid (HGw1.out.below hb HGw1.out.lt)
   have HDw2 := Lib.hid (HDw1.out.below hb HDw1.out.lt)
   have HBw2 := Lib.hid (HBw1.out.trans (hb.mono HBw1.out.size))
   clear hb c0 c1 c2 c3 x0 x1 x2 x3 x4 r0 r1 r2 z0 z1 z2 b0 b1 b2
   obtain ⟨c0, c1, c2, c3⟩ := HC.out _ HFw2.out
   obtain ⟨x0, x1, x2, x3, x4, _, _, _, _, _⟩ := row5 HXw2.out
   obtain ⟨r0, r1, r2, z0, z1, z2⟩ := row3 HGw2.out
   obtain ⟨b0, b1, b2, _, _, _⟩ := row3 HDw2.out
   cases P with
   | error p =>
     rw [show (gv (Except.error p) : Array Value) = #[.int .u64 0, .bool true, .int .i64 p] from rfl]
     go_wp2_with fail
     have hrow := ((HGw2.out.put 0 (.int .u64 0)).put 1 (.bool true)).put 2 (.int .i64 p)
     exact bodyPost_ret (ret_cell rfl _ _ (w.heap.size + 2) _ _ (0, 0) _ rfl hrow Tryz.underlying61 rfl (got11_info _ _ _)) rfl ⟨by rw [HE.out]; rfl, ((HBw2.out.setCell (p := ⟨w.heap.size + 2, 0, none⟩) (Nat.le_add_right _ _) _).setCell (p := ⟨w.heap.size + 2, 1, none⟩) (Nat.le_add_right _ _) _).setCell (p := ⟨w.heap.size + 2, 2, none⟩) (Nat.le_add_right _ _) _⟩
   | ok g =>
     rw [show (gv (Except.ok g) : Array Value) = #[.int .u64 (g : Int), .bool false, .int .i64 0] from rfl]
     go_wp2_with fail
     have hrow := ((HGw2.out.put 0 (.int .u64 (g : Int))).put 1 (.bool false)).put 2 (.int .i64 0)
     exact bodyPost_ret (ret_cell rfl _ _ (w.heap.size + 2) _ _ (0, 0) _ rfl hrow Tryz.underlying61 rfl (got11_info _ _ _)) rfl ⟨by rw [HE.out]; rfl, ((HBw2.out.setCell (p := ⟨w.heap.size + 2, 0, none⟩) (Nat.le_add_right _ _) _).setCell (p := ⟨w.heap.size + 2, 1, none⟩) (Nat.le_add_right _ _) _).setCell (p := ⟨w.heap.size + 2, 2, none⟩) (Nat.le_add_right _ _) _⟩
  ·rw [if_neg e3] at HE2
   have tb : (xk != 3) = true := by simp [e3]
   clear e2 e3
   clear HE
   have HE := Lib.hid HE2
   clear HE2
   go_enter Tryz.func25, Tryz.ntmps25
   go_upto_region 2 with fail
   generalize ((((w.alloc (.cells (fv f) 51)).alloc (.cells #[.int .i64 xk, .int .i64 xp, .string xs, .slice xA xw.length xc, .slice xB xz.length xd] 28)).alloc (.cells #[.int .u64 0, .bool false, .int .i64 0] 61)).alloc (.cells #[.int .u64 0, .bool true, .int .i64 xp] 61)) = w1 at *
   obtain ⟨c0, c1, c2, c3⟩ := HC.out _ HFw1.out
   obtain ⟨x0, x1, x2, x3, x4, _, _, _, _, _⟩ := row5 HXw1.out
   obtain ⟨r0, r1, r2, z0, z1, z2⟩ := row3 HGw1.out
   obtain ⟨b0, b1, b2, _, _, _⟩ := row3 HDw1.out
   go_wp2_with fail
   have hrow := ((HGw1.out.put 0 (.int .u64 0)).put 1 (.bool true)).put 2 (.int .i64 xp)
   exact bodyPost_ret (ret_cell rfl _ _ (w.heap.size + 2) _ _ (0, 0) _ rfl hrow Tryz.underlying61 rfl (got11_info _ _ _)) rfl ⟨by rw [HE.out]; rfl, ((HBw1.out.setCell (p := ⟨w.heap.size + 2, 0, none⟩) (Nat.le_add_right _ _) _).setCell (p := ⟨w.heap.size + 2, 1, none⟩) (Nat.le_add_right _ _) _).setCell (p := ⟨w.heap.size + 2, 2, none⟩) (Nat.le_add_right _ _) _⟩
 ·have HE2 := HE.out
  rw [if_neg e2] at HE2
  have ta : (kd == 2) = false := by simp [e2]
  by_cases e3 : kd = 3
  ·rw [if_pos e3] at HE2
   have tc : (kd == 3) = true := by simp [e3]
   by_cases e4 : xk = 5
   ·rw [if_pos e4] at HE2
    have tb : (xk != 5) = false := by simp [e4]
    clear e2 e3 e4
    clear HE
    have HE := Lib.hid HE2
    clear HE2
    go_enter Tryz.func25, Tryz.ntmps25
    go_upto_region 2 with fail
    generalize ((((w.alloc (.cells (fv f) 51)).alloc (.cells #[.int .i64 xk, .int .i64 xp, .string xs, .slice xA xw.length xc, .slice xB xz.length xd] 28)).alloc (.cells #[.int .u64 0, .bool false, .int .i64 0] 61)).alloc (.cells #[.int .u64 0, .bool true, .int .i64 xp] 61)) = w1 at *
    obtain ⟨c0, c1, c2, c3⟩ := HC.out _ HFw1.out
    obtain ⟨x0, x1, x2, x3, x4, _, _, _, _, _⟩ := row5 HXw1.out
    obtain ⟨r0, r1, r2, z0, z1, z2⟩ := row3 HGw1.out
    obtain ⟨b0, b1, b2, _, _, _⟩ := row3 HDw1.out
    go_wp2_with (refine wpList_loadFac (by rfl) _ rfl w.heap.size rfl f hl HFw1.out ?_)
    refine (HRL.out _ HBw1.out).mono ?_
    rintro e w2 ⟨rfl, hb⟩
    have HFw2 := Lib.hid (HFw1.out.below hb HFw1.out.lt)
    have HXw2 := Lib.hid (HXw1.out.below hb HXw1.out.lt)
    have HGw2 := Lib.hid (HGw1.out.below hb HGw1.out.lt)
    have HDw2 := Lib.hid (HDw1.out.below hb HDw1.out.lt)
    have HBw2 := Lib.hid (HBw1.out.trans (hb.mono HBw1.out.size))
    clear hb c0 c1 c2 c3 x0 x1 x2 x3 x4 r0 r1 r2 z0 z1 z2 b0 b1 b2
    obtain ⟨c0, c1, c2, c3⟩ := HC.out _ HFw2.out
    obtain ⟨x0, x1, x2, x3, x4, _, _, _, _, _⟩ := row5 HXw2.out
    obtain ⟨r0, r1, r2, z0, z1, z2⟩ := row3 HGw2.out
    obtain ⟨b0, b1, b2, _, _, _⟩ := row3 HDw2.out
    cases Q with
    | error p =>
      rw [show (gv (Except.error p) : Array Value) = #[.int .u64 0, .bool true, .int .i64 p] from rfl]
      go_wp2_with fail
      have hrow := ((HGw2.out.put 0 (.int .u64 0)).put 1 (.bool true)).put 2 (.int .i64 p)
      exact bodyPost_ret (ret_cell rfl _ _ (w.heap.size + 2) _ _ (0, 0) _ rfl hrow Tryz.underlying61 rfl (got11_info _ _ _)) rfl ⟨by rw [HE.out]; rfl, ((HBw2.out.setCell (p := ⟨w.heap.size + 2, 0, none⟩) (Nat.le_add_right _ _) _).setCell (p := ⟨w.heap.size + 2, 1, none⟩) (Nat.le_add_right _ _) _).setCell (p := ⟨w.heap.size + 2, 2, none⟩) (Nat.le_add_right _ _) _⟩
    | ok g =>
      rw [show (gv (Except.ok g) : Array Value) = #[.int .u64 (g : Int), .bool false, .int .i64 0] from rfl]
      go_wp2_with fail
      have hrow := ((HGw2.out.put 0 (.int .u64 (g : Int))).put 1 (.bool false)).put 2 (.int .i64 0)
      exact bodyPost_ret (ret_cell rfl _ _ (w.heap.size + 2) _ _ (0, 0) _ rfl hrow Tryz.underlying61 rfl (got11_info _ _ _)) rfl ⟨by rw [HE.out]; rfl, ((HBw2.out.setCell (p := ⟨w.heap.size + 2, 0, none⟩) (Nat.le_add_right _ _) _).setCell (p := ⟨w.heap.size + 2, 1, none⟩) (Nat.le_add_right _ _) _).setCell (p := ⟨w.heap.size + 2, 2, none⟩) (Nat.le_add_right _ _) _⟩
   ·rw [if_neg e4] at HE2
    have tb : (xk != 5) = true := by simp [e4]
    clear e2 e3 e4
    clear HE
    have HE := Lib.hid HE2
    clear HE2
    go_enter Tryz.func25, Tryz.ntmps25
    go_upto_region 2 with fail
    generalize ((((w.alloc (.cells (fv f) 51)).alloc (.cells #[.int .i64 xk, .int .i64 xp, .string xs, .slice xA xw.length xc, .slice xB xz.length xd] 28)).alloc (.cells #[.int .u64 0, .bool false, .int .i64 0] 61)).alloc (.cells #[.int .u64 0, .bool true, .int .i64 xp] 61)) = w1 at *
    obtain ⟨c0, c1, c2, c3⟩ := HC.out _ HFw1.out
    obtain ⟨x0, x1, x2, x3, x4, _, _, _, _, _⟩ := row5 HXw1.out
    obtain ⟨r0, r1, r2, z0, z1, z2⟩ := row3 HGw1.out
    obtain ⟨b0, b1, b2, _, _, _⟩ := row3 HDw1.out
    go_wp2_with fail
    have hrow := ((HGw1.out.put 0 (.int .u64 0)).put 1 (.bool true)).put 2 (.int .i64 xp)
    exact bodyPost_ret (ret_cell rfl _ _ (w.heap.size + 2) _ _ (0, 0) _ rfl hrow Tryz.underlying61 rfl (got11_info _ _ _)) rfl ⟨by rw [HE.out]; rfl, ((HBw1.out.setCell (p := ⟨w.heap.size + 2, 0, none⟩) (Nat.le_add_right _ _) _).setCell (p := ⟨w.heap.size + 2, 1, none⟩) (Nat.le_add_right _ _) _).setCell (p := ⟨w.heap.size + 2, 2, none⟩) (Nat.le_add_right _ _) _⟩
  ·rw [if_neg e3] at HE2
   have tc : (kd == 3) = false := by simp [e3]
   by_cases e4 : xk = 2
   ·have tb : (xk != 2) = false := by simp [e4]
    by_cases e5 : k < 0
    ·rw [if_neg (by omega)] at HE2
     clear e2 e3 e4
     clear HE
     have HE := Lib.hid HE2
     clear HE2
     go_enter Tryz.func25, Tryz.ntmps25
     go_upto_region 2 with fail
     generalize ((((w.alloc (.cells (fv f) 51)).alloc (.cells #[.int .i64 xk, .int .i64 xp, .string xs, .slice xA xw.length xc, .slice xB xz.length xd] 28)).alloc (.cells #[.int .u64 0, .bool false, .int .i64 0] 61)).alloc (.cells #[.int .u64 0, .bool true, .int .i64 xp] 61)) = w1 at *
     obtain ⟨c0, c1, c2, c3⟩ := HC.out _ HFw1.out
     obtain ⟨x0, x1, x2, x3, x4, _, _, _, _, _⟩ := row5 HXw1.out
     obtain ⟨r0, r1, r2, z0, z1, z2⟩ := row3 HGw1.out
     obtain ⟨b0, b1, b2, _, _, _⟩ := row3 HDw1.out
     go_wp2_with fail
     refine (HFI.out _ HBw1.out).mono ?_
     rintro e w' ⟨rfl, rfl⟩
     go_wp2_with fail
     have hrow := ((HGw1.out.put 0 (.int .u64 0)).put 1 (.bool true)).put 2 (.int .i64 xp)
     exact bodyPost_ret (ret_cell rfl _ _ (w.heap.size + 2) _ _ (0, 0) _ rfl hrow Tryz.underlying61 rfl (got11_info _ _ _)) rfl ⟨by rw [HE.out]; rfl, ((HBw1.out.setCell (p := ⟨w.heap.size + 2, 0, none⟩) (Nat.le_add_right _ _) _).setCell (p := ⟨w.heap.size + 2, 1, none⟩) (Nat.le_add_right _ _) _).setCell (p := ⟨w.heap.size + 2, 2, none⟩) (Nat.le_add_right _ _) _⟩
    ·rw [if_pos (by omega)] at HE2
     by_cases e6 : kd = 4
     ·rw [if_pos e6] at HE2
      have td : (kd == 4) = true := by simp [e6]
      clear e2 e3 e4 e6
      clear HE
      have HE := Lib.hid HE2
      clear HE2
      go_enter Tryz.func25, Tryz.ntmps25
      go_upto_region 2 with fail
      generalize ((((w.alloc (.cells (fv f) 51)).alloc (.cells #[.int .i64 xk, .int .i64 xp, .string xs, .slice xA xw.length xc, .slice xB xz.length xd] 28)).alloc (.cells #[.int .u64 0, .bool false, .int .i64 0] 61)).alloc (.cells #[.int .u64 0, .bool true, .int .i64 xp] 61)) = w1 at *
      obtain ⟨c0, c1, c2, c3⟩ := HC.out _ HFw1.out
      obtain ⟨x0, x1, x2, x3, x4, _, _, _, _, _⟩ := row5 HXw1.out
      obtain ⟨r0, r1, r2, z0, z1, z2⟩ := row3 HGw1.out
      obtain ⟨b0, b1, b2, _, _, _⟩ := row3 HDw1.out
      go_wp2_with fail
      refine (HFI.out _ HBw1.out).mono ?_
      rintro e w' ⟨rfl, rfl⟩
      go_wp2_with (refine wpList_loadRelIn (by rfl) _ rfl w.heap.size 2 rfl f.n f.l hl c3 ?_)
      refine (HHW.out k _).mono ?_
      rintro e w2 ⟨rfl, hb⟩
      have HFw2 := Lib.hid (HFw1.out.below hb HFw1.out.lt)
      have HXw2 := Lib.hid (HXw1.out.below hb HXw1.out.lt)
      have HGw2 := Lib.hid (HGw1.out.below hb HGw1.out.lt)
      have HDw2 := Lib.hid (HDw1.out.below hb HDw1.out.lt)
      have HBw2 := Lib.hid (HBw1.out.trans (hb.mono HBw1.out.size))
      clear hb c0 c1 c2 c3 x0 x1 x2 x3 x4 r0 r1 r2 z0 z1 z2 b0 b1 b2
      obtain ⟨c0, c1, c2, c3⟩ := HC.out _ HFw2.out
      obtain ⟨x0, x1, x2, x3, x4, _, _, _, _, _⟩ := row5 HXw2.out
      obtain ⟨r0, r1, r2, z0, z1, z2⟩ := row3 HGw2.out
      obtain ⟨b0, b1, b2, _, _, _⟩ := row3 HDw2.out
      rw [hwn]
      go_wp2_with fail
      have hrow := ((HGw2.out.put 0 (.int .u64 (wn : Int))).put 1 (.bool false)).put 2 (.int .i64 0)
      exact bodyPost_ret (ret_cell rfl _ _ (w.heap.size + 2) _ _ (0, 0) _ rfl hrow Tryz.underlying61 rfl (got11_info _ _ _)) rfl ⟨by rw [HE.out]; rfl, ((HBw2.out.setCell (p := ⟨w.heap.size + 2, 0, none⟩) (Nat.le_add_right _ _) _).setCell (p := ⟨w.heap.size + 2, 1, none⟩) (Nat.le_add_right _ _) _).setCell (p := ⟨w.heap.size + 2, 2, none⟩) (Nat.le_add_right _ _) _⟩
     ·rw [if_neg e6] at HE2
      have td : (kd == 4) = false := by simp [e6]
      clear e2 e3 e4 e6
      clear HE
      have HE := Lib.hid HE2
      clear HE2
      go_enter Tryz.func25, Tryz.ntmps25
      go_upto_region 2 with fail
      generalize ((((w.alloc (.cells (fv f) 51)).alloc (.cells #[.int .i64 xk, .int .i64 xp, .string xs, .slice xA xw.length xc, .slice xB xz.length xd] 28)).alloc (.cells #[.int .u64 0, .bool false, .int .i64 0] 61)).alloc (.cells #[.int .u64 0, .bool true, .int .i64 xp] 61)) = w1 at *
      obtain ⟨c0, c1, c2, c3⟩ := HC.out _ HFw1.out
      obtain ⟨x0, x1, x2, x3, x4, _, _, _, _, _⟩ := row5 HXw1.out
      obtain ⟨r0, r1, r2, z0, z1, z2⟩ := row3 HGw1.out
      obtain ⟨b0, b1, b2, _, _, _⟩ := row3 HDw1.out
      go_wp2_with fail
      refine (HFI.out _ HBw1.out).mono ?_
      rintro e w' ⟨rfl, rfl⟩
      go_wp2_with fail
      refine (HRW.out k _).mono ?_
      rintro e w2 ⟨rfl, hb⟩
      have HFw2 := Lib.hid (HFw1.out.below hb HFw1.out.lt)
      have HXw2 := Lib.hid (HXw1.out.below hb HXw1.out.lt)
      have HGw2 := Lib.hid (HGw1.out.below hb HGw1.out.lt)
      have HDw2 := Lib.hid (HDw1.out.below hb HDw1.out.lt)
      have HBw2 := Lib.hid (HBw1.out.trans (hb.mono HBw1.out.size))
      clear hb c0 c1 c2 c3 x0 x1 x2 x3 x4 r0 r1 r2 z0 z1 z2 b0 b1 b2
      obtain ⟨c0, c1, c2, c3⟩ := HC.out _ HFw2.out
      obtain ⟨x0, x1, x2, x3, x4, _, _, _, _, _⟩ := row5 HXw2.out
      obtain ⟨r0, r1, r2, z0, z1, z2⟩ := row3 HGw2.out
      obtain ⟨b0, b1, b2, _, _, _⟩ := row3 HDw2.out
      rw [hwr]
      go_wp2_with fail
      have hrow := ((HGw2.out.put 0 (.int .u64 (wr9 : Int))).put 1 (.bool false)).put 2 (.int .i64 0)
      exact bodyPost_ret (ret_cell rfl _ _ (w.heap.size + 2) _ _ (0, 0) _ rfl hrow Tryz.underlying61 rfl (got11_info _ _ _)) rfl ⟨by rw [HE.out]; rfl, ((HBw2.out.setCell (p := ⟨w.heap.size + 2, 0, none⟩) (Nat.le_add_right _ _) _).setCell (p := ⟨w.heap.size + 2, 1, none⟩) (Nat.le_add_right _ _) _).setCell (p := ⟨w.heap.size + 2, 2, none⟩) (Nat.le_add_right _ _) _⟩
   ·rw [if_neg (by omega)] at HE2
    have tb : (xk != 2) = true := by simp [e4]
    clear e2 e3 e4
    clear HE
    have HE := Lib.hid HE2
    clear HE2
    go_enter Tryz.func25, Tryz.ntmps25
    go_upto_region 2 with fail
    generalize ((((w.alloc (.cells (fv f) 51)).alloc (.cells #[.int .i64 xk, .int .i64 xp, .string xs, .slice xA xw.length xc, .slice xB xz.length xd] 28)).alloc (.cells #[.int .u64 0, .bool false, .int .i64 0] 61)).alloc (.cells #[.int .u64 0, .bool true, .int .i64 xp] 61)) = w1 at *
    obtain ⟨c0, c1, c2, c3⟩ := HC.out _ HFw1.out
    obtain ⟨x0, x1, x2, x3, x4, _, _, _, _, _⟩ := row5 HXw1.out
    obtain ⟨r0, r1, r2, z0, z1, z2⟩ := row3 HGw1.out
    obtain ⟨b0, b1, b2, _, _, _⟩ := row3 HDw1.out
    go_wp2_with fail
    refine (HFI.out _ HBw1.out).mono ?_
    rintro e w' ⟨rfl, rfl⟩
    go_wp2_with fail
    have hrow := ((HGw1.out.put 0 (.int .u64 0)).put 1 (.bool true)).put 2 (.int .i64 xp)
    exact bodyPost_ret (ret_cell rfl _ _ (w.heap.size + 2) _ _ (0, 0) _ rfl hrow Tryz.underlying61 rfl (got11_info _ _ _)) rfl ⟨by rw [HE.out]; rfl, ((HBw1.out.setCell (p := ⟨w.heap.size + 2, 0, none⟩) (Nat.le_add_right _ _) _).setCell (p := ⟨w.heap.size + 2, 1, none⟩) (Nat.le_add_right _ _) _).setCell (p := ⟨w.heap.size + 2, 2, none⟩) (Nat.le_add_right _ _) _⟩
end Go.Proofs.YtkgonoejnochjaaGreatDoor

