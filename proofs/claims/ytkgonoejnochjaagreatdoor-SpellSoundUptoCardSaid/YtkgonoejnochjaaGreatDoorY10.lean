/- Texts that all the claims need. Conditions: those that each states. -/

import Derived.Test.YtkgonoejnochjaaGreatDoorY0
set_option linter.unusedSimpArgs false
set_option linter.unusedVariables false
set_option maxRecDepth 8000
namespace Go.Proofs.YtkgonoejnochjaaGreatDoor.RG
def okR (n k : Int) : Bool := decide (0 ≤ k ∧ k < n ∧ n ≤ 64)
def wR (n k : Int) : Nat := if okR n k = true then MM.belowN k else 0
theorem rbelowN_lt (k : Int) : MM.belowN k < 18446744073709551616 := MM.ofP_lt _ _
theorem wR_lt (n k : Int) : wR n k < 18446744073709551616 := by
 unfold wR; split
 ·exact rbelowN_lt k
 ·omega
theorem wR_in {n k : Int} (h : okR n k = true) : wR n k = MM.belowN k := if_pos h
theorem wR_out {n k : Int} (h : okR n k = false) : wR n k = 0 := if_neg (by simp [h])
theorem ok_iff {n k : Int} : okR n k = true ↔ 0 ≤ k ∧ k < n ∧ n ≤ 64 := by simp [okR]
theorem no_iff {n k : Int} : okR n k = false ↔ ¬ (0 ≤ k ∧ k < n ∧ n ≤ 64) := by simp [okR]
theorem filter_len (k : Nat) : ∀ m, ((List.range m).filter fun i => decide (i < k)).length = min m k
 | 0 => by simp
 | m + 1 => by
   rw [List.range_succ, List.filter_append, List.length_append, filter_len k m]
   by_cases h : m < k
   ·simp [h]; omega
   ·simp [h]; omega
def rcnt (w : Nat) : Nat := (MM.els w).length
theorem cnt_below (k : Nat) (hk : k ≤ 64) : rcnt (MM.belowN k) = k := by
 have h : MM.els (MM.belowN k) = (List.range 64).filter fun i => decide (i < k) := by
  unfold MM.belowN
  rw [MM.els_ofP]
  refine List.filter_congr fun i _ => ?_
  rw [decide_eq_decide]
  omega
 unfold rcnt
 rw [h, filter_len]
 omega
def lvB (n : Int) (w : Nat) : Bool := okR n (rcnt w) && decide (MM.belowN (rcnt w) = w)
def lv (n : Int) (w : Nat) : Int := if lvB n w = true then (rcnt w : Int) else 0
theorem lv_in {n : Int} {w : Nat} (h : lvB n w = true) : lv n w = rcnt w := if_pos h
theorem lv_out {n : Int} {w : Nat} (h : lvB n w = false) : lv n w = 0 := if_neg (by simp [h])
theorem lv_of {n : Int} {w k : Nat} (h : okR n k = true) (hw : MM.belowN k = w) : lvB n w = true ∧ rcnt w = k := by
 have hk := ok_iff.1 h
 have hc : rcnt w = k := by rw [← hw]; exact cnt_below k (by omega)
 refine ⟨?_, hc⟩
 unfold lvB
 rw [hc, h, hw]; simp
end Go.Proofs.YtkgonoejnochjaaGreatDoor.RG
namespace Go.Proofs.YtkgonoejnochjaaGreatDoor
open Go.RowKit
theorem rungWord_any (n k : Int) (w : World) :
 Calls Tryz.prog 48 #[.int .i64 n, .int .i64 k] w fun e w' => e = .returned (.tuple #[.int .u64 (RG.wR n k : Int), .bool (RG.okR n k)]) ∧ w = w' := by
 cases hb : RG.okR n k with
 | true =>
   rw [RG.wR_in hb]
   obtain ⟨h1, h2, h3⟩ := RG.ok_iff.1 hb
   clear hb
   go_enter Tryz.func48, Tryz.ntmps48
   go_wp2_with (go_at_call 76; refine (below_any _ _).mono ?_; rintro e w' ⟨rfl, rfl⟩)
   go_ret2
   exact ⟨rfl, rfl⟩
 | false =>
   rw [RG.wR_out hb]
   have h := RG.no_iff.1 hb
   clear hb
   by_cases h1 : n > 64
   ·clear h
    go_enter Tryz.func48, Tryz.ntmps48
    go_wp2
    go_ret2
    exact ⟨rfl, rfl⟩
   ·by_cases h2 : k < 0
    ·clear h
     go_enter Tryz.func48, Tryz.ntmps48
     go_wp2
     go_ret2
     exact ⟨rfl, rfl⟩
    ·have h3 : n ≤ k := by omega
     clear h
     go_enter Tryz.func48, Tryz.ntmps48
     go_wp2
     go_ret2
     exact ⟨rfl, rfl⟩
theorem rungLevel_any (n : Int) (s : Nat) (hs : s < 18446744073709551616) (w : World) :
 Calls Tryz.prog 56 #[.int .i64 n, .int .u64 s] w fun e w' => e = .returned (.tuple #[.int .i64 (RG.lv n s), .bool (RG.lvB n s)]) ∧ w = w' := by
 go_enter Tryz.func56, Tryz.ntmps56
 go_wp2
 go_loop [6, 7, 10] (fun cv xv kv => ∃ k c : Nat, k ≤ 64 ∧ c ≤ 64 ∧ kv = .int .i64 k ∧ cv = .int .i64 c ∧ Hid (c = (MM.elsTo s k).length)) (fun _ _ kv => 64 - (intOf kv).toNat)
 case atStart => exact ⟨0, 0, by omega, by omega, rfl, rfl, by show 0 = (MM.elsTo s 0).length; rfl⟩
 case round =>
  obtain ⟨k, c, hk, hc, rfl, rfl, HC⟩ := hrel
  by_cases hlt : k < 64
  ·have hh := MM.hasN_in s k hlt
   have hs1 := MM.elsTo_succ s k
   have hle := MM.elsTo_length s (k + 1)
   have hcv := HC.out
   cases ht : s.testBit k with
   | true =>
     have hh2 : MM.hasN s k = true := hh.trans ht
     rw [ht] at hs1
     have hc1 : c + 1 = (MM.elsTo s (k + 1)).length := by rw [hs1, hcv]; simp
     have hc2 : c + 1 ≤ 64 := by omega
     have H1 := Lib.hid hc1
     clear hs1 hle hcv hh ht hc1
     go_wp2_with (go_at_call 102; refine (has_any s hs _ _).mono ?_; rintro e w' ⟨rfl, rfl⟩)
     go_round
     case rel => exact ⟨k + 1, c + 1, by omega, by omega, by go_num, by go_num, H1⟩
     case measure => simp [intOf]; omega
   | false =>
     have hh2 : MM.hasN s k = false := hh.trans ht
     rw [ht] at hs1
     have hc1 : c = (MM.elsTo s (k + 1)).length := by rw [hs1, hcv]; simp
     have H1 := Lib.hid hc1
     clear hs1 hle hcv hh ht hc1
     go_wp2_with (go_at_call 102; refine (has_any s hs _ _).mono ?_; rintro e w' ⟨rfl, rfl⟩)
     go_round
     case rel => exact ⟨k + 1, c, by omega, by omega, by go_num, by go_num, H1⟩
     case measure => simp [intOf]; omega
  ·have e : k = 64 := by omega
   subst e
   have hcv : c = RG.rcnt s := by rw [HC.out, MM.elsTo_64]; rfl
   have hwl := RG.wR_lt n c
   cases hok : RG.okR n c with
   | false =>
     have hl : RG.lvB n s = false := by unfold RG.lvB; rw [← hcv, hok]; rfl
     have HL := Lib.hid hl
     clear hl hcv HC
     go_wp2_with (go_at_call 48; refine (rungWord_any _ _ _).mono ?_; rintro e w' ⟨rfl, rfl⟩)
     go_ret2
     exact ⟨by rw [RG.lv_out HL.out, HL.out]; rfl, rfl⟩
   | true =>
     by_cases hw : MM.belowN c = s
     ·have hl := (RG.lv_of hok hw).1
      have hw2 : RG.wR n c = s := (RG.wR_in hok).trans hw
      have HL := Lib.hid hl
      have HV := Lib.hid hcv
      clear hl hcv HC hw
      go_wp2_with (go_at_call 48; refine (rungWord_any _ _ _).mono ?_; rintro e w' ⟨rfl, rfl⟩)
      go_ret2
      exact ⟨by rw [RG.lv_in HL.out, HL.out, ← HV.out]; rfl, rfl⟩
     ·have hl : RG.lvB n s = false := by unfold RG.lvB; rw [← hcv, hok]; simp [hw]
      have hw2 : ¬ RG.wR n c = s := by rw [RG.wR_in hok]; exact hw
      have hw3 : ¬ ((RG.wR n c : Nat) : Int) = ((s : Nat) : Int) := by omega
      have HL := Lib.hid hl
      clear hl hcv HC hw
      go_wp2_with (go_at_call 48; refine (rungWord_any _ _ _).mono ?_; rintro e w' ⟨rfl, rfl⟩)
      go_ret2
      exact ⟨by rw [RG.lv_out HL.out, HL.out]; rfl, rfl⟩
theorem rungRight_any (n : Int) (s : Nat) (hs : s < 18446744073709551616) (w : World) :
 Calls Tryz.prog 74 #[.int .i64 n, .int .u64 s] w fun e w' => e = .returned (.bool (RG.lvB n s)) ∧ w = w' := by
 go_enter Tryz.func74, Tryz.ntmps74
 go_wp2_with (go_at_call 56; refine (rungLevel_any n s hs _).mono ?_; rintro e w' ⟨rfl, rfl⟩)
 go_ret
 exact ⟨rfl, rfl⟩
end Go.Proofs.YtkgonoejnochjaaGreatDoor

