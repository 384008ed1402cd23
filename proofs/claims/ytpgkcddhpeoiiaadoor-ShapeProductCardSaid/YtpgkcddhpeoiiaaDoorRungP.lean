/-
  Numbers of layer 4: which numbers are levels, the words of levels, how many elements they have. Conditions: none.
-/
import Derived.Test.YtpgkcddhpeoiiaaDoorBaseA
namespace Go.Proofs.YtpgkcddhpeoiiaaDoor.RG

def okR (n k : Int) : Bool := decide (0 ≤ k ∧ k < n ∧ n ≤ 64)
def wR (n k : Int) : Nat := if okR n k = true then MM.belowN k else 0
set_option maxRecDepth 8000 in
theorem rbelowN_lt (k : Int) : MM.belowN k < 18446744073709551616 := MM.ofP_lt _ _
set_option maxRecDepth 8000 in
theorem wR_lt (n k : Int) : wR n k < 18446744073709551616 := by
  unfold wR; split
  · exact rbelowN_lt k
  · omega
set_option maxRecDepth 8000 in
theorem wR_in {n k : Int} (h : okR n k = true) : wR n k = MM.belowN k := if_pos h
set_option maxRecDepth 8000 in
theorem wR_out {n k : Int} (h : okR n k = false) : wR n k = 0 := if_neg (by simp [h])
set_option maxRecDepth 8000 in
theorem ok_iff {n k : Int} : okR n k = true ↔ 0 ≤ k ∧ k < n ∧ n ≤ 64 := by simp [okR]
set_option maxRecDepth 8000 in
theorem no_iff {n k : Int} : okR n k = false ↔ ¬ (0 ≤ k ∧ k < n ∧ n ≤ 64) := by simp [okR]
set_option maxRecDepth 8000 in
theorem filter_len (k : Nat) : ∀ m, ((List.range m).filter fun i => decide (i < k)).length = min m k
  | 0 => by simp
  | m + 1 => by
    rw [List.range_succ, List.filter_append, List.length_append, filter_len k m]
    by_cases h : m < k
    · simp [h]; omega
    · simp [h]; omega
/-- How many elements a set has. -/
def rcnt (w : Nat) : Nat := (MM.els w).length
set_option maxRecDepth 8000 in
theorem rcnt_le (w : Nat) : rcnt w ≤ 64 := MM.els_length w
set_option maxRecDepth 8000 in
theorem cnt_below (k : Nat) (hk : k ≤ 64) : rcnt (MM.belowN k) = k := by
  have h : MM.els (MM.belowN k) = (List.range 64).filter fun i => decide (i < k) := by
    unfold MM.belowN
    rw [MM.els_ofP]
    refine List.filter_congr fun i _ => ?_
    rw [decide_eq_decide]
    omega
  unfold rcnt
  rw [h, filter_len]
  omega
def lvB (n : Int) (w : Nat) : Bool := okR n (rcnt w) && decide (MM.belowN (rcnt w) = w)
def lv (n : Int) (w : Nat) : Int := if lvB n w = true then (rcnt w : Int) else 0
set_option maxRecDepth 8000 in
theorem lv_in {n : Int} {w : Nat} (h : lvB n w = true) : lv n w = rcnt w := if_pos h
set_option maxRecDepth 8000 in
theorem lv_out {n : Int} {w : Nat} (h : lvB n w = false) : lv n w = 0 := if_neg (by simp [h])
set_option maxRecDepth 8000 in
/-- A level's word is of that level. -/
theorem lv_of {n : Int} {w k : Nat} (h : okR n k = true) (hw : MM.belowN k = w) : lvB n w = true ∧ rcnt w = k := by
  have hk := ok_iff.1 h
  have hc : rcnt w = k := by rw [← hw]; exact cnt_below k (by omega)
  refine ⟨?_, hc⟩
  unfold lvB
  rw [hc, h, hw]; simp
set_option maxRecDepth 8000 in
theorem lv_none {n : Int} {w m : Nat} (hm : n ≤ m ∨ 64 ≤ m) (h : ∀ j, j < m → ¬ (okR n j = true ∧ MM.belowN j = w)) : lvB n w = false := by
  cases hb : lvB n w with
  | false => rfl
  | true =>
    unfold lvB at hb
    rw [Bool.and_eq_true, decide_eq_true_eq] at hb
    have h1 := ok_iff.1 hb.1
    exact absurd hb (h (rcnt w) (by omega))
set_option maxRecDepth 8000 in
theorem els_below_bit (k : Int) (i : Nat) : (MM.belowN k).testBit i = (decide (i < 64) && decide ((i : Int) < k)) := MM.ofP_bit _ _ _
set_option maxRecDepth 8000 in
theorem sub_below (i j : Int) (hi : i ≤ 64) (hj : 0 ≤ j) : MM.subN (MM.belowN i) (MM.belowN j) = decide (i ≤ j) := by
  unfold MM.subN
  rw [Bool.eq_iff_iff, List.all_eq_true, decide_eq_true_eq]
  constructor
  · intro h
    rcases Int.lt_or_le j i with hlt | hle
    · exfalso
      have h2 := h (i.toNat - 1)
      rw [MM.mem_els, els_below_bit, els_below_bit] at h2
      have h3 := h2 ⟨by omega, by rw [Bool.and_eq_true, decide_eq_true_eq, decide_eq_true_eq]; omega⟩
      rw [Bool.and_eq_true, decide_eq_true_eq, decide_eq_true_eq] at h3
      omega
    · exact hle
  · intro h k hk
    rw [MM.mem_els, els_below_bit, Bool.and_eq_true, decide_eq_true_eq, decide_eq_true_eq] at hk
    rw [els_below_bit, Bool.and_eq_true, decide_eq_true_eq, decide_eq_true_eq]
    omega
set_option maxRecDepth 8000 in
theorem or_below (i j : Int) : MM.belowN i ||| MM.belowN j = MM.belowN (max i j) := by
  refine MM.ext64 (Nat.or_lt_two_pow (rbelowN_lt i) (rbelowN_lt j)) (rbelowN_lt _) fun k hk => ?_
  rw [Nat.testBit_or, els_below_bit, els_below_bit, els_below_bit, Bool.eq_iff_iff]
  simp [hk]; omega
set_option maxRecDepth 8000 in
theorem and_below (i j : Int) : MM.belowN i &&& MM.belowN j = MM.belowN (min i j) := by
  refine MM.ext64 (Nat.and_lt_two_pow _ (rbelowN_lt j)) (rbelowN_lt _) fun k hk => ?_
  rw [Nat.testBit_and, els_below_bit, els_below_bit, els_below_bit, Bool.eq_iff_iff]
  simp [hk]; omega
end Go.Proofs.YtpgkcddhpeoiiaaDoor.RG

/-
  What the functions of package rung and of its reference return. Conditions: words below 2^64.
-/
namespace Go.Proofs.YtpgkcddhpeoiiaaDoor
open Go.RowKit

set_option maxRecDepth 8000 in
theorem rungWord_any (n k : Int) (w : World) :
    Calls Tryd.prog 62 #[.int .i64 n, .int .i64 k] w fun e w' => e = .returned (.tuple #[.int .u64 (RG.wR n k : Int), .bool (RG.okR n k)]) ∧ w = w' := by
  cases hb : RG.okR n k with
  | true =>
    rw [RG.wR_in hb]
    obtain ⟨h1, h2, h3⟩ := RG.ok_iff.1 hb
    clear hb
    go_enter Tryd.func62, Tryd.ntmps62
    go_wp2_with (go_at_call 37; refine (below_any _ _).mono ?_; rintro e w' ⟨rfl, rfl⟩)
    go_ret2
    exact ⟨rfl, rfl⟩
  | false =>
    rw [RG.wR_out hb]
    have h := RG.no_iff.1 hb
    clear hb
    by_cases h1 : n > 64
    · clear h
      go_enter Tryd.func62, Tryd.ntmps62
      go_wp2
      go_ret2
      exact ⟨rfl, rfl⟩
    · by_cases h2 : k < 0
      · clear h
        go_enter Tryd.func62, Tryd.ntmps62
        go_wp2
        go_ret2
        exact ⟨rfl, rfl⟩
      · have h3 : n ≤ k := by omega
        clear h
        go_enter Tryd.func62, Tryd.ntmps62
        go_wp2
        go_ret2
        exact ⟨rfl, rfl⟩
set_option maxRecDepth 8000 in
theorem rungLevel_any (n : Int) (s : Nat) (hs : s < 18446744073709551616) (w : World) :
    Calls Tryd.prog 59 #[.int .i64 n, .int .u64 s] w fun e w' => e = .returned (.tuple #[.int .i64 (RG.lv n s), .bool (RG.lvB n s)]) ∧ w = w' := by
  go_enter Tryd.func59, Tryd.ntmps59
  go_wp2
  go_loop [6, 7, 10] (fun cv xv kv => ∃ k c : Nat, k ≤ 64 ∧ c ≤ 64 ∧ kv = .int .i64 k ∧ cv = .int .i64 c ∧ Hid (c = (MM.elsTo s k).length)) (fun _ _ kv => 64 - (intOf kv).toNat)
  case atStart => exact ⟨0, 0, by omega, by omega, rfl, rfl, by show 0 = (MM.elsTo s 0).length; rfl⟩
  case round =>
    obtain ⟨k, c, hk, hc, rfl, rfl, HC⟩ := hrel
    by_cases hlt : k < 64
    · have hh := MM.hasN_in s k hlt
      have hs1 := MM.elsTo_succ s k
      have hle := MM.elsTo_length s (k + 1)
      have hcv := HC.out
      cases ht : s.testBit k with
      | true =>
        have hh2 : MM.hasN s k = true := hh.trans ht
        rw [ht] at hs1
        have hc1 : c + 1 = (MM.elsTo s (k + 1)).length := by rw [hs1, hcv]; simp
        have hc2 : c + 1 ≤ 64 := by omega
        have H1 := Lib.hid hc1
        clear hs1 hle hcv hh ht hc1
        go_wp2_with (go_at_call 76; refine (has_any s hs _ _).mono ?_; rintro e w' ⟨rfl, rfl⟩)
        go_round
        case rel => exact ⟨k + 1, c + 1, by omega, by omega, by go_num, by go_num, H1⟩
        case measure => simp [intOf]; omega
      | false =>
        have hh2 : MM.hasN s k = false := hh.trans ht
        rw [ht] at hs1
        have hc1 : c = (MM.elsTo s (k + 1)).length := by rw [hs1, hcv]; simp
        have H1 := Lib.hid hc1
        clear hs1 hle hcv hh ht hc1
        go_wp2_with (go_at_call 76; refine (has_any s hs _ _).mono ?_; rintro e w' ⟨rfl, rfl⟩)
        go_round
        case rel => exact ⟨k + 1, c, by omega, by omega, by go_num, by go_num, H1⟩
        case measure => simp [intOf]; omega
    · have e : k = 64 := by omega
      subst e
      have hcv : c = RG.rcnt s := by rw [HC.out, MM.elsTo_64]; rfl
      have hwl := RG.wR_lt n c
      cases hok : RG.okR n c with
      | false =>
        have hl : RG.lvB n s = false := by unfold RG.lvB; rw [← hcv, hok]; rfl
        have HL := Lib.hid hl
        clear hl hcv HC
        go_wp2_with (go_at_call 62; refine (rungWord_any _ _ _).mono ?_; rintro e w' ⟨rfl, rfl⟩)
        go_ret2
        exact ⟨by rw [RG.lv_out HL.out, HL.out]; rfl, rfl⟩
      | true =>
        by_cases hw : MM.belowN c = s
        · have hl := (RG.lv_of hok hw).1
          have hw2 : RG.wR n c = s := (RG.wR_in hok).trans hw
          have HL := Lib.hid hl
          have HV := Lib.hid hcv
          clear hl hcv HC hw
          go_wp2_with (go_at_call 62; refine (rungWord_any _ _ _).mono ?_; rintro e w' ⟨rfl, rfl⟩)
          go_ret2
          exact ⟨by rw [RG.lv_in HL.out, HL.out, ← HV.out]; rfl, rfl⟩
        · have hl : RG.lvB n s = false := by unfold RG.lvB; rw [← hcv, hok]; simp [hw]
          have hw2 : ¬ RG.wR n c = s := by rw [RG.wR_in hok]; exact hw
          have hw3 : ¬ ((RG.wR n c : Nat) : Int) = ((s : Nat) : Int) := by omega
          have HL := Lib.hid hl
          clear hl hcv HC hw
          go_wp2_with (go_at_call 62; refine (rungWord_any _ _ _).mono ?_; rintro e w' ⟨rfl, rfl⟩)
          go_ret2
          exact ⟨by rw [RG.lv_out HL.out, HL.out]; rfl, rfl⟩

set_option maxRecDepth 8000 in
theorem rungRight_any (n : Int) (s : Nat) (hs : s < 18446744073709551616) (w : World) :
    Calls Tryd.prog 35 #[.int .i64 n, .int .u64 s] w fun e w' => e = .returned (.bool (RG.lvB n s)) ∧ w = w' := by
  go_enter Tryd.func35, Tryd.ntmps35
  go_wp2_with (go_at_call 59; refine (rungLevel_any n s hs _).mono ?_; rintro e w' ⟨rfl, rfl⟩)
  go_ret
  exact ⟨rfl, rfl⟩
set_option maxRecDepth 8000 in
theorem rungTop_any (n : Int) (w : World) :
    Calls Tryd.prog 40 #[.int .i64 n] w fun e w' => e = .returned (.int .u64 (RG.wR n (wrap64 (n - 1)) : Int)) ∧ w = w' := by
  go_enter Tryd.func40, Tryd.ntmps40
  go_wp2_with (go_at_call 62; refine (rungWord_any _ _ _).mono ?_; rintro e w' ⟨rfl, rfl⟩)
  go_ret
  exact ⟨rfl, rfl⟩

set_option maxRecDepth 8000 in
theorem word_4 (w : World) : Calls Tryd.prog 62 #[.int .i64 4, .int .i64 3] w fun e w' => e = .returned (.tuple #[.int .u64 7, .bool true]) ∧ w = w' := by
  have h := rungWord_any 4 3 w
  have h1 : RG.okR 4 3 = true := by decide
  have h2 : RG.wR 4 3 = 7 := by decide
  rw [h1, h2] at h; exact h
set_option maxRecDepth 8000 in
theorem level_5 (w : World) : Calls Tryd.prog 59 #[.int .i64 4, .int .u64 5] w fun e w' => e = .returned (.tuple #[.int .i64 0, .bool false]) ∧ w = w' := by
  have h := rungLevel_any 4 5 (by decide) w
  have h1 : RG.lvB 4 5 = false := by decide
  rw [RG.lv_out h1, h1] at h; exact h
set_option maxRecDepth 8000 in
theorem top_4 (w : World) : Calls Tryd.prog 40 #[.int .i64 4] w fun e w' => e = .returned (.int .u64 7) ∧ w = w' := by
  have h := rungTop_any 4 w
  have h2 : RG.wR 4 (wrap64 (4 - 1)) = 7 := by rw [show wrap64 (4 - 1) = 3 by unfold wrap64; omega]; decide
  rw [h2] at h; exact h
end Go.Proofs.YtpgkcddhpeoiiaaDoor
