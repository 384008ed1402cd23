/-
  What the functions of package rung and of its reference return. Conditions: words below 2^64.
-/
import Derived.Test.YtojbmahapomoeaaRungMath
import Derived.Test.YtojbmahapomoeaaMaskD
namespace Go.Proofs.Ytojbmahapomoeaa
open Go.RowKit

theorem rungWord_any (n k : Int) (w : World) :
    Calls Try.prog 6 #[.int .i64 n, .int .i64 k] w fun e w' => e = .returned (.tuple #[.int .u64 (RG.wR n k : Int), .bool (RG.okR n k)]) ∧ w = w' := by
  cases hb : RG.okR n k with
  | true =>
    rw [RG.wR_in hb]
    obtain ⟨h1, h2, h3⟩ := RG.ok_iff.1 hb
    clear hb
    go_enter Try.func6, Try.ntmps6
    go_wp2_with (go_at_call 15; refine (below_any _ _).mono ?_; rintro e w' ⟨rfl, rfl⟩)
    go_ret2
    exact ⟨rfl, rfl⟩
  | false =>
    rw [RG.wR_out hb]
    have h := RG.no_iff.1 hb
    clear hb
    by_cases h1 : n > 64
    · clear h
      go_enter Try.func6, Try.ntmps6
      go_wp2
      go_ret2
      exact ⟨rfl, rfl⟩
    · by_cases h2 : k < 0
      · clear h
        go_enter Try.func6, Try.ntmps6
        go_wp2
        go_ret2
        exact ⟨rfl, rfl⟩
      · have h3 : n ≤ k := by omega
        clear h
        go_enter Try.func6, Try.ntmps6
        go_wp2
        go_ret2
        exact ⟨rfl, rfl⟩
theorem refWord_any (n k : Int) (w : World) :
    Calls Try.prog 7 #[.int .i64 n, .int .i64 k] w fun e w' => e = .returned (.tuple #[.int .u64 (RG.wR n k : Int), .bool (RG.okR n k)]) ∧ Below w.heap.size w w' := by
  cases hb : RG.okR n k with
  | true =>
    rw [RG.wR_in hb]
    obtain ⟨h1, h2, h3⟩ := RG.ok_iff.1 hb
    have h4 : 1 ≤ n := by omega
    clear hb
    go_enter Try.func7, Try.ntmps7
    go_wp2_with (go_at_call 16; refine (refBelow_any _ _).mono ?_; rintro e w' ⟨rfl, HB⟩; have HB := Lib.hid HB)
    go_ret2
    exact ⟨rfl, HB.out⟩
  | false =>
    rw [RG.wR_out hb]
    have h := RG.no_iff.1 hb
    clear hb
    by_cases h0 : n < 1
    · clear h
      go_enter Try.func7, Try.ntmps7
      go_wp2
      go_ret2
      exact ⟨rfl, Below.refl _ _⟩
    · by_cases h1 : n > 64
      · clear h
        go_enter Try.func7, Try.ntmps7
        go_wp2
        go_ret2
        exact ⟨rfl, Below.refl _ _⟩
      · by_cases h2 : k < 0
        · clear h
          go_enter Try.func7, Try.ntmps7
          go_wp2
          go_ret2
          exact ⟨rfl, Below.refl _ _⟩
        · have h3 : n ≤ k := by omega
          clear h
          go_enter Try.func7, Try.ntmps7
          go_wp2
          go_ret2
          exact ⟨rfl, Below.refl _ _⟩

theorem rungLevel_any (n : Int) (s : Nat) (hs : s < 18446744073709551616) (w : World) :
    Calls Try.prog 8 #[.int .i64 n, .int .u64 s] w fun e w' => e = .returned (.tuple #[.int .i64 (RG.lv n s), .bool (RG.lvB n s)]) ∧ w = w' := by
  go_enter Try.func8, Try.ntmps8
  go_wp2
  go_loop [6, 7, 10] (fun cv xv kv => ∃ k c : Nat, k ≤ 64 ∧ c ≤ 64 ∧ kv = .int .i64 k ∧ cv = .int .i64 c ∧ Hid (c = (MM.elsTo s k).length)) (fun _ _ kv => 64 - (intOf kv).toNat)
  case atStart => exact ⟨0, 0, by omega, by omega, rfl, rfl, by show 0 = (MM.elsTo s 0).length; rfl⟩
  case round =>
    obtain ⟨k, c, hk, hc, rfl, rfl, HC⟩ := hrel
    by_cases hlt : k < 64
    · have hh := MM.hasN_in s k hlt
      have hs1 := MM.elsTo_succ s k
      have hle := MM.elsTo_length s (k + 1)
      have hcv := HC.out
      cases ht : s.testBit k with
      | true =>
        have hh2 : MM.hasN s k = true := hh.trans ht
        rw [ht] at hs1
        have hc1 : c + 1 = (MM.elsTo s (k + 1)).length := by rw [hs1, hcv]; simp
        have hc2 : c + 1 ≤ 64 := by omega
        have H1 := Lib.hid hc1
        clear hs1 hle hcv hh ht hc1
        go_wp2_with (go_at_call 17; refine (has_any s hs _ _).mono ?_; rintro e w' ⟨rfl, rfl⟩)
        go_round
        case rel => exact ⟨k + 1, c + 1, by omega, by omega, by go_num, by go_num, H1⟩
        case measure => simp [intOf]; omega
      | false =>
        have hh2 : MM.hasN s k = false := hh.trans ht
        rw [ht] at hs1
        have hc1 : c = (MM.elsTo s (k + 1)).length := by rw [hs1, hcv]; simp
        have H1 := Lib.hid hc1
        clear hs1 hle hcv hh ht hc1
        go_wp2_with (go_at_call 17; refine (has_any s hs _ _).mono ?_; rintro e w' ⟨rfl, rfl⟩)
        go_round
        case rel => exact ⟨k + 1, c, by omega, by omega, by go_num, by go_num, H1⟩
        case measure => simp [intOf]; omega
    · have e : k = 64 := by omega
      subst e
      have hcv : c = RG.cnt s := by rw [HC.out, MM.elsTo_64]; rfl
      have hwl := RG.wR_lt n c
      cases hok : RG.okR n c with
      | false =>
        have hl : RG.lvB n s = false := by unfold RG.lvB; rw [← hcv, hok]; rfl
        have HL := Lib.hid hl
        clear hl hcv HC
        go_wp2_with (go_at_call 6; refine (rungWord_any _ _ _).mono ?_; rintro e w' ⟨rfl, rfl⟩)
        go_ret2
        exact ⟨by rw [RG.lv_out HL.out, HL.out]; rfl, rfl⟩
      | true =>
        by_cases hw : MM.belowN c = s
        · have hl := (RG.lv_of hok hw).1
          have hw2 : RG.wR n c = s := (RG.wR_in hok).trans hw
          have HL := Lib.hid hl
          have HV := Lib.hid hcv
          clear hl hcv HC hw
          go_wp2_with (go_at_call 6; refine (rungWord_any _ _ _).mono ?_; rintro e w' ⟨rfl, rfl⟩)
          go_ret2
          exact ⟨by rw [RG.lv_in HL.out, HL.out, ← HV.out]; rfl, rfl⟩
        · have hl : RG.lvB n s = false := by unfold RG.lvB; rw [← hcv, hok]; simp [hw]
          have hw2 : ¬ RG.wR n c = s := by rw [RG.wR_in hok]; exact hw
          have hw3 : ¬ ((RG.wR n c : Nat) : Int) = ((s : Nat) : Int) := by omega
          have HL := Lib.hid hl
          clear hl hcv HC hw
          go_wp2_with (go_at_call 6; refine (rungWord_any _ _ _).mono ?_; rintro e w' ⟨rfl, rfl⟩)
          go_ret2
          exact ⟨by rw [RG.lv_out HL.out, HL.out]; rfl, rfl⟩

theorem rungRight_any (n : Int) (s : Nat) (hs : s < 18446744073709551616) (w : World) :
    Calls Try.prog 10 #[.int .i64 n, .int .u64 s] w fun e w' => e = .returned (.bool (RG.lvB n s)) ∧ w = w' := by
  go_enter Try.func10, Try.ntmps10
  go_wp2_with (go_at_call 8; refine (rungLevel_any n s hs _).mono ?_; rintro e w' ⟨rfl, rfl⟩)
  go_ret
  exact ⟨rfl, rfl⟩
theorem rungTop_any (n : Int) (w : World) :
    Calls Try.prog 13 #[.int .i64 n] w fun e w' => e = .returned (.int .u64 (RG.wR n (wrap64 (n - 1)) : Int)) ∧ w = w' := by
  go_enter Try.func13, Try.ntmps13
  go_wp2_with (go_at_call 6; refine (rungWord_any _ _ _).mono ?_; rintro e w' ⟨rfl, rfl⟩)
  go_ret
  exact ⟨rfl, rfl⟩

set_option maxHeartbeats 800000 in
theorem refLevel_any (n : Int) (s : Nat) (w : World) :
    Calls Try.prog 9 #[.int .i64 n, .int .u64 s] w fun e w' => e = .returned (.tuple #[.int .i64 (RG.lv n s), .bool (RG.lvB n s)]) ∧ Below w.heap.size w w' := by
  go_enter Try.func9, Try.ntmps9
  go_wp2
  go_loopw [6] (fun kv wr => ∃ k : Nat, k ≤ 64 ∧ kv = .int .i64 k ∧ Hid (∀ j, j < k → ¬ (RG.okR n j = true ∧ MM.belowN j = s)) ∧ Hid (Below w.heap.size w wr)) (fun kv _ => 64 - (intOf kv).toNat)
  case atStart => exact ⟨0, by omega, rfl, (fun j hj => by omega), Below.refl _ _⟩
  case round =>
    obtain ⟨k, hk, rfl, HN, HB⟩ := hrel
    by_cases h1 : (k : Int) < n
    · by_cases h2 : k < 64
      · have hwl := RG.wR_lt n k
        cases hok : RG.okR n k with
        | false =>
          have HN2 : Hid (∀ j, j < k + 1 → ¬ (RG.okR n j = true ∧ MM.belowN j = s)) := by
            show ∀ j, j < k + 1 → ¬ (RG.okR n j = true ∧ MM.belowN j = s)
            intro j hj
            by_cases hjk : j = k
            · subst hjk; rw [hok]; simp
            · exact HN.out j (by omega)
          clear HN
          go_wp2_with fail
          refine (refWord_any n k _).mono ?_
          rintro e w2 ⟨rfl, hb2⟩
          rw [hok]
          have HB2 := Lib.hid (HB.out.trans (hb2.mono HB.out.size)); clear hb2 hok
          go_wp2
          go_roundw
          case rel => exact ⟨k + 1, by omega, by go_num, HN2, HB2⟩
          case measure => simp [intOf]; omega
        | true =>
          by_cases hw : MM.belowN k = s
          · have hl := (RG.lv_of hok hw).1
            have hc := (RG.lv_of hok hw).2
            have hw2 : RG.wR n k = s := (RG.wR_in hok).trans hw
            have hlv : RG.lv n s = k := by rw [RG.lv_in hl, hc]
            have HL := Lib.hid hl
            have HV := Lib.hid hlv
            clear hl hlv hc hw HN
            go_wp2_with fail
            refine (refWord_any n k _).mono ?_
            rintro e w2 ⟨rfl, hb2⟩
            rw [hok, hw2]
            have HB2 := Lib.hid (HB.out.trans (hb2.mono HB.out.size)); clear hb2 hok
            go_wp2
            go_ret2
            exact ⟨by rw [HV.out, HL.out]; rfl, HB2.out⟩
          · have hw2 : ¬ RG.wR n k = s := by rw [RG.wR_in hok]; exact hw
            have hw3 : ¬ ((RG.wR n k : Nat) : Int) = ((s : Nat) : Int) := by omega
            have HN2 : Hid (∀ j, j < k + 1 → ¬ (RG.okR n j = true ∧ MM.belowN j = s)) := by
              show ∀ j, j < k + 1 → ¬ (RG.okR n j = true ∧ MM.belowN j = s)
              intro j hj
              by_cases hjk : j = k
              · subst hjk; exact fun h => hw h.2
              · exact HN.out j (by omega)
            clear HN hw
            go_wp2_with fail
            refine (refWord_any n k _).mono ?_
            rintro e w2 ⟨rfl, hb2⟩
            rw [hok]
            have HB2 := Lib.hid (HB.out.trans (hb2.mono HB.out.size)); clear hb2 hok
            go_wp2
            go_roundw
            case rel => exact ⟨k + 1, by omega, by go_num, HN2, HB2⟩
            case measure => simp [intOf]; omega
      · have hl := RG.lv_none (n := n) (w := s) (m := k) (.inr (by omega)) HN.out
        have HL := Lib.hid hl
        clear hl HN
        go_wp2
        go_ret2
        exact ⟨by rw [RG.lv_out HL.out, HL.out]; rfl, HB.out⟩
    · have hl := RG.lv_none (n := n) (w := s) (m := k) (.inl (by omega)) HN.out
      have HL := Lib.hid hl
      clear hl HN
      go_wp2
      go_ret2
      exact ⟨by rw [RG.lv_out HL.out, HL.out]; rfl, HB.out⟩
theorem word_4 (w : World) : Calls Try.prog 6 #[.int .i64 4, .int .i64 3] w fun e w' => e = .returned (.tuple #[.int .u64 7, .bool true]) ∧ w = w' := by
  have h := rungWord_any 4 3 w
  have h1 : RG.okR 4 3 = true := by decide
  have h2 : RG.wR 4 3 = 7 := by decide
  rw [h1, h2] at h; exact h
theorem level_5 (w : World) : Calls Try.prog 8 #[.int .i64 4, .int .u64 5] w fun e w' => e = .returned (.tuple #[.int .i64 0, .bool false]) ∧ w = w' := by
  have h := rungLevel_any 4 5 (by decide) w
  have h1 : RG.lvB 4 5 = false := by decide
  rw [RG.lv_out h1, h1] at h; exact h
theorem top_4 (w : World) : Calls Try.prog 13 #[.int .i64 4] w fun e w' => e = .returned (.int .u64 7) ∧ w = w' := by
  have h := rungTop_any 4 w
  have h2 : RG.wR 4 (wrap64 (4 - 1)) = 7 := by rw [show wrap64 (4 - 1) = 3 by unfold wrap64; omega]; decide
  rw [h2] at h; exact h
theorem alive_any (w : World) : Calls Try.prog 11 #[] w fun e w' => e = .returned (.bool true) ∧ w = w' := by
  go_enter Try.func11, Try.ntmps11
  go_wp2_with fail
  refine (word_4 _).mono ?_
  rintro e w1 ⟨rfl, rfl⟩
  go_wp2_with fail
  refine (level_5 _).mono ?_
  rintro e w1 ⟨rfl, rfl⟩
  go_wp2_with fail
  refine (top_4 _).mono ?_
  rintro e w1 ⟨rfl, rfl⟩
  go_wp2
  go_ret
  exact ⟨rfl, rfl⟩
end Go.Proofs.Ytojbmahapomoeaa
