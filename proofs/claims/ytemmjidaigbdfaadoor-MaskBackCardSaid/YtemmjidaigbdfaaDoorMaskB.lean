/-
  What the functions of package mask and of its reference return that loop without making memory. Conditions: the table of math/bits in memory, where the least element is asked for; slices that read as lists.
-/
import Derived.Test.YtemmjidaigbdfaaDoorMaskA
import Derived.LoopTactic
import Derived.Deep.QuietTactic
import Derived.BigQuiet
namespace Go.Proofs.YtemmjidaigbdfaaDoor
open Go.RowKit

/-- The halving loop's step. -/
theorem halves (s k q : Nat) (h : q = s / 2 ^ k) : q / 2 = s / 2 ^ (k + 1) := by rw [h, MM.half_half]
theorem half_lt (s k : Nat) (hs : s < 18446744073709551616) : s / 2 ^ k < 18446744073709551616 := Nat.lt_of_le_of_lt (Nat.div_le_self _ _) hs

set_option maxHeartbeats 400000 in
theorem refHas_any (s : Nat) (hs : s < 18446744073709551616) (i : Int) (w : World) :
    Calls Tryd.prog 12 #[.int .u64 s, .int .i64 i] w fun e w' => e = .returned (.bool (MM.hasN s i)) ∧ w = w' := by
  by_cases h0 : i < 0
  · rw [MM.hasN_out s i (.inl h0)]
    go_enter Tryd.func12, Tryd.ntmps12
    go_wp2
    go_ret
    exact ⟨rfl, rfl⟩
  · by_cases h1 : 64 ≤ i
    · rw [MM.hasN_out s i (.inr h1)]
      go_enter Tryd.func12, Tryd.ntmps12
      go_wp2
      go_ret
      exact ⟨rfl, rfl⟩
    · obtain ⟨n, rfl⟩ := Int.eq_ofNat_of_zero_le (show 0 ≤ i by omega)
      rw [MM.hasN_in s n (by omega)]
      have hn : n ≤ 63 := by omega
      have hn0 : ¬ (63 < (n : Int)) := by omega
      clear h0 h1
      go_enter Tryd.func12, Tryd.ntmps12
      go_wp2
      go_loop [0, 5] (fun sv kv => ∃ k q : Nat, k ≤ n ∧ kv = .int .i64 k ∧ sv = .int .u64 q ∧ q < 18446744073709551616 ∧ Hid (q = s / 2 ^ k)) (fun _ kv => n - (intOf kv).toNat)
      case atStart => exact ⟨0, s, by omega, rfl, rfl, hs, by show s = s / 2 ^ 0; simp⟩
      case round =>
        obtain ⟨k, q, hk, rfl, rfl, hq, HQ⟩ := hrel
        by_cases hlt : k < n
        · go_wp2
          go_round
          case rel => exact ⟨k + 1, q / 2, by omega, by go_num, by go_num, by omega, halves s k q HQ.out⟩
          case measure => simp [intOf]; omega
        · have e : k = n := by omega
          have hb : ((q : Int) % 2 == 1) = s.testBit n := by
            have := HQ.out
            rw [e] at this
            have h2 := MM.half_bit s n
            rw [← this] at h2
            cases hbb : s.testBit n with
            | true => rw [hbb] at h2; have := h2.2 rfl; simp; omega
            | false => rw [hbb] at h2; simp at h2; simp; omega
          go_wp2
          go_ret
          exact ⟨rfl, rfl⟩

theorem nth_out (s : Nat) (hs : s < 18446744073709551616) (k : Int) (w : World) (h : k < 0 ∨ ((MM.els s).length : Int) ≤ k) :
    Calls Tryd.prog 22 #[.int .u64 s, .int .i64 k] w fun e w' => e = .returned (.tuple #[.int .i64 0, .bool false]) ∧ w = w' := by
  by_cases h0 : k < 0
  · go_enter Tryd.func22, Tryd.ntmps22
    go_wp2
    go_ret2
    exact ⟨rfl, rfl⟩
  · have h1 : ((MM.els s).length : Int) ≤ k := by omega
    clear h
    generalize hn : (MM.els s).length = n at *
    have HN := Lib.hid hn; clear hn
    go_enter Tryd.func22, Tryd.ntmps22
    go_wp2_with (go_at_call 18; refine (count_any _ hs _).mono ?_; rintro e w' ⟨rfl, rfl⟩; rw [HN.out])
    go_ret2
    exact ⟨rfl, rfl⟩
set_option maxHeartbeats 400000 in
theorem nth_in (s : Nat) (hs : s < 18446744073709551616) (k : Nat) (w : World) (hk : k < (MM.els s).length) (hT : Tab w) :
    Calls Tryd.prog 22 #[.int .u64 s, .int .i64 k] w fun e w' => e = .returned (.tuple #[.int .i64 ((MM.els s).getD k 0 : Nat), .bool true]) ∧ w = w' := by
  have HT := Lib.hid hT; clear hT
  have h64 := MM.els_length s
  generalize hn : (MM.els s).length = n at *
  have HN := Lib.hid hn; clear hn
  generalize hv : (MM.els s).getD k 0 = v at *
  have HV := Lib.hid hv; clear hv
  have h0 : ¬ ((k : Int) < 0) := by omega
  have h1 : decide (n ≤ k) = false := by simp; omega
  go_enter Tryd.func22, Tryd.ntmps22
  go_wp2_with (go_at_call 18; refine (count_any _ hs _).mono ?_; rintro e w' ⟨rfl, rfl⟩; rw [HN.out])
  go_loop [0, 15] (fun sv jv => ∃ j q : Nat, j ≤ k ∧ jv = .int .i64 j ∧ sv = .int .u64 q ∧ q < 18446744073709551616 ∧ Hid (MM.els q = (MM.els s).drop j)) (fun _ jv => k - (intOf jv).toNat)
  case atStart => exact ⟨0, s, by omega, rfl, rfl, hs, by show MM.els s = (MM.els s).drop 0; simp⟩
  case round =>
    obtain ⟨j, q, hj, rfl, rfl, hq, HQ⟩ := hrel
    have hq0 : q ≠ 0 := by
      intro h0
      have := HQ.out
      rw [h0, MM.els_zero] at this
      have h2 := congrArg List.length this
      rw [List.length_drop, HN.out] at h2
      simp at h2
      omega
    by_cases hlt : j < k
    · obtain ⟨t, ht, _, hq3, hq4⟩ := low_ex q hq hq0
      have H3 := Lib.hid hq3; clear hq3
      go_wp2_with (go_at_call 30; refine (rest_any _ hq hq0 _).mono ?_; rintro e w' ⟨rfl, rfl⟩)
      go_round
      case rel =>
        refine ⟨j + 1, q &&& (q - 1), by omega, by go_num, rfl, hq4, ?_⟩
        show MM.els (q &&& (q - 1)) = _
        rw [← List.drop_drop, ← HQ.out, H3.out]
        rfl
      case measure => simp [intOf]; omega
    · have e : j = k := by omega
      subst e
      obtain ⟨t, ht, hq2, hq3, hq4⟩ := low_ex q hq hq0
      have hvt : v = t := by
        have h5 := HQ.out
        rw [hq3] at h5
        rw [← HV.out, List.getD_eq_getElem?_getD]
        have h6 := List.getElem?_drop (xs := MM.els s) (i := j) (j := 0)
        rw [← h5] at h6
        simp at h6
        rw [← h6]
        rfl
      have H2 := Lib.hid hq2; clear hq2 hq3
      have HVT := Lib.hid hvt; clear hvt
      go_wp2_with (go_at_call 21; refine (least_pos _ t hq hq0 H2.out _ HT.out).mono ?_; rintro e w' ⟨rfl, rfl⟩)
      go_ret2
      rw [HVT.out]
      exact ⟨rfl, rfl⟩

/-- A slice of ints in memory. -/
def Ints (w : World) (A : Option Addr) (xs : List Int) : Prop := Sl w w.heap.size A (xs.map (Value.int .i64))
theorem Ints.below {w w' : World} {A : Option Addr} {xs : List Int} (h : Ints w A xs) (hb : Below w.heap.size w w') : Ints w' A xs := (Sl.below h hb).mono hb.size
theorem Ints.cell {w : World} {A : Option Addr} {xs : List Int} (h : Ints w A xs) (hne : xs ≠ []) : ∃ b o, A = some ⟨b, o, none⟩ ∧ ∀ j, j < xs.length → w.cell? ⟨b, o + j, none⟩ = some (.int .i64 (xs.getD j 0)) := by
  obtain ⟨b, o, hA, _, hc⟩ := Sl.at_ h (by simpa using hne)
  exact ⟨b, o, hA, fun j hj => hc j _ (by rw [List.getElem?_map, List.getElem?_eq_getElem hj, List.getD_eq_getElem?_getD, List.getElem?_eq_getElem hj]; rfl)⟩

theorem take_snoc (xs : List Int) (k : Nat) (h : k < xs.length) : xs.take (k + 1) = xs.take k ++ [xs.getD k 0] := by
  rw [List.take_succ_eq_append_getElem h, List.getD_eq_getElem?_getD, List.getElem?_eq_getElem h]; rfl

set_option maxHeartbeats 400000 in
theorem of_any (A : Option Addr) (c : Nat) (xs : List Int) (w : World) (hn : xs.length ≤ 4294967296) (hA : Ints w A xs) :
    Calls Tryd.prog 9 #[.slice A xs.length c] w fun e w' => e = .returned (.int .u64 (MM.ofN xs : Int)) ∧ w = w' := by
  have HA := Lib.hid hA; clear hA
  generalize hl : xs.length = n at *
  have HL := Lib.hid hl; clear hl
  go_enter Tryd.func9, Tryd.ntmps9
  go_wp2
  go_loop [3, 5, 8] (fun sv _ kv => ∃ k q : Nat, k ≤ n ∧ kv = .int .i64 k ∧ sv = .int .u64 q ∧ q < 18446744073709551616 ∧ Hid (q = MM.ofN (xs.take k))) (fun _ _ kv => n - (intOf kv).toNat)
  case atStart => exact ⟨0, 0, by omega, rfl, rfl, by omega, by show 0 = MM.ofN (xs.take 0); rw [List.take_zero, MM.ofN_nil]⟩
  case round =>
    obtain ⟨k, q, hk, rfl, rfl, hq, HQ⟩ := hrel
    by_cases hlt : k < n
    · obtain ⟨b, o, rfl, hc⟩ := HA.out.cell (by intro h; rw [h] at HL; have := HL.out; simp at this; omega)
      have hck := hc k (by rw [HL.out]; exact hlt)
      clear hc
      generalize hx : xs.getD k 0 = x at *
      have HX := Lib.hid hx; clear hx
      go_wp2_with (go_at_call 15; refine (with_any q hq _ _).mono ?_; rintro e w' ⟨rfl, rfl⟩)
      go_round
      case rel =>
        refine ⟨k + 1, MM.withN q x, by omega, by go_num, rfl, MM.withN_lt hq _, ?_⟩
        show MM.withN q x = _
        rw [take_snoc xs k (by rw [HL.out]; exact hlt), MM.ofN_snoc, ← HQ.out, HX.out]
      case measure => simp [intOf]; omega
    · have e : k = n := by omega
      have hr : q = MM.ofN xs := by have := HQ.out; rw [List.take_of_length_le (by rw [HL.out]; omega)] at this; exact this
      have HR := Lib.hid hr; clear hr
      go_wp2
      go_ret
      rw [HR.out]
      exact ⟨rfl, rfl⟩
end Go.Proofs.YtemmjidaigbdfaaDoor
