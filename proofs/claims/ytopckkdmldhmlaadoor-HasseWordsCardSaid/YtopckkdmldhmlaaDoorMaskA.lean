/-
  What the small functions of package mask return, call by call. Conditions: the table of math/bits in memory, where a set is not empty and its least element is asked for.
-/
import Derived.Test.YtopckkdmldhmlaaDoorMaskMath
import Derived.Test.YtopckkdmldhmlaaDoorKit
import Derived.Laws.BitsAllLaws
import Derived.Laws.Bits64b
import Derived.Lib.TrailingZeros
import Derived.Lib.LaidTab
namespace Go.Proofs.YtopckkdmldhmlaaDoor
open Go.RowKit

/-- The table of math/bits, where it lies. -/
def Tab (w : World) : Prop := ∀ j, j < 64 → w.cell? ⟨0, j, none⟩ = some (.int .u8 (Lib.deBruijn64tab.getD j 0))

theorem single_any (i : Int) (w : World) :
    Calls Tryd.prog 49 #[.int .i64 i] w fun e w' => e = .returned (.int .u64 (MM.sg i : Int)) ∧ w = w' := by
  by_cases h0 : i < 0
  · have hz : MM.sg i = 0 := by unfold MM.sg; rw [if_neg (by omega)]
    rw [hz]
    go_enter Tryd.func49, Tryd.ntmps49
    go_wp2
    go_ret
    exact ⟨rfl, rfl⟩
  · by_cases h1 : i < 64
    · have hz : ((MM.sg i : Nat) : Int) = IntKind.u64.wrap (2 ^ i.toNat) := by
        have hp : (2 : Nat) ^ i.toNat < 2 ^ 64 := Nat.pow_lt_pow_right (by omega) (by omega)
        have hc : ((2 : Int) ^ i.toNat) = ((2 ^ i.toNat : Nat) : Int) := by simp
        unfold MM.sg
        rw [if_pos (by omega), IntKind.wrap_u64, hc]
        generalize 2 ^ i.toNat = n at *
        omega
      rw [hz]
      clear hz
      have h2 : 0 ≤ i := by omega
      clear h0
      go_enter Tryd.func49, Tryd.ntmps49
      go_wp2
      go_ret
      exact ⟨rfl, rfl⟩
    · have hz : MM.sg i = 0 := by unfold MM.sg; rw [if_neg (by omega)]
      rw [hz]
      go_enter Tryd.func49, Tryd.ntmps49
      go_wp2
      go_ret
      exact ⟨rfl, rfl⟩
theorem with_any (s : Nat) (hs : s < 18446744073709551616) (i : Int) (w : World) :
    Calls Tryd.prog 46 #[.int .u64 s, .int .i64 i] w fun e w' => e = .returned (.int .u64 (MM.withN s i : Int)) ∧ w = w' := by
  have e : bits BinOp.or IntKind.u64 (s : Int) (MM.sg i : Int) = ((MM.withN s i : Nat) : Int) := u64_or_nat s _ hs (MM.sg_lt i)
  go_enter Tryd.func46, Tryd.ntmps46
  go_wp2_with (go_at_call 49; refine (single_any _ _).mono ?_; rintro e w' ⟨rfl, rfl⟩)
  go_ret
  exact ⟨rfl, rfl⟩
theorem has_any (s : Nat) (hs : s < 18446744073709551616) (i : Int) (w : World) :
    Calls Tryd.prog 43 #[.int .u64 s, .int .i64 i] w fun e w' => e = .returned (.bool (MM.hasN s i)) ∧ w = w' := by
  have e : bits BinOp.and IntKind.u64 (s : Int) (MM.sg i : Int) = ((s &&& MM.sg i : Nat) : Int) := u64_and_nat s _ hs (MM.sg_lt i)
  rw [← MM.and_sg]
  go_enter Tryd.func43, Tryd.ntmps43
  go_wp2_with (go_at_call 49; refine (single_any _ _).mono ?_; rintro e w' ⟨rfl, rfl⟩)
  go_ret
  exact ⟨rfl, rfl⟩
theorem sub_any (a b : Nat) (ha : a < 18446744073709551616) (hb : b < 18446744073709551616) (w : World) :
    Calls Tryd.prog 27 #[.int .u64 a, .int .u64 b] w fun e w' => e = .returned (.bool (MM.subN a b)) ∧ w = w' := by
  have e : bits BinOp.andNot IntKind.u64 (a : Int) (b : Int) = ((a &&& (18446744073709551615 - b) : Nat) : Int) := u64_andNot_nat a b ha hb
  rw [← MM.sub_eq a b hb]
  go_enter Tryd.func27, Tryd.ntmps27
  go_wp2
  go_ret
  exact ⟨rfl, rfl⟩
theorem and127 (y : Nat) (h : y < 9223372036854775808) : bits BinOp.and IntKind.i64 (wrap64 ((y : Nat) : Int)) 127 = ((y % 128 : Nat) : Int) := by
  have e : wrap64 ((y : Nat) : Int) = ((y : Nat) : Int) := IntWalk.wrap64_in _ ⟨by omega, by omega⟩
  have h1 : (BitVec.ofInt 64 ((y : Nat) : Int)).toNat = y := by rw [BitVec.ofInt_natCast, BitVec.toNat_ofNat]; exact Nat.mod_eq_of_lt (by omega)
  have h2 : (BitVec.ofInt 64 127).toNat = 127 := by decide
  rw [e]
  show IntKind.i64.wrap ((BitVec.ofInt 64 ((y : Nat) : Int) &&& BitVec.ofInt 64 127).toNat : Int) = _
  rw [BitVec.toNat_and, h1, h2, show (127 : Nat) = 2 ^ 7 - 1 from rfl, Nat.and_two_pow_sub_one_eq_mod, IntWalk.i64_in _ ⟨by omega, by omega⟩]
theorem and_c (x c : Nat) (hx : x < 18446744073709551616) (hc : c < 18446744073709551616) : bits BinOp.and IntKind.u64 ((x : Nat) : Int) ((c : Nat) : Int) = ((x &&& c : Nat) : Int) := u64_and_nat x c hx hc
theorem wrap_n (x : Nat) (hx : x < 18446744073709551616) : IntKind.u64.wrap ((x : Nat) : Int) = ((x : Nat) : Int) := by rw [IntKind.wrap_u64]; omega
/-- The least element of a set that is not empty, and the rest. -/
theorem low_ex (x : Nat) (hx : x < 18446744073709551616) (hx0 : x ≠ 0) :
    ∃ k, k < 64 ∧ Lib.ctz 64 x = k ∧ MM.els x = k :: MM.els (x &&& (x - 1)) ∧ (x &&& (x - 1)) < 18446744073709551616 := by
  obtain ⟨m, h1, h2⟩ := Lib.ctzFrom_spec 64 x (by omega) hx
  exact ⟨_, h2, by unfold Lib.ctz; rw [if_neg hx0], MM.low_form hx hx0 _ h2 ⟨m, h1⟩⟩
theorem zeros_any (x k : Nat) (hx : x < 18446744073709551616) (hx0 : x ≠ 0) (hk : Lib.ctz 64 x = k) (w : World) (hT : Tab w) :
    Calls Tryd.prog 60 #[.int .u64 x] w fun e w' => e = .returned (.int .i64 k) ∧ w = w' := by
  obtain ⟨hlow, hk2⟩ := Lib.lowest_bit 64 x hx0 hx
  rw [hk] at hlow hk2
  obtain ⟨j, hj, hslot, hread⟩ : ∃ j : Nat, j < 64 ∧ IntKind.u64.wrap (((2 ^ k : Nat) : Int) * 285870213051353865) / 288230376151711744 = (j : Int) ∧ w.cell? ⟨0, j, none⟩ = some (.int .u8 (k : Int)) := by
    obtain ⟨h1, h2⟩ := Lib.deBruijn64_at k hk2
    refine ⟨_, h1, ?_, ?_⟩
    · rw [IntKind.wrap_u64]
      rfl
    · have h3 := hT _ h1
      rw [h2] at h3
      exact h3
  have hand : bits BinOp.and IntKind.u64 (x : Int) (IntKind.u64.wrap (-(x : Int))) = ((2 ^ k : Nat) : Int) := by
    rw [show IntKind.u64.wrap (-(x : Int)) = ((18446744073709551616 - x : Nat) : Int) by rw [IntKind.wrap_u64]; omega, u64_and_nat x _ hx (by omega)]
    exact congrArg Int.ofNat hlow
  have hpos : ((x : Int) == 0) = false := by rw [beq_eq_false_iff_ne]; omega
  clear hk hT hlow
  generalize 2 ^ k = m at *
  go_enter Tryd.func60, Tryd.ntmps60
  go_wp2
  go_ret
  exact ⟨rfl, rfl⟩
theorem rest_any (x : Nat) (hx : x < 18446744073709551616) (hx0 : x ≠ 0) (w : World) :
    Calls Tryd.prog 61 #[.int .u64 x] w fun e w' => e = .returned (.int .u64 ((x &&& (x - 1) : Nat) : Int)) ∧ w = w' := by
  have h1 : (x : Int) - 1 = ((x - 1 : Nat) : Int) := by omega
  have e : bits BinOp.and IntKind.u64 (x : Int) ((x : Int) - 1) = ((x &&& (x - 1) : Nat) : Int) := by rw [h1]; exact u64_and_nat x _ hx (by omega)
  clear h1
  rw [← e]
  clear e
  go_enter Tryd.func61, Tryd.ntmps61
  go_wp2
  go_ret
  exact ⟨rfl, rfl⟩
theorem below_any (n : Int) (w : World) :
    Calls Tryd.prog 36 #[.int .i64 n] w fun e w' => e = .returned (.int .u64 (MM.belowN n : Int)) ∧ w = w' := by
  by_cases h0 : n < 1
  · rw [MM.belowN_none n h0]
    go_enter Tryd.func36, Tryd.ntmps36
    go_wp2
    go_ret
    exact ⟨rfl, rfl⟩
  · by_cases h1 : n < 64
    · have e : ((MM.belowN n : Nat) : Int) = IntKind.u64.wrap ((MM.sg n : Nat) - 1) := by
        have h2 := MM.sg_lt n
        have hp : 0 < 2 ^ n.toNat := Nat.two_pow_pos _
        have h3 : MM.sg n = 2 ^ n.toNat := by unfold MM.sg; rw [if_pos (by omega)]
        rw [MM.belowN_in n (by omega) h1, IntKind.wrap_u64, h3]
        rw [h3] at h2
        generalize 2 ^ n.toNat = m at *
        omega
      rw [e]
      clear e
      go_enter Tryd.func36, Tryd.ntmps36
      go_wp2_with (go_at_call 49; refine (single_any _ _).mono ?_; rintro e w' ⟨rfl, rfl⟩)
      go_ret
      exact ⟨rfl, rfl⟩
    · rw [MM.belowN_all n (by omega)]
      go_enter Tryd.func36, Tryd.ntmps36
      go_wp2
      go_ret
      exact ⟨rfl, rfl⟩
end Go.Proofs.YtopckkdmldhmlaaDoor
