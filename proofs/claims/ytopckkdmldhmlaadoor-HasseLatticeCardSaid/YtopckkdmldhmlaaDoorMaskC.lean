/-
  What the reference's functions of layer 1 return. Conditions: slices that read as lists.
-/
import Derived.Test.YtopckkdmldhmlaaDoorMaskB
namespace Go.Proofs.YtopckkdmldhmlaaDoor
open Go.RowKit

theorem ofP_succ_in (p : Nat → Bool) (k q o : Nat) (hk : k < 64) (hq : q = MM.ofP p k) (ho : o = 2 ^ k % 18446744073709551616) (h : p k = true) : q + o = MM.ofP p (k + 1) ∧ q + o < 18446744073709551616 := by
  have h1 : 2 ^ k < 2 ^ 64 := Nat.pow_lt_pow_right (by omega) (by omega)
  have h2 : o = 2 ^ k := by rw [ho]; exact Nat.mod_eq_of_lt h1
  have h3 : q + o = MM.ofP p (k + 1) := by rw [hq, h2]; show _ = MM.ofP p k + _; rw [if_pos h]
  exact ⟨h3, by rw [h3]; exact Nat.lt_of_lt_of_le (MM.ofP_lt p (k + 1)) (Nat.pow_le_pow_right (show 0 < 2 by omega) (show k + 1 ≤ 64 by omega))⟩
theorem ofP_succ_out (p : Nat → Bool) (k q : Nat) (hq : q = MM.ofP p k) (h : p k = false) : q = MM.ofP p (k + 1) := by
  rw [hq]; show _ = MM.ofP p k + _; rw [h]; simp
theorem pow_succ_mod (k o : Nat) (ho : o = 2 ^ k % 18446744073709551616) : IntKind.u64.wrap ((o : Int) * 2) = ((o * 2 % 18446744073709551616 : Nat) : Int) ∧ o * 2 % 18446744073709551616 = 2 ^ (k + 1) % 18446744073709551616 := by
  refine ⟨by rw [IntKind.wrap_u64]; omega, ?_⟩
  rw [ho, Nat.pow_succ]
  omega
theorem contains_at (xs : List Int) (k : Nat) (x : Int) (hk : k < xs.length) (h : xs.getD k 0 = x) : xs.contains x = true := by
  rw [List.getD_eq_getElem?_getD, List.getElem?_eq_getElem hk] at h
  simp only [List.contains_iff_mem]
  rw [← h]
  exact List.getElem_mem hk
theorem contains_not (xs : List Int) (x : Int) (h : ∀ j, j < xs.length → xs.getD j 0 ≠ x) : xs.contains x = false := by
  cases hc : xs.contains x with
  | false => rfl
  | true =>
    rw [List.contains_iff_mem] at hc
    obtain ⟨j, hj, he⟩ := List.mem_iff_getElem.1 hc
    exact absurd (by rw [List.getD_eq_getElem?_getD, List.getElem?_eq_getElem hj]; exact he) (h j hj)

set_option maxHeartbeats 800000 in
theorem refOf_any (A : Option Addr) (c : Nat) (xs : List Int) (w : World) (hn : xs.length ≤ 4294967296) (hA : Ints w A xs) :
    Calls Tryd.prog 41 #[.slice A xs.length c] w fun e w' => e = .returned (.int .u64 (MM.ofN xs : Int)) ∧ w = w' := by
  have HA := Lib.hid hA; clear hA
  generalize hl : xs.length = n at *
  have HL := Lib.hid hl; clear hl
  go_enter Tryd.func41, Tryd.ntmps41
  go_wp2
  go_loop [3, 4, 5, 6] (fun sv ov iv _ => ∃ i q o : Nat, i ≤ 64 ∧ iv = .int .i64 i ∧ sv = .int .u64 q ∧ ov = .int .u64 o ∧ q < 18446744073709551616 ∧ o < 18446744073709551616 ∧ Hid (q = MM.ofP (fun j => xs.contains (j : Int)) i) ∧ Hid (o = 2 ^ i % 18446744073709551616)) (fun _ _ iv _ => 64 - (intOf iv).toNat)
  case atStart => exact ⟨0, 0, 1, by omega, rfl, rfl, rfl, by omega, by omega, by show 0 = MM.ofP _ 0; rfl, by show 1 = 2 ^ 0 % 18446744073709551616; rfl⟩
  case round =>
    obtain ⟨i, q, o, hi, rfl, rfl, rfl, hq, ho, HQ, HO⟩ := hrel
    by_cases hlt : i < 64
    · obtain ⟨hw1, hw2⟩ := pow_succ_mod i o HO.out
      have HW2 := Lib.hid hw2; clear hw2
      have ho2 : o * 2 % 18446744073709551616 < 18446744073709551616 := Nat.mod_lt _ (by omega)
      go_wp2
      go_loop [3, 6] (fun sv kv => ∃ k : Nat, k ≤ n ∧ kv = .int .i64 k ∧ sv = .int .u64 q ∧ Hid (∀ j, j < k → xs.getD j 0 ≠ (i : Int))) (fun _ kv => n - (intOf kv).toNat)
      case atStart => exact ⟨0, by omega, rfl, rfl, fun j hj => by omega⟩
      case round =>
        obtain ⟨k, hk, rfl, rfl, HK⟩ := hrel
        by_cases hkn : k < n
        · obtain ⟨b, off, rfl, hc⟩ := HA.out.cell (by intro h; rw [h] at HL; have := HL.out; simp at this; omega)
          have hck := hc k (by rw [HL.out]; exact hkn)
          clear hc
          by_cases hx : xs.getD k 0 = (i : Int)
          · rw [hx] at hck
            obtain ⟨h1, h2⟩ := ofP_succ_in _ i q o hlt HQ.out HO.out (contains_at xs k _ (by rw [HL.out]; exact hkn) hx)
            have H1 := Lib.hid h1; clear h1
            have HX := Lib.hid hx; clear hx
            go_wp2
            go_round
            case rel => exact ⟨i + 1, q + o, o * 2 % 18446744073709551616, by omega, by go_num, by go_num, rfl, h2, ho2, H1.out, HW2.out⟩
            case measure => simp [intOf]; omega
          · generalize hy : xs.getD k 0 = y at *
            have HY := Lib.hid hy; clear hy
            have hb : (y == (i : Int)) = false := by simpa using hx
            have HX := Lib.hid hx; clear hx
            go_wp2
            go_round
            case rel =>
              refine ⟨k + 1, by omega, by go_num, rfl, ?_⟩
              show ∀ j, j < k + 1 → xs.getD j 0 ≠ (i : Int)
              intro j hj
              by_cases hjk : j = k
              · subst hjk; rw [HY.out]; exact HX.out
              · exact HK.out j (by omega)
            case measure => simp [intOf]; omega
        · have e : k = n := by omega
          subst e
          have h1 := ofP_succ_out (fun j => xs.contains (j : Int)) i q HQ.out (contains_not xs _ fun j hj => HK.out j (by rw [← HL.out]; exact hj))
          have H1 := Lib.hid h1; clear h1
          go_wp2
          go_round
          case rel => exact ⟨i + 1, q, o * 2 % 18446744073709551616, by omega, by go_num, rfl, rfl, hq, ho2, H1.out, HW2.out⟩
          case measure => simp [intOf]; omega
    · have e : i = 64 := by omega
      subst e
      have hr : q = MM.ofN xs := HQ.out
      have HR := Lib.hid hr; clear hr
      go_wp2
      go_ret
      rw [HR.out]
      exact ⟨rfl, rfl⟩

end Go.Proofs.YtopckkdmldhmlaaDoor
