/-
  What the functions of package mask and of its reference return that loop without making memory. Conditions: the table of math/bits in memory, where the least element is asked for; slices that read as lists.
-/
import Derived.Test.YtopckkdmldhmlaaDoorMaskA
import Derived.LoopTactic
import Derived.Deep.QuietTactic
import Derived.BigQuiet
namespace Go.Proofs.YtopckkdmldhmlaaDoor
open Go.RowKit

/-- The halving loop's step. -/
theorem halves (s k q : Nat) (h : q = s / 2 ^ k) : q / 2 = s / 2 ^ (k + 1) := by rw [h, MM.half_half]
theorem half_lt (s k : Nat) (hs : s < 18446744073709551616) : s / 2 ^ k < 18446744073709551616 := Nat.lt_of_le_of_lt (Nat.div_le_self _ _) hs

/-- A slice of ints in memory. -/
def Ints (w : World) (A : Option Addr) (xs : List Int) : Prop := Sl w w.heap.size A (xs.map (Value.int .i64))
theorem Ints.below {w w' : World} {A : Option Addr} {xs : List Int} (h : Ints w A xs) (hb : Below w.heap.size w w') : Ints w' A xs := (Sl.below h hb).mono hb.size
theorem Ints.cell {w : World} {A : Option Addr} {xs : List Int} (h : Ints w A xs) (hne : xs ≠ []) : ∃ b o, A = some ⟨b, o, none⟩ ∧ ∀ j, j < xs.length → w.cell? ⟨b, o + j, none⟩ = some (.int .i64 (xs.getD j 0)) := by
  obtain ⟨b, o, hA, _, hc⟩ := Sl.at_ h (by simpa using hne)
  exact ⟨b, o, hA, fun j hj => hc j _ (by rw [List.getElem?_map, List.getElem?_eq_getElem hj, List.getD_eq_getElem?_getD, List.getElem?_eq_getElem hj]; rfl)⟩

theorem take_snoc (xs : List Int) (k : Nat) (h : k < xs.length) : xs.take (k + 1) = xs.take k ++ [xs.getD k 0] := by
  rw [List.take_succ_eq_append_getElem h, List.getD_eq_getElem?_getD, List.getElem?_eq_getElem h]; rfl

set_option maxHeartbeats 400000 in
theorem of_any (A : Option Addr) (c : Nat) (xs : List Int) (w : World) (hn : xs.length ≤ 4294967296) (hA : Ints w A xs) :
    Calls Tryd.prog 40 #[.slice A xs.length c] w fun e w' => e = .returned (.int .u64 (MM.ofN xs : Int)) ∧ w = w' := by
  have HA := Lib.hid hA; clear hA
  generalize hl : xs.length = n at *
  have HL := Lib.hid hl; clear hl
  go_enter Tryd.func40, Tryd.ntmps40
  go_wp2
  go_loop [3, 5, 8] (fun sv _ kv => ∃ k q : Nat, k ≤ n ∧ kv = .int .i64 k ∧ sv = .int .u64 q ∧ q < 18446744073709551616 ∧ Hid (q = MM.ofN (xs.take k))) (fun _ _ kv => n - (intOf kv).toNat)
  case atStart => exact ⟨0, 0, by omega, rfl, rfl, by omega, by show 0 = MM.ofN (xs.take 0); rw [List.take_zero, MM.ofN_nil]⟩
  case round =>
    obtain ⟨k, q, hk, rfl, rfl, hq, HQ⟩ := hrel
    by_cases hlt : k < n
    · obtain ⟨b, o, rfl, hc⟩ := HA.out.cell (by intro h; rw [h] at HL; have := HL.out; simp at this; omega)
      have hck := hc k (by rw [HL.out]; exact hlt)
      clear hc
      generalize hx : xs.getD k 0 = x at *
      have HX := Lib.hid hx; clear hx
      go_wp2_with (go_at_call 46; refine (with_any q hq _ _).mono ?_; rintro e w' ⟨rfl, rfl⟩)
      go_round
      case rel =>
        refine ⟨k + 1, MM.withN q x, by omega, by go_num, rfl, MM.withN_lt hq _, ?_⟩
        show MM.withN q x = _
        rw [take_snoc xs k (by rw [HL.out]; exact hlt), MM.ofN_snoc, ← HQ.out, HX.out]
      case measure => simp [intOf]; omega
    · have e : k = n := by omega
      have hr : q = MM.ofN xs := by have := HQ.out; rw [List.take_of_length_le (by rw [HL.out]; omega)] at this; exact this
      have HR := Lib.hid hr; clear hr
      go_wp2
      go_ret
      rw [HR.out]
      exact ⟨rfl, rfl⟩
end Go.Proofs.YtopckkdmldhmlaaDoor
