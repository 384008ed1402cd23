/-
  What Points, Has and In of layer 3's reference return. Conditions: 64 words below 2^64; slices that read as lists.
-/
import Derived.Test.YtopckkdmldhmlaaDoorRelL
namespace Go.Proofs.YtopckkdmldhmlaaDoor
open Go.RowKit RM

theorem qpoints_any (n : Int) (l : List Nat) (w : World) :
    Calls Tryd.prog 31 #[.agg (rv n l)] w fun e w' => e = .returned (.int .i64 ((pts n : Nat) : Int)) ∧ Below w.heap.size w w' := by
  have h0 := rv_0 n l
  generalize rv n l = r at *
  rcases Int.lt_or_le n 0 with hn | hn
  · rw [pts_neg hn]
    go_enter Tryd.func31, Tryd.ntmps31
    go_wp2_with fail
    go_ret
    exact ⟨rfl, (Below.refl _ _).alloc (Nat.le_refl _) _⟩
  · rcases Int.lt_or_le 64 n with h1 | h1
    · rw [pts_big h1]
      go_enter Tryd.func31, Tryd.ntmps31
      go_wp2_with fail
      go_ret
      exact ⟨rfl, (Below.refl _ _).alloc (Nat.le_refl _) _⟩
    · rw [pts_in hn h1]
      go_enter Tryd.func31, Tryd.ntmps31
      go_wp2_with fail
      go_ret
      exact ⟨rfl, (Below.refl _ _).alloc (Nat.le_refl _) _⟩
theorem hasR_no {n : Int} {l : List Nat} {i j : Int} (h : i < 0 ∨ j < 0 ∨ (pts n : Int) ≤ i ∨ (pts n : Int) ≤ j) : hasR n l i j = false := by
  unfold hasR
  cases h1 : isPt n i with
  | false => rfl
  | true =>
    cases h2 : isPt n j with
    | false => rfl
    | true =>
      have := isPt_iff.1 h1
      have := isPt_iff.1 h2
      omega
theorem hasR_in {n : Int} {l : List Nat} {a b : Nat} (h1 : a < pts n) (h2 : b < pts n) : hasR n l a b = (l.getD a 0).testBit b := by
  unfold hasR
  rw [isPt_nat, isPt_nat]
  simp [h1, h2, bt]
set_option maxHeartbeats 2000000 in
theorem qhas_no (n : Int) (l : List Nat) (hl : RW l) (i j : Int) (h : i < 0 ∨ j < 0 ∨ (pts n : Int) ≤ i ∨ (pts n : Int) ≤ j) (w : World) :
    Calls Tryd.prog 32 #[.agg (rv n l), .int .i64 i, .int .i64 j] w fun e w' => e = .returned (.bool false) ∧ Below w.heap.size w w' := by
  have hq := fun w => qpoints_any n l w
  have HQ := Lib.hid hq; clear hq
  have hp := pts_le n
  generalize pts n = p at *
  have hcases : i < 0 ∨ (0 ≤ i ∧ j < 0) ∨ (0 ≤ i ∧ 0 ≤ j ∧ (p : Int) ≤ i) ∨ (0 ≤ i ∧ 0 ≤ j ∧ i < (p : Int) ∧ (p : Int) ≤ j) := by omega
  clear h
  rcases hcases with h | ⟨h, h2⟩ | ⟨h, h2, h3⟩ | ⟨h, h2, h3, h4⟩
  all_goals
    go_enter Tryd.func32, Tryd.ntmps32
    go_wp2_with (refine wpList_loadRel rfl _ rfl w.heap.size rfl n l hl (RelAt.new _ _ _) ?_)
    refine (HQ.out _).mono ?_
    rintro e w1 ⟨rfl, hb1⟩
    have hb : Below w.heap.size w w1 := ((Below.refl _ _).alloc (Nat.le_refl _) _).trans (hb1.mono (by simp))
    have HB := Lib.hid hb; clear hb hb1
    go_wp2_with fail
    go_ret
    exact ⟨rfl, HB.out⟩
theorem shr_bit (x b : Nat) : ((((x : Int) / 2 ^ b).tmod 2 == 1)) = x.testBit b := by
  have e : ((x : Int) / 2 ^ b) = ((x / 2 ^ b : Nat) : Int) := by simp
  rw [e, Int.tmod_eq_emod_of_nonneg (Int.natCast_nonneg _), Bool.eq_iff_iff, ← MM.half_bit]
  generalize x / 2 ^ b = y
  simp
  omega
set_option maxHeartbeats 400000 in
theorem qhas_in (n : Int) (l : List Nat) (hl : RW l) (a b : Nat) (h1 : a < pts n) (h2 : b < pts n) (w : World) :
    Calls Tryd.prog 32 #[.agg (rv n l), .int .i64 (a : Int), .int .i64 (b : Int)] w fun e w' => e = .returned (.bool ((l.getD a 0).testBit b)) ∧ Below w.heap.size w w' := by
  have hq := fun w => qpoints_any n l w
  have HQ := Lib.hid hq; clear hq
  have hp := pts_le n
  generalize pts n = p at *
  have hx := hl.lt a
  obtain ⟨x, hxe⟩ : ∃ x, x = l.getD a 0 := ⟨_, rfl⟩
  rw [← hxe] at hx ⊢
  have HX := Lib.hid hxe; clear hxe
  go_enter Tryd.func32, Tryd.ntmps32
  go_wp2_with (refine wpList_loadRel rfl _ rfl w.heap.size rfl n l hl (RelAt.new _ _ _) ?_)
  refine (HQ.out _).mono ?_
  rintro e w1 ⟨rfl, hb1⟩
  have r1 := (RelAt.new w n l).below hb1 (by simp)
  have hb : Below w.heap.size w w1 := ((Below.refl _ _).alloc (Nat.le_refl _) _).trans (hb1.mono (by simp))
  have HB := Lib.hid hb; clear hb hb1
  have hc := r1.cell hl a (by omega)
  rw [← HX.out] at hc
  clear r1
  have hb1 : (b : Int) < 64 := by omega
  go_wp2_with fail
  go_ret
  exact ⟨ret_eq (bool_eq (shr_bit x b)), HB.out⟩
theorem qhas_any (n : Int) (l : List Nat) (hl : RW l) (i j : Int) (w : World) :
    Calls Tryd.prog 32 #[.agg (rv n l), .int .i64 i, .int .i64 j] w fun e w' => e = .returned (.bool (hasR n l i j)) ∧ Below w.heap.size w w' := by
  by_cases h : i < 0 ∨ j < 0 ∨ (pts n : Int) ≤ i ∨ (pts n : Int) ≤ j
  · rw [hasR_no h]; exact qhas_no n l hl i j h w
  · obtain ⟨a, rfl⟩ := Int.eq_ofNat_of_zero_le (show 0 ≤ i by omega)
    obtain ⟨b, rfl⟩ := Int.eq_ofNat_of_zero_le (show 0 ≤ j by omega)
    rw [hasR_in (by omega) (by omega)]
    exact qhas_in n l hl a b (by omega) (by omega) w

set_option maxHeartbeats 400000 in
theorem qin_any (A : Option Addr) (c : Nat) (xs : List Int) (x : Int) (w : World) (hn : xs.length ≤ 4294967296) (hA : Ints w A xs) :
    Calls Tryd.prog 77 #[.slice A xs.length c, .int .i64 x] w fun e w' => e = .returned (.bool (xs.contains x)) ∧ w = w' := by
  have HA := Lib.hid hA; clear hA
  have HCA : Hid (∀ k, k < xs.length → xs.getD k 0 = x → xs.contains x = true) := fun k hk h => contains_at xs k x hk h
  have HCN : Hid ((∀ j, j < xs.length → xs.getD j 0 ≠ x) → xs.contains x = false) := fun h => contains_not xs x h
  generalize xs.contains x = r at *
  generalize hl : xs.length = n at *
  have HL := Lib.hid hl; clear hl
  go_enter Tryd.func77, Tryd.ntmps77
  go_wp2_with fail
  go_loop [5] (fun kv => ∃ k : Nat, k ≤ n ∧ kv = .int .i64 k ∧ Hid (∀ j, j < k → xs.getD j 0 ≠ x)) (fun kv => n - (intOf kv).toNat)
  case atStart => exact ⟨0, by omega, rfl, fun j hj => by omega⟩
  case round =>
    obtain ⟨k, hk, rfl, HK⟩ := hrel
    by_cases hlt : k < n
    · obtain ⟨b, o, rfl, hc⟩ := HA.out.cell (by intro h; rw [h] at HL; have := HL.out; simp at this; omega)
      have hck := hc k (by rw [HL.out]; exact hlt)
      clear hc
      by_cases hx : xs.getD k 0 = x
      · rw [hx] at hck
        have hr := HCA.out k hlt hx
        have HR := Lib.hid hr; clear hr hx
        go_wp2_with fail
        go_ret
        exact ⟨ret_eq (bool_eq HR.out.symm), rfl⟩
      · generalize hy : xs.getD k 0 = y at *
        have HY := Lib.hid hy; clear hy
        have hb : (y == x) = false := by simpa using hx
        have HX := Lib.hid hx; clear hx
        go_wp2_with fail
        go_round
        case rel =>
          refine ⟨k + 1, by omega, by go_num, ?_⟩
          show ∀ j, j < k + 1 → xs.getD j 0 ≠ x
          intro j hj
          by_cases hjk : j = k
          · subst hjk; rw [HY.out]; exact HX.out
          · exact HK.out j (by omega)
        case measure => simp [intOf]; omega
    · have e : k = n := by omega
      subst e
      have HR := Lib.hid (HCN.out HK.out)
      go_wp2_with fail
      go_ret
      exact ⟨ret_eq (bool_eq HR.out.symm), rfl⟩
end Go.Proofs.YtopckkdmldhmlaaDoor
