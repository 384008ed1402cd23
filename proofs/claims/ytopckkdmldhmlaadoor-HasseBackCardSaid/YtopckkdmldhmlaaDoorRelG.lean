/-
  What strict, Up and Down of package relate return. Conditions: 64 words below 2^64; the table of math/bits in memory, where a set is walked.
-/
import Derived.Test.YtopckkdmldhmlaaDoorRelF
namespace Go.Proofs.YtopckkdmldhmlaaDoor
open Go.RowKit RM

theorem rup_any (n : Int) (l : List Nat) (hl : RW l) (s : Nat) (hs : s < 18446744073709551616) (w : World) (hT : Tab w) :
    Calls Tryd.prog 30 #[.agg (rv n l), .int .u64 (s : Int)] w fun e w' => e = .returned (.int .u64 ((abv (cl n l) s : Nat) : Int)) ∧ Below w.heap.size w w' := by
  have hf := fun (w : World) => run_field1 (pts n : Nat) (RW.mk (pts n) (bt l)) w
  have hcl := rclean_any n l hl
  have ha := fun (w : World) (h : Tab w) => rabove_any (cl n l) (RW.mk _ _) s hs w h
  have HCL := Lib.hid hcl; clear hcl
  have HA := Lib.hid ha; clear ha
  have HT := Lib.hid hT; clear hT
  change ∀ w, (Instr.field 25 (.agg (rv ((pts n : Nat) : Int) (cl n l))) 1).run Tryd.prog w = .ok (.agg (uv (cl n l))) w at hf
  generalize abv (cl n l) s = q at *
  generalize uv (cl n l) = u at *
  generalize rv ((pts n : Nat) : Int) (cl n l) = r at *
  go_enter Tryd.func30, Tryd.ntmps30
  go_wp2_with (refine wpList_loadRel rfl _ rfl w.heap.size rfl n l hl (RelAt.new _ _ _) ?_)
  refine (HCL.out _).mono ?_
  rintro e w1 ⟨rfl, hb1⟩
  have hb : Below w.heap.size w w1 := ((Below.refl _ _).alloc (Nat.le_refl _) _).trans (hb1.mono (by simp))
  have HB := Lib.hid hb; clear hb hb1
  go_wp2_with fail
  refine (HA.out _ (HT.out.below HB.out)).mono ?_
  rintro e w2 ⟨rfl, hb2⟩
  have HB2 := Lib.hid (HB.out.trans (hb2.mono HB.out.size)); clear hb2
  go_wp2_with fail
  go_ret
  exact ⟨rfl, HB2.out⟩

/-- What strict makes of the rows behind k of them. -/
def strL (l : List Nat) : List Nat := (List.range 64).map fun i => MM.lessN (l.getD i 0) i
theorem RW.strL {l : List Nat} (h : RW l) : RW (strL l) := ⟨by simp [Go.Proofs.YtopckkdmldhmlaaDoor.strL], fun x hx => by
  simp only [Go.Proofs.YtopckkdmldhmlaaDoor.strL, List.mem_map] at hx
  obtain ⟨i, _, rfl⟩ := hx
  exact MM.lessN_lt (h.lt i) _⟩
theorem bt_strL {l : List Nat} (h : RW l) (i j : Nat) : bt (strL l) i j = (bt l i j && decide (i ≠ j)) := by
  by_cases hi : i < 64
  · unfold bt strL
    rw [List.getD_eq_getElem?_getD, List.getElem?_map, List.getElem?_range hi]
    simp only [Option.map_some, Option.getD_some, MM.lessN_bit]
    by_cases hj : j < 64
    · congr 1
      rw [Bool.eq_iff_iff]
      simp [hj]
      omega
    · have : (l.getD i 0).testBit j = false := bt_high h i j (by omega)
      rw [this]; simp
  · rw [bt_far (RW.strL h) i j (by omega), bt_far h i j (by omega)]; simp
theorem strict_step {l m : List Nat} (hm : RW m) (k x : Nat) (hk : k < 64) (hx : x = m.getD k 0)
    (h : ∀ i j, bt m i j = (bt l i j && !decide (i < k ∧ i = j))) : ∀ i j, bt (m.set k (MM.lessN x k)) i j = (bt l i j && !decide (i < k + 1 ∧ i = j)) := by
  intro i j
  rw [bt_set hm _ _ _ _ hk, MM.lessN_bit]
  by_cases e : i = k
  · subst e
    rw [if_pos rfl, hx]
    show (bt m i j && _) = _
    rw [h]
    by_cases hj : j < 64
    · cases bt l i j
      · simp
      · rw [Bool.eq_iff_iff]
        simp [hj]
        omega
    · have : bt m i j = false := bt_high hm i j (by omega)
      rw [h] at this
      have h2 : bt l i j = false := by
        cases hb : bt l i j with
        | false => rfl
        | true => rw [hb] at this; simp at this
      rw [h2]; simp
  · rw [if_neg e, h]
    congr 2
    rw [Bool.eq_iff_iff]
    simp; omega
theorem strict_end {l m : List Nat} (hl : RW l) (hm : RW m) (h : ∀ i j, bt m i j = (bt l i j && !decide (i < 64 ∧ i = j))) : m = strL l :=
  rext hm (RW.strL hl) fun i j hi _ => by rw [h, bt_strL hl]; congr 1; rw [Bool.eq_iff_iff]; simp; omega
/-- The points that are below some element of s, among the first k. -/
def blw (l : List Nat) (s k : Nat) : Nat := MM.ofP (fun i => decide (i < k) && (l.getD i 0 &&& s != 0)) 64
theorem blw_lt (l : List Nat) (s k : Nat) : blw l s k < 18446744073709551616 := MM.ofP_lt _ _
theorem blw_bit (l : List Nat) (s k i : Nat) : (blw l s k).testBit i = (decide (i < 64) && (decide (i < k) && (l.getD i 0 &&& s != 0))) := MM.ofP_bit _ _ _
theorem blw_zero (l : List Nat) (s : Nat) : blw l s 0 = 0 := MM.ext64 (blw_lt _ _ _) (by omega) fun i _ => by rw [blw_bit]; simp
theorem blw_yes {l : List Nat} {s k : Nat} (hk : k < 64) (h : (l.getD k 0 &&& s != 0) = true) : MM.withN (blw l s k) k = blw l s (k + 1) :=
  MM.ext64 (MM.withN_lt (blw_lt _ _ _) _) (blw_lt _ _ _) fun i hi => by
    rw [MM.withN_bit, blw_bit, blw_bit]
    by_cases e : i = k
    · subst e
      rw [h]
      simp [hi]
    · have h1 : decide ((k : Int) = (i : Int) ∧ i < 64) = false := by simp; omega
      have h2 : decide (i < k + 1) = decide (i < k) := by rw [Bool.eq_iff_iff]; simp; omega
      rw [h1, h2]; simp
theorem blw_no {l : List Nat} {s k : Nat} (h : (l.getD k 0 &&& s != 0) = false) : blw l s k = blw l s (k + 1) :=
  MM.ext64 (blw_lt _ _ _) (blw_lt _ _ _) fun i hi => by
    rw [blw_bit, blw_bit]
    by_cases e : i = k
    · subst e
      rw [h]; simp
    · have h2 : decide (i < k + 1) = decide (i < k) := by rw [Bool.eq_iff_iff]; simp; omega
      rw [h2]
theorem and_ne {x s : Nat} (hx : x < 2 ^ 64) : (x &&& s != 0) = true ↔ ∃ j, j < 64 ∧ x.testBit j = true ∧ s.testBit j = true := by
  constructor
  · intro h
    apply Decidable.byContradiction
    intro hn
    have : x &&& s = 0 := MM.ext64 (Nat.lt_of_le_of_lt Nat.and_le_left hx) (by omega) fun i hi => by
      rw [Nat.testBit_and]
      cases h1 : x.testBit i with
      | false => simp
      | true =>
        cases h2 : s.testBit i with
        | false => simp
        | true => exact absurd ⟨i, hi, h1, h2⟩ hn
    rw [this] at h
    simp at h
  · rintro ⟨j, _, h1, h2⟩
    rw [bne_iff_ne]
    intro h0
    have := congrArg (·.testBit j) h0
    simp [h1, h2] at this
set_option maxHeartbeats 400000 in
theorem rdown_any (n : Int) (l : List Nat) (hl : RW l) (s : Nat) (hs : s < 18446744073709551616) (w : World) :
    Calls Tryd.prog 33 #[.agg (rv n l), .int .u64 (s : Int)] w fun e w' => e = .returned (.int .u64 ((blw (cl n l) s (pts n) : Nat) : Int)) ∧ Below w.heap.size w w' := by
  have hcl := rclean_any n l hl
  have hc : RW (cl n l) := RW.mk _ _
  have HCL := Lib.hid hcl; clear hcl
  have hp := pts_le n
  generalize cl n l = lc at *
  generalize pts n = p at *
  go_enter Tryd.func33, Tryd.ntmps33
  go_wp2_with (refine wpList_loadRel rfl _ rfl w.heap.size rfl n l hl (RelAt.new _ _ _) ?_)
  refine (HCL.out _).mono ?_
  rintro e w1 ⟨rfl, hb1⟩
  have h1 := (RelAt.new w n l).below hb1 (by simp)
  have hb : Below w.heap.size w w1 := ((Below.refl _ _).alloc (Nat.le_refl _) _).trans (hb1.mono (by simp))
  have HB := Lib.hid hb; clear hb hb1
  go_wp2_with (refine wpList_storeRel rfl _ _ rfl w.heap.size rfl _ _ rfl n l hl hc h1 ?_; intro w2 q1 he; have HB2 := Lib.hid (HB.out.trans (he.below (Nat.le_refl _))); clear he HB h1; have hc0 := q1.cell0)
  clear hc0
  go_loop [5, 6, 11] (fun qv _ kv => ∃ k : Nat, k ≤ p ∧ kv = .int .i64 k ∧ qv = .int .u64 ((blw lc s k : Nat) : Int)) (fun _ _ kv => p - (intOf kv).toNat)
  case atStart => exact ⟨0, by omega, rfl, by rw [blw_zero]; rfl⟩
  case round =>
    obtain ⟨k, hk, rfl, rfl⟩ := hrel
    by_cases hlt : k < p
    · have hc1 := q1.cell hc k (by omega)
      have hx := hc.lt k
      have hq := blw_lt lc s k
      have hyes := fun h => blw_yes (l := lc) (s := s) (k := k) (by omega) h
      have hno := fun h => blw_no (l := lc) (s := s) (k := k) h
      have HY := Lib.hid hyes; clear hyes
      have HN := Lib.hid hno; clear hno
      generalize blw lc s k = q at *
      generalize lc.getD k 0 = x at *
      have e1 : bits BinOp.and IntKind.u64 (x : Int) (s : Int) = ((x &&& s : Nat) : Int) := u64_and_nat x s hx hs
      cases hz : (x &&& s != 0) with
      | true =>
        have hz2 : (((x &&& s : Nat) : Int) != 0) = true := by rw [bne_iff_ne] at hz ⊢; omega
        have HW := Lib.hid (HY.out hz); clear hz HY HN
        go_wp2_with (go_at_call 46; refine (with_any q hq _ _).mono ?_; rintro e w' ⟨rfl, rfl⟩)
        go_round
        case rel => exact ⟨k + 1, by omega, by go_num, by rw [HW.out]⟩
        case measure => simp [intOf]; omega
      | false =>
        have hz2 : (((x &&& s : Nat) : Int) != 0) = false := by
          have : x &&& s = 0 := by simpa using hz
          rw [this]; rfl
        have HW := Lib.hid (HN.out hz); clear hz HY HN
        go_wp2_with fail
        go_round
        case rel => exact ⟨k + 1, by omega, by go_num, by rw [HW.out]⟩
        case measure => simp [intOf]; omega
    · have e : k = p := by omega
      subst e
      go_wp2_with fail
      go_ret
      exact ⟨rfl, HB2.out⟩
end Go.Proofs.YtopckkdmldhmlaaDoor
