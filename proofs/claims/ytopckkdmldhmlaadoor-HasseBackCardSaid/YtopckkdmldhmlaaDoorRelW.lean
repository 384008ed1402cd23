/-
  What Order and Classes of layer 3's reference return. Conditions: 64 words below 2^64.
-/
import Derived.Test.YtopckkdmldhmlaaDoorRelV
namespace Go.Proofs.YtopckkdmldhmlaaDoor
open Go.RowKit RM

/-- The first j points are not in one class with i. -/
def fstT (S : Nat → Nat → Bool) (i j : Nat) : Bool := (List.range j).all fun y => !(S i y && S y i)
theorem fstT_all (S : Nat → Nat → Bool) (i : Nat) : fstT S i i = fstB S i := rfl
theorem fstT_next (S : Nat → Nat → Bool) (i j : Nat) : fstT S i (j + 1) = (fstT S i j && !(S i j && S j i)) := by
  unfold fstT
  rw [List.range_succ, List.all_append]
  simp
theorem antiB_no {p i j : Nat} {S : Nat → Nat → Bool} (hi : i < p) (hj : j < i) (h1 : S i j = true) (h2 : S j i = true) : antiB p S = false := by
  rw [Bool.eq_false_iff]
  intro h
  unfold antiB at h
  rw [List.all_eq_true] at h
  have h3 := h i (List.mem_range.2 hi)
  unfold fstB at h3
  rw [List.all_eq_true] at h3
  have h4 := h3 j (List.mem_range.2 hj)
  rw [h1, h2] at h4
  cases h4
theorem antiB_yes {p : Nat} {S : Nat → Nat → Bool} (h : ∀ a, a < p → fstB S a = true) : antiB p S = true := by
  unfold antiB
  rw [List.all_eq_true]
  exact fun a ha => h a (List.mem_range.1 ha)
theorem cls_next (S : Nat → Nat → Bool) (i : Nat) : ((List.range (i + 1)).filter (fstB S)).length = ((List.range i).filter (fstB S)).length + if fstB S i then 1 else 0 := by
  rw [List.range_succ, List.filter_append, List.length_append]
  cases h : fstB S i <;> simp [h]
set_option maxHeartbeats 2000000 in
theorem qorder_any (n : Int) (l : List Nat) (hl : RW l) (w : World) :
    Calls Tryd.prog 38 #[.agg (rv n l)] w fun e w' => e = .returned (.bool (ordR n l)) ∧ Below w.heap.size w w' := by
  have hp := pts_le n
  have HPT : Hid (∀ w, Calls Tryd.prog 31 #[.agg (rv n l)] w fun e w' => e = .returned (.int .i64 ((pts n : Nat) : Int)) ∧ Below w.heap.size w w') := fun w => qpoints_any n l w
  have HHAS : Hid (∀ a b : Nat, a < pts n → b < pts n → ∀ w, Calls Tryd.prog 32 #[.agg (rv n l), .int .i64 (a : Int), .int .i64 (b : Int)] w fun e w' => e = .returned (.bool (bt l a b)) ∧ Below w.heap.size w w') := fun a b h1 h2 w => qhas_in n l hl a b h1 h2 w
  have HCL : Hid (∀ w, Calls Tryd.prog 52 #[.agg (rv n l)] w fun e w' => e = .returned (.bool (closedB n l)) ∧ Below w.heap.size w w') := qclosed_any n l hl
  have HOR : Hid (ordR n l = (closedB n l && antiB (pts n) (bt l))) := rfl
  generalize ordR n l = o at *
  generalize closedB n l = cb at *
  generalize pts n = p at *
  generalize bt l = S at *
  have h1 : RelAt (w.alloc (.cells (rv n l) 25)) w.heap.size n l := RelAt.new w n l
  have HB : Hid (Below w.heap.size w (w.alloc (.cells (rv n l) 25))) := (Below.refl _ _).alloc (Nat.le_refl _) _
  go_enter Tryd.func38, Tryd.ntmps38
  go_wp2_with fail
  go_loopw [3, 4] (fun iv _ wr => ∃ i : Nat, i ≤ p ∧ iv = .int .i64 i ∧ RelAt wr w.heap.size n l ∧ Hid (Below w.heap.size w wr) ∧ Hid (∀ a, a < i → fstB S a = true)) (fun iv _ _ => p - (intOf iv).toNat)
  case atStart => exact ⟨0, by omega, rfl, h1, HB, fun a ha => by omega⟩
  case round =>
    clear h1 HB
    obtain ⟨i, hi, rfl, r1, HB, HA⟩ := hrel
    go_wp2_with (refine wpList_loadRel rfl _ rfl w.heap.size rfl n l hl r1 ?_)
    refine (HPT.out _).mono ?_
    rintro e w1 ⟨rfl, hb1⟩
    have s1 := r1.below hb1 r1.lt
    have HB1 := Lib.hid (HB.out.trans (hb1.mono HB.out.size))
    clear r1 hb1 HB
    by_cases hlt : i < p
    · go_wp2_with fail
      obtain ⟨wo, rfl⟩ : ∃ wo : World, wo = w1 := ⟨_, rfl⟩
      go_loopw [4] (fun jv wr => ∃ j : Nat, j ≤ i ∧ jv = .int .i64 j ∧ RelAt wr w.heap.size n l ∧ Hid (Below w.heap.size w wr) ∧ Hid (fstT S i j = true)) (fun jv _ => i - (intOf jv).toNat)
      case atStart => exact ⟨0, by omega, rfl, s1, HB1, rfl⟩
      case round =>
        clear s1 HB1
        obtain ⟨j, hj, rfl, r1, HB, HF⟩ := hrel
        by_cases hji : j < i
        · go_wp2_with (refine wpList_loadRel rfl _ rfl w.heap.size rfl n l hl r1 ?_)
          refine (HHAS.out i j hlt (by omega) _).mono ?_
          rintro e w2 ⟨rfl, hb2⟩
          have s1 := r1.below hb2 r1.lt
          have HB1 := Lib.hid (HB.out.trans (hb2.mono HB.out.size))
          clear r1 hb2 HB
          cases hij : S i j with
          | false =>
            have HF2 : Hid (fstT S i (j + 1) = true) := by
              show fstT S i (j + 1) = true
              rw [fstT_next, HF.out, hij]; rfl
            clear hij
            go_wp2_with fail
            go_roundw
            case rel => exact ⟨j + 1, by omega, by go_num, s1, HB1, HF2⟩
            case measure => simp [intOf]; omega
          | true =>
            have HIJ := Lib.hid hij; clear hij
            go_wp2_with (refine wpList_loadRel (by rfl) _ rfl w.heap.size rfl n l hl s1 ?_)
            refine (HHAS.out j i (by omega) hlt _).mono ?_
            rintro e w3 ⟨rfl, hb3⟩
            have t1 := s1.below hb3 s1.lt
            have HB2 := Lib.hid (HB1.out.trans (hb3.mono HB1.out.size))
            clear s1 hb3 HB1
            cases hij2 : S j i with
            | false =>
              have HF2 : Hid (fstT S i (j + 1) = true) := by
                show fstT S i (j + 1) = true
                rw [fstT_next, HF.out, hij2]; simp
              clear hij2
              go_wp2_with fail
              go_roundw
              case rel => exact ⟨j + 1, by omega, by go_num, t1, HB2, HF2⟩
              case measure => simp [intOf]; omega
            | true =>
              have ho : o = false := by rw [HOR.out, antiB_no hlt hji HIJ.out hij2]; simp
              have HO := Lib.hid ho; clear ho hij2
              go_wp2_with fail
              go_ret
              rw [HO.out]
              exact ⟨rfl, HB2.out⟩
        · have hjj : j = i := by omega
          subst hjj
          have HA2 : Hid (∀ a, a < j + 1 → fstB S a = true) := fun a ha => by
            by_cases h : a < j
            · exact HA.out a h
            · obtain rfl : a = j := by omega
              exact HF.out
          go_wp2_with fail
          go_roundw
          case rel => exact ⟨j + 1, by omega, by go_num, r1, HB, HA2⟩
          case measure => simp [intOf]; omega
    · have hpi : i = p := by omega
      subst hpi
      have ho : o = cb := by rw [HOR.out, antiB_yes HA.out]; simp
      have HO := Lib.hid ho; clear ho
      go_wp2_with (refine wpList_loadRel rfl _ rfl w.heap.size rfl n l hl s1 ?_)
      refine (HCL.out _).mono ?_
      rintro e w2 ⟨rfl, hb2⟩
      have HB2 := Lib.hid (HB1.out.trans (hb2.mono HB1.out.size))
      clear hb2
      go_wp2_with fail
      go_ret
      rw [HO.out]
      exact ⟨rfl, HB2.out⟩
end Go.Proofs.YtopckkdmldhmlaaDoor
