/-
  What Order and Classes of layer 3's reference return. Conditions: 64 words below 2^64.
-/
import Derived.Test.YtmnbeejckojkjaaDoorRelV
namespace Go.Proofs.YtmnbeejckojkjaaDoor
open Go.RowKit RM

/-- The first j points are not in one class with i. -/
def fstT (S : Nat → Nat → Bool) (i j : Nat) : Bool := (List.range j).all fun y => !(S i y && S y i)
theorem fstT_all (S : Nat → Nat → Bool) (i : Nat) : fstT S i i = fstB S i := rfl
theorem fstT_next (S : Nat → Nat → Bool) (i j : Nat) : fstT S i (j + 1) = (fstT S i j && !(S i j && S j i)) := by
  unfold fstT
  rw [List.range_succ, List.all_append]
  simp
theorem antiB_no {p i j : Nat} {S : Nat → Nat → Bool} (hi : i < p) (hj : j < i) (h1 : S i j = true) (h2 : S j i = true) : antiB p S = false := by
  rw [Bool.eq_false_iff]
  intro h
  unfold antiB at h
  rw [List.all_eq_true] at h
  have h3 := h i (List.mem_range.2 hi)
  unfold fstB at h3
  rw [List.all_eq_true] at h3
  have h4 := h3 j (List.mem_range.2 hj)
  rw [h1, h2] at h4
  cases h4
theorem antiB_yes {p : Nat} {S : Nat → Nat → Bool} (h : ∀ a, a < p → fstB S a = true) : antiB p S = true := by
  unfold antiB
  rw [List.all_eq_true]
  exact fun a ha => h a (List.mem_range.1 ha)
theorem cls_next (S : Nat → Nat → Bool) (i : Nat) : ((List.range (i + 1)).filter (fstB S)).length = ((List.range i).filter (fstB S)).length + if fstB S i then 1 else 0 := by
  rw [List.range_succ, List.filter_append, List.length_append]
  cases h : fstB S i <;> simp [h]
set_option maxHeartbeats 2000000 in
theorem qclasses_any (n : Int) (l : List Nat) (hl : RW l) (w : World) :
    Calls Tryd.prog 34 #[.agg (rv n l)] w fun e w' => e = .returned (.int .i64 ((nCls (pts n) (clo (pts n) (bt l)) : Nat) : Int)) ∧ Below w.heap.size w w' := by
  have hp := pts_le n
  have hz : RW (cz n l) := RW.mk _ _
  have HCL : Hid (∀ w, Calls Tryd.prog 54 #[.agg (rv n l)] w fun e w' => e = .returned (.agg (rv ((pts n : Nat) : Int) (cz n l))) ∧ Below w.heap.size w w') := qclosure_any n l hl
  have HHAS : Hid (∀ a b : Nat, a < pts n → b < pts n → ∀ w, Calls Tryd.prog 45 #[.agg (rv ((pts n : Nat) : Int) (cz n l)), .int .i64 (a : Int), .int .i64 (b : Int)] w fun e w' => e = .returned (.bool (clo (pts n) (bt l) a b)) ∧ Below w.heap.size w w') := fun a b h1 h2 w => by
    have h := qhas_in ((pts n : Nat) : Int) (cz n l) hz a b (by rw [pts_pts]; exact h1) (by rw [pts_pts]; exact h2) w
    have e : ((cz n l).getD a 0).testBit b = clo (pts n) (bt l) a b := bt_cz n l a b
    rw [e] at h
    exact h
  have HN : Hid (nCls (pts n) (clo (pts n) (bt l)) = ((List.range (pts n)).filter (fstB (clo (pts n) (bt l)))).length) := rfl
  generalize nCls (pts n) (clo (pts n) (bt l)) = c at *
  generalize clo (pts n) (bt l) = S at *
  generalize cz n l = lz at *
  generalize pts n = p at *
  go_enter Tryd.func34, Tryd.ntmps34
  go_wp2_with (refine wpList_loadRel rfl _ rfl w.heap.size rfl n l hl (RelAt.new _ _ _) ?_)
  refine (HCL.out _).mono ?_
  rintro e w1 ⟨rfl, hb1⟩
  have hb : Below w.heap.size w w1 := ((Below.refl _ _).alloc (Nat.le_refl _) _).trans (hb1.mono (by simp))
  have HB1 := Lib.hid hb; clear hb hb1
  go_wp2_with (refine wpList_storeRel rfl _ _ rfl w1.heap.size rfl _ _ rfl 0 zs RW.zs hz ?c2 ?_; (case c2 => rw [zero_rel]; exact RelAt.new _ _ _); intro W rc he)
  have HBW := Lib.hid ((HB1.out.alloc HB1.out.size (.cells Tryd.zeroCells25 25)).trans (he.below HB1.out.size))
  clear he HB1
  generalize w1.heap.size = g at *
  go_loopw [4, 5, 6, 7] (fun kv iv _ _ wr => ∃ i k : Nat, i ≤ p ∧ iv = .int .i64 i ∧ kv = .int .i64 k ∧ k ≤ i ∧ RelAt wr g (p : Int) lz ∧ Hid (Below w.heap.size w wr) ∧ Hid (k = ((List.range i).filter (fstB S)).length)) (fun _ iv _ _ _ => p - (intOf iv).toNat)
  case atStart => exact ⟨0, 0, by omega, rfl, rfl, by omega, rc, HBW, rfl⟩
  case round =>
    clear rc HBW
    obtain ⟨i, k, hi, rfl, rfl, hk, r1, HB, HK⟩ := hrel
    have hc0 := r1.cell0
    by_cases hlt : i < p
    · go_wp2_with fail
      clear hc0
      obtain ⟨wo, rfl⟩ : ∃ wo : World, wo = wr := ⟨_, rfl⟩
      go_loopw [6, 7] (fun fv jv wr => ∃ j : Nat, j ≤ i ∧ jv = .int .i64 j ∧ fv = .bool (fstT S i j) ∧ RelAt wr g (p : Int) lz ∧ Hid (Below w.heap.size w wr)) (fun _ jv _ => i - (intOf jv).toNat)
      case atStart => exact ⟨0, by omega, rfl, rfl, r1, HB⟩
      case round =>
        clear r1 HB
        obtain ⟨j, hj, rfl, rfl, r1, HB⟩ := hrel
        by_cases hji : j < i
        · go_wp2_with (refine wpList_loadRel rfl _ rfl g rfl _ lz hz r1 ?_)
          refine (HHAS.out i j hlt (by omega) _).mono ?_
          rintro e w2 ⟨rfl, hb2⟩
          have s1 := r1.below hb2 r1.lt
          have HB1 := Lib.hid (HB.out.trans (hb2.mono HB.out.size))
          clear r1 hb2 HB
          cases hij : S i j with
          | false =>
            have HF2 : Hid (fstT S i j = fstT S i (j + 1)) := by
              show fstT S i j = fstT S i (j + 1)
              rw [fstT_next, hij]; simp
            clear hij
            go_wp2_with fail
            go_roundw
            case rel => exact ⟨j + 1, by omega, by go_num, by rw [HF2.out], s1, HB1⟩
            case measure => simp [intOf]; omega
          | true =>
            have HIJ := Lib.hid hij; clear hij
            go_wp2_with (refine wpList_loadRel (by rfl) _ rfl g rfl _ lz hz s1 ?_)
            refine (HHAS.out j i (by omega) hlt _).mono ?_
            rintro e w3 ⟨rfl, hb3⟩
            have t1 := s1.below hb3 s1.lt
            have HB2 := Lib.hid (HB1.out.trans (hb3.mono HB1.out.size))
            clear s1 hb3 HB1
            cases hij2 : S j i with
            | false =>
              have HF2 : Hid (fstT S i j = fstT S i (j + 1)) := by
                show fstT S i j = fstT S i (j + 1)
                rw [fstT_next, hij2]; simp
              clear hij2
              go_wp2_with fail
              go_roundw
              case rel => exact ⟨j + 1, by omega, by go_num, by rw [HF2.out], t1, HB2⟩
              case measure => simp [intOf]; omega
            | true =>
              have HF2 : Hid (false = fstT S i (j + 1)) := by
                show false = fstT S i (j + 1)
                rw [fstT_next, HIJ.out, hij2]; simp
              clear hij2
              go_wp2_with fail
              go_roundw
              case rel => exact ⟨j + 1, by omega, by go_num, by rw [HF2.out], t1, HB2⟩
              case measure => simp [intOf]; omega
        · have hjj : j = i := by omega
          subst hjj
          have hnx := cls_next S j
          rw [← HK.out] at hnx
          have HNX := Lib.hid hnx; clear hnx
          rw [fstT_all]
          cases hf : fstB S j with
          | true =>
            have HK2 : Hid (k + 1 = ((List.range (j + 1)).filter (fstB S)).length) := by
              show k + 1 = _
              rw [HNX.out, hf]; rfl
            clear hf
            go_wp2_with fail
            go_roundw
            case rel => exact ⟨j + 1, k + 1, by omega, by go_num, by go_num, by omega, r1, HB, HK2⟩
            case measure => simp [intOf]; omega
          | false =>
            have HK2 : Hid (k = ((List.range (j + 1)).filter (fstB S)).length) := by
              show k = _
              rw [HNX.out, hf]; rfl
            clear hf
            go_wp2_with fail
            go_roundw
            case rel => exact ⟨j + 1, k, by omega, by go_num, rfl, by omega, r1, HB, HK2⟩
            case measure => simp [intOf]; omega
    · have hpi : i = p := by omega
      subst hpi
      have hkc : k = c := by rw [HK.out, HN.out]
      have HKC := Lib.hid hkc; clear hkc
      go_wp2_with fail
      go_ret
      rw [HKC.out]
      exact ⟨rfl, HB.out⟩
end Go.Proofs.YtmnbeejckojkjaaDoor
