/-
  What Covers of layer 3's reference returns. Conditions: 64 words below 2^64.
-/
import Derived.Test.YtojbmahapomoeaaDoorRelY
namespace Go.Proofs.YtojbmahapomoeaaDoor
open Go.RowKit RM

/-- The covers of the points below i, and those of i among the first j. -/
def cvZ (n : Int) (l : List Nat) (i j : Nat) : List (Int × Int) := cvs (strL (cl n l)) i ++ cvp i ((List.range j).filter (cvC (pts n) (bt l) i))
theorem cvZ_zero (n : Int) (l : List Nat) (i : Nat) : cvZ n l i 0 = cvs (strL (cl n l)) i := by simp [cvZ, cvp]
theorem cvZ_end (n : Int) (l : List Nat) (i : Nat) (hi : i < pts n) : cvZ n l i (pts n) = cvs (strL (cl n l)) (i + 1) := by
  unfold cvZ
  rw [← els_cv n l i hi]; rfl
theorem cvZ_no {n : Int} {l : List Nat} {i j : Nat} (h : cvC (pts n) (bt l) i j = false) : cvZ n l i (j + 1) = cvZ n l i j := by
  unfold cvZ
  rw [List.range_succ, List.filter_append]
  simp [h]
theorem cvZ_yes {n : Int} {l : List Nat} {i j : Nat} (h : cvC (pts n) (bt l) i j = true) : cvZ n l i (j + 1) = cvZ n l i j ++ [((i : Int), (j : Int))] := by
  unfold cvZ
  rw [List.range_succ, List.filter_append]
  simp [h, cvp]
theorem cvZ_len (n : Int) (l : List Nat) (i j : Nat) (hi : i ≤ 64) (hj : j ≤ 64) : (cvZ n l i j).length ≤ 8192 := by
  have h1 := cvs_length (strL (cl n l)) i
  have h2 := List.length_filter_le (cvC (pts n) (bt l) i) (List.range j)
  unfold cvZ cvp
  rw [List.length_append, List.length_map]
  rw [List.length_range] at h2
  omega
theorem qcovers_no (n : Int) (l : List Nat) (hl : RW l) (ho : ordR n l = false) (w : World) :
    Calls Tryd.prog 6 #[.agg (rv n l)] w fun e w' => ∃ A c, e = .returned (.slice A (cvL n l).length c) ∧ OwnP w' w.heap.size A c (cvL n l) ∧ Below w.heap.size w w' := by
  have hcv : cvL n l = [] := by unfold cvL; rw [ho]; rfl
  rw [hcv]
  have hor := qorder_any n l hl
  rw [ho] at hor
  have HOR := Lib.hid hor; clear hor hcv
  go_enter Tryd.func6, Tryd.ntmps6
  go_wp2_with (refine wpList_loadRel rfl _ rfl w.heap.size rfl n l hl (RelAt.new _ _ _) ?_)
  refine (HOR.out _).mono ?_
  rintro e w1 ⟨rfl, hb1⟩
  have hb : Below w.heap.size w w1 := ((Below.refl _ _).alloc (Nat.le_refl _) _).trans (hb1.mono (by simp))
  have HB := Lib.hid hb; clear hb hb1
  go_wp2_with fail
  go_ret
  exact ⟨none, 0, rfl, World.ownsRow_nil _ _ _ _, HB.out⟩
set_option maxHeartbeats 4000000 in
theorem qcovers_yes (n : Int) (l : List Nat) (hl : RW l) (ho : ordR n l = true) (w : World) :
    Calls Tryd.prog 6 #[.agg (rv n l)] w fun e w' => ∃ A c, e = .returned (.slice A (cvL n l).length c) ∧ OwnP w' w.heap.size A c (cvL n l) ∧ Below w.heap.size w w' := by
  have hcv : cvL n l = cvs (strL (cl n l)) (pts n) := by unfold cvL; rw [ho, ← cvs_all]; rfl
  rw [hcv]
  have hor := qorder_any n l hl
  rw [ho] at hor
  have HOR := Lib.hid hor; clear hor hcv
  have hp := pts_le n
  have HPT : Hid (∀ w, Calls Tryd.prog 13 #[.agg (rv n l)] w fun e w' => e = .returned (.int .i64 ((pts n : Nat) : Int)) ∧ Below w.heap.size w w') := fun w => qpoints_any n l w
  have HHAS : Hid (∀ a b : Nat, a < pts n → b < pts n → ∀ w, Calls Tryd.prog 22 #[.agg (rv n l), .int .i64 (a : Int), .int .i64 (b : Int)] w fun e w' => e = .returned (.bool (bt l a b)) ∧ Below w.heap.size w w') := fun a b h1 h2 w => qhas_in n l hl a b h1 h2 w
  have HBT : Hid (∀ a b : Nat, a < pts n → b < pts n → ∀ w, Calls Tryd.prog 23 #[.agg (rv n l), .int .i64 (a : Int), .int .i64 (b : Int)] w fun e w' => e = .returned (.bool (btwT (bt l) a b (pts n))) ∧ Below w.heap.size w w') := fun a b h1 h2 w => btw_any n l hl a b h1 h2 w
  have HZ0 : Hid (∀ i, cvZ n l i 0 = cvs (strL (cl n l)) i) := fun i => cvZ_zero n l i
  have HZE : Hid (∀ i, i < pts n → cvZ n l i (pts n) = cvs (strL (cl n l)) (i + 1)) := fun i h => cvZ_end n l i h
  have HZN : Hid (∀ i j, i = j ∨ bt l i j = false ∨ btwT (bt l) i j (pts n) = true → cvZ n l i (j + 1) = cvZ n l i j) := fun i j h => cvZ_no (by unfold cvC; rcases h with h | h | h <;> simp [h])
  have HZY : Hid (∀ i j, i ≠ j → bt l i j = true → btwT (bt l) i j (pts n) = false → cvZ n l i (j + 1) = cvZ n l i j ++ [((i : Int), (j : Int))]) := fun i j h1 h2 h3 => cvZ_yes (by unfold cvC; simp [h1, h2, h3])
  have HZL : Hid (∀ i j, i ≤ 64 → j ≤ 64 → (cvZ n l i j).length ≤ 8192) := fun i j h1 h2 => cvZ_len n l i j h1 h2
  have HC0 : Hid (cvs (strL (cl n l)) 0 = []) := rfl
  generalize cvZ n l = Z at *
  generalize cvs (strL (cl n l)) = C at *
  generalize pts n = p at *
  generalize hT : (fun a b => btwT (bt l) a b p) = T at *
  have HBT2 : Hid (∀ a b : Nat, a < p → b < p → ∀ w, Calls Tryd.prog 23 #[.agg (rv n l), .int .i64 (a : Int), .int .i64 (b : Int)] w fun e w' => e = .returned (.bool (T a b)) ∧ Below w.heap.size w w') := by subst hT; exact HBT
  have HZN2 : Hid (∀ i j, i = j ∨ bt l i j = false ∨ T i j = true → Z i (j + 1) = Z i j) := by subst hT; exact HZN
  have HZY2 : Hid (∀ i j, i ≠ j → bt l i j = true → T i j = false → Z i (j + 1) = Z i j ++ [((i : Int), (j : Int))]) := by subst hT; exact HZY
  clear hT HBT HZN HZY
  generalize bt l = S at *
  have h1 : RelAt (w.alloc (.cells (rv n l) 25)) w.heap.size n l := RelAt.new w n l
  have HB : Hid (Below w.heap.size w (w.alloc (.cells (rv n l) 25))) := (Below.refl _ _).alloc (Nat.le_refl _) _
  go_enter Tryd.func6, Tryd.ntmps6
  go_wp2_with (refine wpList_loadRel rfl _ rfl w.heap.size rfl n l hl h1 ?_)
  refine (HOR.out _).mono ?_
  rintro e w1 ⟨rfl, hb1⟩
  have s1 := h1.below hb1 h1.lt
  have HB1 := Lib.hid (HB.out.trans (hb1.mono HB.out.size))
  clear h1 hb1 HB HOR
  go_wp2_with fail
  go_loopw [3, 4, 5] (fun v iv _ wr => ∃ (i k c : Nat) (A : Option Addr), i ≤ p ∧ iv = .int .i64 i ∧ v = .slice A k c ∧ Hid (k = (C i).length) ∧ Hid (OwnP wr w.heap.size A c (C i)) ∧ RelAt wr w.heap.size n l ∧ Hid (Below w.heap.size w wr)) (fun _ iv _ _ => p - (intOf iv).toNat)
  case atStart => exact ⟨0, 0, 0, none, by omega, rfl, rfl, by rw [HC0.out]; rfl, by rw [HC0.out]; exact World.ownsRow_nil _ _ _ _, s1, HB1⟩
  case round =>
    clear s1 HB1
    obtain ⟨i, k, c, A, hi, rfl, rfl, HK, HO, r1, HB⟩ := hrel
    go_wp2_with (refine wpList_loadRel rfl _ rfl w.heap.size rfl n l hl r1 ?_)
    refine (HPT.out _).mono ?_
    rintro e w1 ⟨rfl, hb1⟩
    have s1 := r1.below hb1 r1.lt
    have HO1 : Hid (OwnP w1 w.heap.size A c (C i)) := own_below HO.out hb1 (Nat.le_refl _)
    have HB1 := Lib.hid (HB.out.trans (hb1.mono HB.out.size))
    clear r1 hb1 HB HO
    by_cases hlt : i < p
    · go_wp2_with fail
      obtain ⟨wo, rfl⟩ : ∃ wo : World, wo = w1 := ⟨_, rfl⟩
      go_loopw [3, 5] (fun v jv wr => ∃ (j k c : Nat) (A : Option Addr), j ≤ p ∧ jv = .int .i64 j ∧ v = .slice A k c ∧ Hid (k = (Z i j).length) ∧ k ≤ 8192 ∧ Hid (OwnP wr w.heap.size A c (Z i j)) ∧ RelAt wr w.heap.size n l ∧ Hid (Below w.heap.size w wr)) (fun _ jv _ => p - (intOf jv).toNat)
      case atStart =>
        have hk : k ≤ 8192 := by
          rw [HK.out, ← HZ0.out i]
          exact HZL.out i 0 (by omega) (by omega)
        exact ⟨0, k, c, A, by omega, rfl, rfl, by rw [HZ0.out]; exact HK, hk, by rw [HZ0.out]; exact HO1, s1, HB1⟩
      case round =>
        clear HK HO1 s1 HB1
        obtain ⟨j, k, c, A, hj, rfl, rfl, HK, hk, HO, r1, HB⟩ := hrel
        go_wp2_with (refine wpList_loadRel rfl _ rfl w.heap.size rfl n l hl r1 ?_)
        refine (HPT.out _).mono ?_
        rintro e w2 ⟨rfl, hb2⟩
        have s1 := r1.below hb2 r1.lt
        have HO1 : Hid (OwnP w2 w.heap.size A c (Z i j)) := own_below HO.out hb2 (Nat.le_refl _)
        have HB1 := Lib.hid (HB.out.trans (hb2.mono HB.out.size))
        clear r1 hb2 HB HO
        by_cases hlt2 : j < p
        · by_cases hij : i = j
          · have hg : ((i : Int) != (j : Int)) = false := by simp [hij]
            have HW : Hid (i = j) := hij
            clear hij
            have HK2 : Hid (k = (Z i (j + 1)).length) := by rw [HZN2.out i j (.inl HW.out)]; exact HK
            have HO2 : Hid (OwnP w2 w.heap.size A c (Z i (j + 1))) := by rw [HZN2.out i j (.inl HW.out)]; exact HO1
            go_wp2_with fail
            go_roundw
            case rel => exact ⟨j + 1, k, c, A, by omega, by go_num, rfl, HK2, hk, HO2, s1, HB1⟩
            case measure => simp [intOf]; omega
          · have hg : ((i : Int) != (j : Int)) = true := by simp; omega
            have HNE : Hid (i ≠ j) := hij
            clear hij
            go_wp2_with (refine wpList_loadRel (by rfl) _ rfl w.heap.size rfl n l hl s1 ?_)
            refine (HHAS.out i j hlt hlt2 _).mono ?_
            rintro e w3 ⟨rfl, hb3⟩
            have t1 := s1.below hb3 s1.lt
            have HO2 : Hid (OwnP w3 w.heap.size A c (Z i j)) := own_below HO1.out hb3 (Nat.le_refl _)
            have HB2 := Lib.hid (HB1.out.trans (hb3.mono HB1.out.size))
            clear s1 hb3 HB1 HO1
            have HO1 := HO2; clear HO2
            cases hs : S i j with
            | false =>
              have HW : Hid (S i j = false) := hs
              clear hs
              have HK2 : Hid (k = (Z i (j + 1)).length) := by rw [HZN2.out i j (.inr (.inl HW.out))]; exact HK
              have HO2 : Hid (OwnP w3 w.heap.size A c (Z i (j + 1))) := by rw [HZN2.out i j (.inr (.inl HW.out))]; exact HO1
              go_wp2_with fail
              go_roundw
              case rel => exact ⟨j + 1, k, c, A, by omega, by go_num, rfl, HK2, hk, HO2, t1, HB2⟩
              case measure => simp [intOf]; omega
            | true =>
              have HS := Lib.hid hs; clear hs
              go_wp2_with (refine wpList_loadRel (by rfl) _ rfl w.heap.size rfl n l hl t1 ?_)
              refine (HBT2.out i j hlt hlt2 _).mono ?_
              rintro e w4 ⟨rfl, hb4⟩
              have u1 := t1.below hb4 t1.lt
              have HO2 : Hid (OwnP w4 w.heap.size A c (Z i j)) := own_below HO1.out hb4 (Nat.le_refl _)
              have HB3 := Lib.hid (HB2.out.trans (hb4.mono HB2.out.size))
              clear t1 hb4 HB2 HO1
              have HO1 := HO2; clear HO2
              cases ht : T i j with
              | true =>
                have HW : Hid (T i j = true) := ht
                clear ht
                have HK2 : Hid (k = (Z i (j + 1)).length) := by rw [HZN2.out i j (.inr (.inr HW.out))]; exact HK
                have HO2 : Hid (OwnP w4 w.heap.size A c (Z i (j + 1))) := by rw [HZN2.out i j (.inr (.inr HW.out))]; exact HO1
                go_wp2_with fail
                go_roundw
                case rel => exact ⟨j + 1, k, c, A, by omega, by go_num, rfl, HK2, hk, HO2, u1, HB3⟩
                case measure => simp [intOf]; omega
              | false =>
                have HY := Lib.hid (HZY2.out i j HNE.out HS.out ht); clear ht
                have hlen := HZL.out i (j + 1) (by omega) (by omega)
                have hown' : w4.ownsRow w.heap.size 31 2 (.slice A k c) k (pcells (Z i j)) := by
                  have h4 := HO1.out
                  unfold OwnP at h4
                  rw [← HK.out] at h4
                  exact h4
                have hbs := HB3.out.size
                have N1 := Lib.hid (own_block hown' u1 (by decide))
                have HLEN := Lib.hid hlen; clear hlen HO1
                go_wp2_with (at_builtin; refine wpList_more _ rfl _ _ 28 rfl 31 (.agg #[.int .i64 0, .int .i64 0]) 2 16 Tryd.underlying28 infoPair rfl (by decide) (by decide) w.heap.size A k c (pcells (Z i j)) rfl (hown'.alloc _) w4.heap.size 1 1 [.int .i64 (i : Int), .int .i64 (j : Int)] rfl rfl (by decide) (two_cells _ _ _ _) ?c1 ?c2 ?c3 ?_; (case c1 => simp [Value.oneCell']); (case c2 => omega); (case c3 => simp; omega); intro A2 c2 w5 hown2 hb5 hgr; have HGR := Lib.hid hgr; clear hgr)
                have v1 := RelAt.grown (u1.alloc (.cells #[.int .i64 (i : Int), .int .i64 (j : Int)] 31)) HGR.out N1.out
                have HB5 := Lib.hid ((HB3.out.alloc hbs (.cells #[.int .i64 (i : Int), .int .i64 (j : Int)] 31)).trans hb5)
                have HK5 : Hid (k + 1 = (Z i (j + 1)).length) := by rw [HY.out, List.length_append, ← HK.out]; exact rfl
                have hk5 : k + 1 ≤ 8192 := by have := HLEN.out; rw [← HK5.out] at this; omega
                have HO5 : Hid (OwnP w5 w.heap.size A2 c2 (Z i (j + 1))) := by
                  show OwnP w5 w.heap.size A2 c2 (Z i (j + 1))
                  unfold OwnP
                  rw [HY.out, pcells_append, List.length_append, ← HK.out]
                  exact hown2
                clear hown2 hb5 hown' hbs u1 HB3 N1 HLEN
                go_wp2_with fail
                go_roundw
                case rel => exact ⟨j + 1, k + 1, c2, A2, by omega, by go_num, rfl, HK5, hk5, HO5, v1, HB5⟩
                case measure => simp [intOf]; omega
        · have hjp : j = p := by omega
          subst hjp
          have HK2 : Hid (k = (C (i + 1)).length) := by rw [← HZE.out i hlt]; exact HK
          have HO2 : Hid (OwnP w2 w.heap.size A c (C (i + 1))) := by rw [← HZE.out i hlt]; exact HO1
          go_wp2_with fail
          go_roundw
          case rel => exact ⟨i + 1, k, c, A, by omega, by go_num, rfl, HK2, HO2, s1, HB1⟩
          case measure => simp [intOf]; omega
    · have hip : i = p := by omega
      subst hip
      go_wp2_with fail
      go_ret
      refine ⟨A, c, ?_, HO1.out, HB1.out⟩
      rw [← HK.out]
      exact rfl
theorem qcovers_any (n : Int) (l : List Nat) (hl : RW l) (w : World) :
    Calls Tryd.prog 6 #[.agg (rv n l)] w fun e w' => ∃ A c, e = .returned (.slice A (cvL n l).length c) ∧ OwnP w' w.heap.size A c (cvL n l) ∧ Below w.heap.size w w' := by
  cases ho : ordR n l with
  | false => exact qcovers_no n l hl ho w
  | true => exact qcovers_yes n l hl ho w
end Go.Proofs.YtojbmahapomoeaaDoor
