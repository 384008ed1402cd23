/-
  What between and Covers of layer 3's reference return. Conditions: 64 words below 2^64.
-/
import Derived.Test.YtojbmahapomoeaaDoorRelW
import Derived.Test.YtojbmahapomoeaaDoorRelJ
namespace Go.Proofs.YtojbmahapomoeaaDoor
open Go.RowKit RM

/-- Does another point stand between two, among the first k? -/
def btwT (S : Nat → Nat → Bool) (i j k : Nat) : Bool := (List.range k).any fun y => decide (y ≠ i) && decide (y ≠ j) && S i y && S y j
theorem btwT_next (S : Nat → Nat → Bool) (i j k : Nat) : btwT S i j (k + 1) = (btwT S i j k || (decide (k ≠ i) && decide (k ≠ j) && S i k && S k j)) := by
  unfold btwT
  rw [List.range_succ, List.any_append]
  simp
theorem btwT_yes {S : Nat → Nat → Bool} {i j k p : Nat} (hk : k < p) (h1 : k ≠ i) (h2 : k ≠ j) (h3 : S i k = true) (h4 : S k j = true) : btwT S i j p = true := by
  unfold btwT
  rw [List.any_eq_true]
  exact ⟨k, List.mem_range.2 hk, by simp [h1, h2, h3, h4]⟩
/-- Is j a cover of i? -/
def cvC (p : Nat) (S : Nat → Nat → Bool) (i j : Nat) : Bool := decide (i ≠ j) && S i j && !btwT S i j p
theorem cvRow_bit (n : Int) (l : List Nat) (i y : Nat) : (cvRow (strL (cl n l)) i).testBit y = (decide (i < pts n) && decide (y < pts n) && cvC (pts n) (bt l) i y) := by
  have hp := pts_le n
  have hL : RW (strL (cl n l)) := RW.strL (RW.mk _ _)
  have hb : ∀ a b, bt (strL (cl n l)) a b = (decide (a < pts n) && decide (b < pts n) && bt l a b && decide (a ≠ b)) := fun a b => by rw [bt_strL (show RW (cl n l) from RW.mk _ _), bt_cl]
  have hi0 : ∀ z, ((strL (cl n l)).getD i 0).testBit z = bt (strL (cl n l)) i z := fun _ => rfl
  have h1 : (cvRow (strL (cl n l)) i).testBit y = (bt (strL (cl n l)) i y && !(abv (strL (cl n l)) ((strL (cl n l)).getD i 0)).testBit y) := by
    unfold cvRow
    rw [Nat.testBit_and, hi0, show (18446744073709551615 : Nat) = 2 ^ 64 - 1 from rfl, show 2 ^ 64 - 1 - abv (strL (cl n l)) ((strL (cl n l)).getD i 0) = 2 ^ 64 - (abv (strL (cl n l)) ((strL (cl n l)).getD i 0) + 1) by omega, Nat.testBit_two_pow_sub_succ (abv_lt hL _)]
    by_cases hy : y < 64
    · simp [hy]
    · have : bt (strL (cl n l)) i y = false := by rw [hb]; simp; omega
      rw [this]; rfl
  rw [h1, Bool.eq_iff_iff]
  simp only [Bool.and_eq_true, Bool.not_eq_true', decide_eq_true_eq]
  rw [hb]
  unfold cvC
  simp only [Bool.and_eq_true, Bool.not_eq_true', decide_eq_true_eq]
  have h2 : y < pts n → i < pts n → ((abv (strL (cl n l)) ((strL (cl n l)).getD i 0)).testBit y = true ↔ btwT (bt l) i y (pts n) = true) := fun hy hi => by
    rw [abv_bit]
    unfold btwT
    rw [List.any_eq_true]
    constructor
    · rintro ⟨k, hk, h3, h4⟩
      rw [hi0, hb] at h3
      rw [hb] at h4
      simp only [Bool.and_eq_true, decide_eq_true_eq] at h3 h4
      exact ⟨k, List.mem_range.2 h3.1.1.2, by simp [h3.1.2, h4.1.2, h4.2, Ne.symm h3.2]⟩
    · rintro ⟨k, hk, h3⟩
      simp only [Bool.and_eq_true, decide_eq_true_eq] at h3
      have hk' := List.mem_range.1 hk
      refine ⟨k, by omega, ?_, ?_⟩
      · rw [hi0, hb]; simp [hi, hk', h3.1.2, Ne.symm h3.1.1.1]
      · rw [hb]; simp [hk', hy, h3.2, h3.1.1.2]
  constructor
  · rintro ⟨⟨⟨⟨a1, a2⟩, a3⟩, a4⟩, a5⟩
    refine ⟨⟨a1, a2⟩, ⟨a4, a3⟩, ?_⟩
    rw [Bool.eq_false_iff] at a5 ⊢
    exact fun h => a5 ((h2 a2 a1).2 h)
  · rintro ⟨⟨a1, a2⟩, ⟨a4, a3⟩, a5⟩
    refine ⟨⟨⟨⟨a1, a2⟩, a3⟩, a4⟩, ?_⟩
    rw [Bool.eq_false_iff] at a5 ⊢
    exact fun h => a5 ((h2 a2 a1).1 h)
theorem filter_low {p : Nat} (hp : p ≤ 64) (f : Nat → Bool) (h : ∀ y, p ≤ y → f y = false) : (List.range 64).filter f = (List.range p).filter f := by
  obtain ⟨q, hq⟩ : ∃ q, 64 = p + q := ⟨64 - p, by omega⟩
  rw [hq]
  clear hq hp
  induction q with
  | zero => rfl
  | succ q ih => rw [← Nat.add_assoc, List.range_succ, List.filter_append, ih]; simp [h (p + q) (by omega)]
theorem els_cv (n : Int) (l : List Nat) (i : Nat) (hi : i < pts n) : MM.els (cvRow (strL (cl n l)) i) = (List.range (pts n)).filter (cvC (pts n) (bt l) i) := by
  unfold MM.els
  rw [filter_low (pts_le n) _ (fun y hy => by rw [cvRow_bit]; simp; omega)]
  refine List.filter_congr fun y hy => ?_
  rw [cvRow_bit, decide_eq_true hi, decide_eq_true (List.mem_range.1 hy)]; rfl
theorem els_no (n : Int) (l : List Nat) (i : Nat) (hi : pts n ≤ i) : MM.els (cvRow (strL (cl n l)) i) = [] := by
  unfold MM.els
  rw [List.filter_eq_nil_iff]
  intro y _
  rw [cvRow_bit]
  simp; omega
theorem cvs_all (n : Int) (l : List Nat) : cvs (strL (cl n l)) 64 = cvs (strL (cl n l)) (pts n) := by
  obtain ⟨q, hq⟩ : ∃ q, 64 = pts n + q := ⟨64 - pts n, by have := pts_le n; omega⟩
  rw [hq]
  clear hq
  induction q with
  | zero => rfl
  | succ q ih => rw [← Nat.add_assoc]; simp only [cvs]; rw [els_no n l _ (by omega), ih]; simp [cvp]
theorem btw_any (n : Int) (l : List Nat) (hl : RW l) (i j : Nat) (hi : i < pts n) (hj : j < pts n) (w : World) :
    Calls Tryd.prog 23 #[.agg (rv n l), .int .i64 (i : Int), .int .i64 (j : Int)] w fun e w' => e = .returned (.bool (btwT (bt l) i j (pts n))) ∧ Below w.heap.size w w' := by
  have hp := pts_le n
  have HPT : Hid (∀ w, Calls Tryd.prog 13 #[.agg (rv n l)] w fun e w' => e = .returned (.int .i64 ((pts n : Nat) : Int)) ∧ Below w.heap.size w w') := fun w => qpoints_any n l w
  have HHAS : Hid (∀ a b : Nat, a < pts n → b < pts n → ∀ w, Calls Tryd.prog 22 #[.agg (rv n l), .int .i64 (a : Int), .int .i64 (b : Int)] w fun e w' => e = .returned (.bool (bt l a b)) ∧ Below w.heap.size w w') := fun a b h1 h2 w => qhas_in n l hl a b h1 h2 w
  have HR : Hid (∃ r, r = btwT (bt l) i j (pts n)) := ⟨_, rfl⟩
  obtain ⟨r, hr⟩ := HR.out
  rw [← hr]
  have HRR := Lib.hid hr; clear hr HR
  generalize pts n = p at *
  generalize bt l = S at *
  have h1 : RelAt (w.alloc (.cells (rv n l) 25)) w.heap.size n l := RelAt.new w n l
  have HB : Hid (Below w.heap.size w (w.alloc (.cells (rv n l) 25))) := (Below.refl _ _).alloc (Nat.le_refl _) _
  go_enter Tryd.func23, Tryd.ntmps23
  go_wp2_with fail
  go_loopw [7] (fun kv wr => ∃ k : Nat, k ≤ p ∧ kv = .int .i64 k ∧ RelAt wr w.heap.size n l ∧ Hid (Below w.heap.size w wr) ∧ Hid (btwT S i j k = false)) (fun kv _ => p - (intOf kv).toNat)
  case atStart => exact ⟨0, by omega, rfl, h1, HB, rfl⟩
  case round =>
    clear h1 HB
    obtain ⟨k, hk, rfl, r1, HB, HF⟩ := hrel
    go_wp2_with (refine wpList_loadRel rfl _ rfl w.heap.size rfl n l hl r1 ?_)
    refine (HPT.out _).mono ?_
    rintro e w1 ⟨rfl, hb1⟩
    have s1 := r1.below hb1 r1.lt
    have HB1 := Lib.hid (HB.out.trans (hb1.mono HB.out.size))
    clear r1 hb1 HB
    by_cases hlt : k < p
    · have hskip : k = i ∨ k = j ∨ (k ≠ i ∧ k ≠ j ∧ S i k = false) ∨ (k ≠ i ∧ k ≠ j ∧ S i k = true) := by
        by_cases h1 : k = i
        · exact .inl h1
        · by_cases h2 : k = j
          · exact .inr (.inl h2)
          · cases h3 : S i k with
            | false => exact .inr (.inr (.inl ⟨h1, h2, rfl⟩))
            | true => exact .inr (.inr (.inr ⟨h1, h2, rfl⟩))
      rcases hskip with h1 | h2 | ⟨h1, h2, h3⟩ | ⟨h1, h2, h3⟩
      · have HF2 : Hid (btwT S i j (k + 1) = false) := by
          show btwT S i j (k + 1) = false
          rw [btwT_next, HF.out, h1]; simp
        have hg : ((k : Int) != (i : Int)) = false := by simp [h1]
        clear h1
        go_wp2_with fail
        go_roundw
        case rel => exact ⟨k + 1, by omega, by go_num, s1, HB1, HF2⟩
        case measure => simp [intOf]; omega
      · by_cases h1 : k = i
        · have HF2 : Hid (btwT S i j (k + 1) = false) := by
            show btwT S i j (k + 1) = false
            rw [btwT_next, HF.out, h1]; simp
          have hg : ((k : Int) != (i : Int)) = false := by simp [h1]
          clear h1 h2
          go_wp2_with fail
          go_roundw
          case rel => exact ⟨k + 1, by omega, by go_num, s1, HB1, HF2⟩
          case measure => simp [intOf]; omega
        · have HF2 : Hid (btwT S i j (k + 1) = false) := by
            show btwT S i j (k + 1) = false
            rw [btwT_next, HF.out, h2]; simp
          have hg : ((k : Int) != (i : Int)) = true := by simp; omega
          have hg2 : ((k : Int) != (j : Int)) = false := by simp [h2]
          clear h1 h2
          go_wp2_with fail
          go_roundw
          case rel => exact ⟨k + 1, by omega, by go_num, s1, HB1, HF2⟩
          case measure => simp [intOf]; omega
      · have HF2 : Hid (btwT S i j (k + 1) = false) := by
          show btwT S i j (k + 1) = false
          rw [btwT_next, HF.out, h3]; simp
        have hg : ((k : Int) != (i : Int)) = true := by simp; omega
        have hg2 : ((k : Int) != (j : Int)) = true := by simp; omega
        have H3 := Lib.hid h3
        clear h1 h2 h3
        go_wp2_with (refine wpList_loadRel (by rfl) _ rfl w.heap.size rfl n l hl s1 ?_)
        refine (HHAS.out i k hi hlt _).mono ?_
        rintro e w2 ⟨rfl, hb2⟩
        have t1 := s1.below hb2 s1.lt
        have HB2 := Lib.hid (HB1.out.trans (hb2.mono HB1.out.size))
        clear s1 hb2 HB1
        rw [H3.out]
        go_wp2_with fail
        go_roundw
        case rel => exact ⟨k + 1, by omega, by go_num, t1, HB2, HF2⟩
        case measure => simp [intOf]; omega
      · have hg : ((k : Int) != (i : Int)) = true := by simp; omega
        have hg2 : ((k : Int) != (j : Int)) = true := by simp; omega
        have H1 := Lib.hid h1
        have H2 := Lib.hid h2
        have H3 := Lib.hid h3
        clear h1 h2 h3
        go_wp2_with (refine wpList_loadRel (by rfl) _ rfl w.heap.size rfl n l hl s1 ?_)
        refine (HHAS.out i k hi hlt _).mono ?_
        rintro e w2 ⟨rfl, hb2⟩
        have t1 := s1.below hb2 s1.lt
        have HB2 := Lib.hid (HB1.out.trans (hb2.mono HB1.out.size))
        clear s1 hb2 HB1
        rw [H3.out]
        go_wp2_with (refine wpList_loadRel (by rfl) _ rfl w.heap.size rfl n l hl t1 ?_)
        refine (HHAS.out k j hlt hj _).mono ?_
        rintro e w3 ⟨rfl, hb3⟩
        have u1 := t1.below hb3 t1.lt
        have HB3 := Lib.hid (HB2.out.trans (hb3.mono HB2.out.size))
        clear t1 hb3 HB2
        cases h4 : S k j with
        | false =>
          have HF2 : Hid (btwT S i j (k + 1) = false) := by
            show btwT S i j (k + 1) = false
            rw [btwT_next, HF.out, h4]; simp
          clear h4
          go_wp2_with fail
          go_roundw
          case rel => exact ⟨k + 1, by omega, by go_num, u1, HB3, HF2⟩
          case measure => simp [intOf]; omega
        | true =>
          have hrt : r = true := by rw [HRR.out]; exact btwT_yes hlt H1.out H2.out H3.out h4
          have HRT := Lib.hid hrt; clear hrt h4
          go_wp2_with fail
          go_ret
          rw [HRT.out]
          exact ⟨rfl, HB3.out⟩
    · have hkp : k = p := by omega
      subst hkp
      have hrt : r = false := by rw [HRR.out]; exact HF.out
      have HRT := Lib.hid hrt; clear hrt
      go_wp2_with fail
      go_ret
      rw [HRT.out]
      exact ⟨rfl, HB1.out⟩
end Go.Proofs.YtojbmahapomoeaaDoor
