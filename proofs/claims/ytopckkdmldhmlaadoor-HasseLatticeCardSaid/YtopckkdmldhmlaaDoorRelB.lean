/-
  What Has, add, clean and With of package relate return. Conditions: 64 words below 2^64.
-/
import Derived.Test.YtopckkdmldhmlaaDoorRelA
namespace Go.Proofs.YtopckkdmldhmlaaDoor
open Go.RowKit RM

theorem isPt_iff {n i : Int} : isPt n i = true ↔ 0 ≤ i ∧ i < (pts n : Int) := by simp [isPt]
theorem isPt_nat (n : Int) (i : Nat) : isPt n (i : Int) = decide (i < pts n) := by rw [Bool.eq_iff_iff, isPt_iff]; simp
/-- Is i below j? -/
def hasR (n : Int) (l : List Nat) (i j : Int) : Bool := isPt n i && isPt n j && bt l i.toNat j.toNat
theorem rhas_any (n : Int) (l : List Nat) (hl : RW l) (i j : Int) (w : World) :
    Calls Tryd.prog 26 #[.agg (rv n l), .int .i64 i, .int .i64 j] w fun e w' => e = .returned (.bool (hasR n l i j)) ∧ Below w.heap.size w w' := by
  have hp := pts_le n
  cases hi : isPt n i with
  | false =>
    have hh : hasR n l i j = false := by unfold hasR; rw [hi]; rfl
    rw [hh]
    have HI := Lib.hid hi; clear hi hh
    go_enter Tryd.func26, Tryd.ntmps26
    go_wp2_with (first | (refine wpList_loadRel rfl _ rfl w.heap.size rfl n l hl (RelAt.new _ _ _) ?_) | (go_at_call 42; refine (point_any _ _ _ _).mono ?_; rintro e w' ⟨rfl, hb⟩; rw [HI.out]))
    go_ret
    exact ⟨rfl, ((Below.refl _ _).alloc (Nat.le_refl _) _).trans (hb.mono (by simp))⟩
  | true =>
    obtain ⟨h0, h1⟩ := isPt_iff.1 hi
    obtain ⟨a, rfl⟩ := Int.eq_ofNat_of_zero_le h0
    have ha : a < 64 := by omega
    have HI := Lib.hid hi; clear hi h0 h1
    cases hj : isPt n j with
    | false =>
      have hh : hasR n l a j = false := by unfold hasR; rw [hj]; simp
      rw [hh]
      have HJ := Lib.hid hj; clear hj hh
      go_enter Tryd.func26, Tryd.ntmps26
      go_wp2_with (refine wpList_loadRel rfl _ rfl w.heap.size rfl n l hl (RelAt.new _ _ _) ?_)
      refine (point_any _ _ _ _).mono ?_; rintro e w1 ⟨rfl, hb1⟩; rw [HI.out]
      have hr1 := (RelAt.new w n l).below hb1 (by simp)
      have hb0 : Below w.heap.size w w1 := ((Below.refl _ _).alloc (Nat.le_refl _) _).trans (hb1.mono (by simp))
      have hs1 : w.heap.size < w1.heap.size := by have := hb1.size; simp at this; omega
      have HB1 := Lib.hid hb0; clear hb1 hb0
      go_wp2_with (refine wpList_loadRel rfl _ rfl w.heap.size rfl n l hl hr1 ?_)
      refine (point_any _ _ _ _).mono ?_; rintro e w2 ⟨rfl, hb2⟩; rw [HJ.out]
      have HB2 := Lib.hid (HB1.out.trans (hb2.mono (by omega))); clear hb2
      go_wp2_with fail
      go_ret
      exact ⟨rfl, HB2.out⟩
    | true =>
      obtain ⟨h0, h1⟩ := isPt_iff.1 hj
      obtain ⟨b, rfl⟩ := Int.eq_ofNat_of_zero_le h0
      have hb : b < 64 := by omega
      have HJ := Lib.hid hj; clear hj h0 h1
      have hh : hasR n l a b = MM.hasN (l.getD a 0) b := by unfold hasR; rw [HI.out, HJ.out, MM.hasN_in _ b hb]; simp [bt]
      have hx := hl.lt a
      rw [hh]
      clear hh
      obtain ⟨x, he⟩ : ∃ x, x = l.getD a 0 := ⟨_, rfl⟩
      rw [← he] at hx ⊢
      have HE := Lib.hid he; clear he
      go_enter Tryd.func26, Tryd.ntmps26
      go_wp2_with (refine wpList_loadRel rfl _ rfl w.heap.size rfl n l hl (RelAt.new _ _ _) ?_)
      refine (point_any _ _ _ _).mono ?_; rintro e w1 ⟨rfl, hb1⟩; rw [HI.out]
      have hr1 := (RelAt.new w n l).below hb1 (by simp)
      have hb0 : Below w.heap.size w w1 := ((Below.refl _ _).alloc (Nat.le_refl _) _).trans (hb1.mono (by simp))
      have hs1 : w.heap.size < w1.heap.size := by have := hb1.size; simp at this; omega
      have HB1 := Lib.hid hb0; clear hb1 hb0
      go_wp2_with (refine wpList_loadRel rfl _ rfl w.heap.size rfl n l hl hr1 ?_)
      refine (point_any _ _ _ _).mono ?_; rintro e w2 ⟨rfl, hb2⟩; rw [HJ.out]
      have hr2 := hr1.below hb2 hs1
      have HB2 := Lib.hid (HB1.out.trans (hb2.mono (by omega))); clear hb2
      have hc := hr2.cell hl a ha
      rw [← HE.out] at hc
      go_wp2_with (go_at_call 43; refine (has_any x hx _ _).mono ?_; rintro e w' ⟨rfl, rfl⟩)
      go_ret
      exact ⟨rfl, HB2.out⟩

/-- What add makes of the rows. -/
def addR (n : Int) (l : List Nat) (i j : Int) : List Nat := if isPt n i && isPt n j then l.set i.toNat (MM.withN (l.getD i.toNat 0) j) else l
theorem addR_no {n : Int} {l : List Nat} {i j : Int} (h : (isPt n i && isPt n j) = false) : addR n l i j = l := by unfold addR; rw [h]; simp
theorem rw_addR {l : List Nat} (h : RW l) (n i j : Int) : RW (addR n l i j) := by
  unfold addR
  split
  · exact h.set _ _ (MM.withN_lt (h.lt _) _)
  · exact h
theorem bt_addR {l : List Nat} (h : RW l) (n i j : Int) (a b : Nat) : bt (addR n l i j) a b = (bt l a b || (isPt n i && isPt n j && decide (i = (a : Int)) && decide (j = (b : Int)))) := by
  unfold addR
  have hp := pts_le n
  cases hi : isPt n i with
  | false => simp
  | true =>
    cases hj : isPt n j with
    | false => simp
    | true =>
      obtain ⟨h0, h1⟩ := isPt_iff.1 hi
      obtain ⟨h2, h3⟩ := isPt_iff.1 hj
      simp only [Bool.and_self, if_true, Bool.true_and]
      rw [bt_set h _ _ _ _ (by omega), MM.withN_bit]
      by_cases e : a = i.toNat
      · subst e
        rw [if_pos rfl]
        have : decide (i = (i.toNat : Int)) = true := by simp; omega
        rw [this]
        unfold bt
        congr 1
        rw [Bool.eq_iff_iff]
        simp; omega
      · rw [if_neg e]
        have : decide (i = (a : Int)) = false := by simp; omega
        rw [this]; simp
set_option maxRecDepth 8000 in
/-- add, at a relation in a block of its own. -/
theorem radd_any (g : Nat) (n : Int) (l : List Nat) (hl : RW l) (i j : Int) (w : World) (hg : RelAt w g n l) :
    Calls Tryd.prog 55 #[.pointer (some ⟨g, 0, none⟩), .int .i64 i, .int .i64 j] w fun e w' => e = .returned (.tuple #[]) ∧ RelAt w' g n (addR n l i j) ∧ Mut g w w' := by
  have hp := pts_le n
  cases hi : isPt n i with
  | false =>
    rw [addR_no (show (isPt n i && isPt n j) = false by rw [hi]; rfl)]
    have HI := Lib.hid hi; clear hi
    go_enter Tryd.func55, Tryd.ntmps55
    go_wp2_with (first | (refine wpList_loadRel rfl _ rfl g rfl n l hl hg ?_) | (go_at_call 42; refine (point_any _ _ _ _).mono ?_; rintro e w' ⟨rfl, hb⟩; rw [HI.out]))
    go_end0
    exact ⟨rfl, hg.below hb hg.lt, Mut.of_below hb g⟩
  | true =>
    obtain ⟨h0, h1⟩ := isPt_iff.1 hi
    obtain ⟨a, rfl⟩ := Int.eq_ofNat_of_zero_le h0
    have ha : a < 64 := by omega
    have HI := Lib.hid hi; clear hi h0 h1
    cases hj : isPt n j with
    | false =>
      rw [addR_no (show (isPt n a && isPt n j) = false by rw [hj]; simp)]
      have HJ := Lib.hid hj; clear hj
      go_enter Tryd.func55, Tryd.ntmps55
      go_wp2_with (refine wpList_loadRel rfl _ rfl g rfl n l hl hg ?_)
      refine (point_any _ _ _ _).mono ?_; rintro e w1 ⟨rfl, hb1⟩; rw [HI.out]
      have hr1 := hg.below hb1 hg.lt
      have HB1 := Lib.hid hb1; clear hb1
      go_wp2_with (refine wpList_loadRel rfl _ rfl g rfl n l hl hr1 ?_)
      refine (point_any _ _ _ _).mono ?_; rintro e w2 ⟨rfl, hb2⟩; rw [HJ.out]
      have hr2 := hr1.below hb2 hr1.lt
      have HB2 := Lib.hid hb2; clear hb2
      go_wp2_with fail
      go_end0
      exact ⟨rfl, hr2, (Mut.of_below HB1.out g).trans (Mut.of_below HB2.out g)⟩
    | true =>
      have HR : Hid (addR n l a j = l.set a (MM.withN (l.getD a 0) j)) := by unfold addR; rw [HI.out, hj]; rfl
      have HJ := Lib.hid hj; clear hj
      have hx := hl.lt a
      obtain ⟨x, he⟩ : ∃ x, x = l.getD a 0 := ⟨_, rfl⟩
      rw [← he] at hx
      have HE := Lib.hid he; clear he
      go_enter Tryd.func55, Tryd.ntmps55
      go_wp2_with (refine wpList_loadRel rfl _ rfl g rfl n l hl hg ?_)
      refine (point_any _ _ _ _).mono ?_; rintro e w1 ⟨rfl, hb1⟩; rw [HI.out]
      have hr1 := hg.below hb1 hg.lt
      have HB1 := Lib.hid hb1; clear hb1
      go_wp2_with (refine wpList_loadRel rfl _ rfl g rfl n l hl hr1 ?_)
      refine (point_any _ _ _ _).mono ?_; rintro e w2 ⟨rfl, hb2⟩; rw [HJ.out]
      have hr2 := hr1.below hb2 hr1.lt
      have HB2 := Lib.hid hb2; clear hb2
      have hc := hr2.cell hl a ha
      have hf := hr2.free (1 + a)
      rw [← HE.out] at hc
      have ha' : (a : Int) < 64 := by omega
      go_wp2_with fail
      refine wp_region_still_tail 13 (by kernel_rfl) (by kernel_rfl) ?_
      simp only [List.take_succ_cons, List.take_zero, List.drop_succ_cons, List.drop_zero]
      repeat still_step
      still_call (still_of (with_any x hx _ _))
      repeat still_step
      refine wpStill_nil ?_
      go_wp2_with fail
      go_end0
      refine ⟨rfl, ?_, ?_⟩
      · rw [HR.out, ← HE.out]
        exact (hr2.drewN 1).put a _
      · exact (((Mut.of_below HB1.out g).trans (Mut.of_below HB2.out g)).drew).trans (Mut.of_set _ g _ _)
end Go.Proofs.YtopckkdmldhmlaaDoor
