/-
  The chapter's example is as it says. Conditions: the table of math/bits in memory.
-/
import Derived.Test.YtojbmahapomoeaaDoorRelK
namespace Go.Proofs.YtojbmahapomoeaaDoor
open Go.RowKit RM

def exC : List Nat := cz 3 (ofR 3 [(0, 1), (1, 2)])
theorem exC_rw : RW exC := RW.mk _ _
theorem ex_has1 : hasR 3 exC 0 2 = true := by kernel_rfl
theorem ex_has2 : hasR 3 exC 2 0 = false := by kernel_rfl
theorem ex_ord : ordR 3 exC = true := by kernel_rfl
theorem ex_cov : (cvL 3 exC).length = 2 := by kernel_rfl
theorem ex_end : ends (strL (cl 3 exC)) (MM.belowN 3) 2 = 0 := by kernel_rfl
theorem ex_ends (j : Nat) (h : j < 2) : ends (strL (cl 3 exC)) (MM.belowN 3) j ≠ 0 := by
  match j, h with
  | 0, _ => decide +kernel
  | 1, _ => decide +kernel
theorem ex_pairs (w : World) : Prs (w.alloc (.cells #[.int .i64 0, .int .i64 1, .int .i64 1, .int .i64 2] 31)) (some ⟨w.heap.size, 0, none⟩) [(0, 1), (1, 2)] := fun _ =>
  ⟨w.heap.size, 0, rfl, by simp, fun j u hu => by
    rw [Nat.zero_add, cell_of_row _ w.heap.size j _ 31 (0, 0) (heap_alloc_new w _)]
    simpa [pcells] using hu⟩
set_option maxHeartbeats 1000000 in
theorem ralive_any (w : World) (hT : Tab w) :
    Calls Tryd.prog 12 #[] w fun e w' => e = .returned (.bool true) ∧ Below w.heap.size w w' := by
  have hof := rof_any 3 (some ⟨w.heap.size, 0, none⟩) 2 [(0, 1), (1, 2)] _ (by decide) (ex_pairs w)
  have hclo : ∀ w, Calls Tryd.prog 10 #[.agg (rv 3 (ofR 3 [(0, 1), (1, 2)]))] w fun e w' => e = .returned (.agg (rv 3 exC)) ∧ Below w.heap.size w w' := fun w => rclosure_any 3 _ (rw_ofR _ _) w
  have hlong : ∀ w, Tab w → Calls Tryd.prog 7 #[.agg (rv 3 exC)] w fun e w' => e = .returned (.tuple #[.int .i64 2, .bool true]) ∧ Below w.heap.size w w' := fun w h => rlong_yes 12 sort_12 3 exC exC_rw (by decide) ex_ord 2 (by decide) ex_end ex_ends w h
  have hcov := fun w h => rcovers_any 12 sort_12 3 exC exC_rw (by decide) w h
  rw [ex_cov] at hcov
  have hh1 := fun w => rhas_any 3 exC exC_rw 0 2 w
  have hh2 := fun w => rhas_any 3 exC exC_rw 2 0 w
  rw [ex_has1] at hh1
  rw [ex_has2] at hh2
  have HOF := Lib.hid hof; clear hof
  have HCLO := Lib.hid hclo; clear hclo
  have HLONG := Lib.hid hlong; clear hlong
  have HCOV := Lib.hid hcov; clear hcov
  have HH1 := Lib.hid hh1; clear hh1
  have HH2 := Lib.hid hh2; clear hh2
  have HT := Lib.hid hT; clear hT
  have hC := exC_rw
  generalize exC = C at *
  generalize (cvL 3 C) = xs at *
  go_enter Tryd.func12, Tryd.ntmps12
  go_wp2_with fail
  refine HOF.out.mono ?_
  rintro e w1 ⟨rfl, hb1⟩
  have hb : Below w.heap.size w w1 := ((Below.refl _ _).alloc (Nat.le_refl _) _).trans (hb1.mono (by simp))
  have HB1 := Lib.hid hb; clear hb hb1
  go_wp2_with fail
  refine (HCLO.out _).mono ?_
  rintro e w2 ⟨rfl, hb2⟩
  have HB2 := Lib.hid (HB1.out.trans (hb2.mono HB1.out.size)); clear hb2 HB1
  go_wp2_with (first | (refine wpList_storeRel rfl _ _ rfl w2.heap.size rfl 3 C rfl 0 zs RW.zs hC ?c2 ?_; (case c2 => rw [zero_rel]; exact RelAt.new _ _ _); intro w3 r3 he; have HB3 := Lib.hid ((HB2.out.alloc HB2.out.size _).trans (he.below HB2.out.size)); clear he) | (refine wpList_loadRel rfl _ rfl w2.heap.size rfl 3 C hC r3 ?_))
  have hg : w.heap.size ≤ w2.heap.size := HB2.out.size
  generalize w2.heap.size = g at *
  refine (HLONG.out _ (HT.out.below HB3.out)).mono ?_
  rintro e w4 ⟨rfl, hb4⟩
  have r4 := r3.below hb4 r3.lt
  have HB4 := Lib.hid (HB3.out.trans (hb4.mono HB3.out.size)); clear hb4 HB3 r3
  go_wp2_with (refine wpList_loadRel rfl _ rfl g rfl 3 C hC r4 ?_)
  refine (HH1.out _).mono ?_
  rintro e w5 ⟨rfl, hb5⟩
  have r5 := r4.below hb5 r4.lt
  have HB5 := Lib.hid (HB4.out.trans (hb5.mono HB4.out.size)); clear hb5 HB4 r4
  go_wp2_with (refine wpList_loadRel rfl _ rfl g rfl 3 C hC r5 ?_)
  refine (HH2.out _).mono ?_
  rintro e w6 ⟨rfl, hb6⟩
  have r6 := r5.below hb6 r5.lt
  have HB6 := Lib.hid (HB5.out.trans (hb6.mono HB5.out.size)); clear hb6 HB5 r5
  go_wp2_with (refine wpList_loadRel rfl _ rfl g rfl 3 C hC r6 ?_)
  refine (HCOV.out _ (HT.out.below HB6.out)).mono ?_
  rintro e w7 ⟨A, c, rfl, _, hb7⟩
  have HB7 := Lib.hid (HB6.out.trans (hb7.mono HB6.out.size)); clear hb7 HB6 r6
  go_wp2_with fail
  go_ret
  exact ⟨rfl, HB7.out⟩
end Go.Proofs.YtojbmahapomoeaaDoor
