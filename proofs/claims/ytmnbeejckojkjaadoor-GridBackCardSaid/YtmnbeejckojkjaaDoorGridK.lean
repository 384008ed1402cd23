/-
  GridCloses and GridRules: they return true. Conditions: 64 words below 2^64; the table of math/bits in memory.
-/
import Derived.Test.YtmnbeejckojkjaaDoorGridQ
namespace Go.Proofs.YtmnbeejckojkjaaDoor
open Go.RowKit RM

def exG : List Nat := cz 2 (ofR 2 [(0, 1)])
theorem exG_rw : RW exG := RW.mk _ _
theorem exG_right : rightB 2 exG = true := by kernel_rfl
theorem exG_rule : gRule 2 exG 0 2 = 1 := by kernel_rfl
theorem exG_height : gHeight 2 exG = 4 := by kernel_rfl
theorem exG_top : gTop 2 exG = 771 := by kernel_rfl
theorem exG_pairs (w : World) : Prs (w.alloc (.cells #[.int .i64 0, .int .i64 1] 61)) (some ⟨w.heap.size, 0, none⟩) [(0, 1)] := fun _ =>
  ⟨w.heap.size, 0, rfl, by simp, fun j u hu => by
    rw [Nat.zero_add, cell_of_row _ w.heap.size j _ 61 (0, 0) (heap_alloc_new w _)]
    simpa [pcells] using hu⟩
set_option maxHeartbeats 1000000 in
theorem gtwo_any (w : World) :
    Calls Tryd.prog 42 #[] w fun e w' => e = .returned (.agg (rv 2 exG)) ∧ Below w.heap.size w w' := by
  have hof : ∀ (w : World) (g : Nat), g = w.heap.size → Calls Tryd.prog 62 #[.int .i64 2, .slice (some ⟨g, 0, none⟩) 1 1] (w.alloc (.cells #[.int .i64 0, .int .i64 1] 61)) fun e w' => e = .returned (.agg (rv 2 (ofR 2 [(0, 1)]))) ∧ Below (w.alloc (.cells #[.int .i64 0, .int .i64 1] 61)).heap.size (w.alloc (.cells #[.int .i64 0, .int .i64 1] 61)) w' := fun w g hg => by
    subst hg
    exact rof_any 2 (some ⟨w.heap.size, 0, none⟩) 1 [(0, 1)] _ (by decide) (exG_pairs w)
  have hclo : ∀ w, Calls Tryd.prog 52 #[.agg (rv 2 (ofR 2 [(0, 1)]))] w fun e w' => e = .returned (.agg (rv 2 exG)) ∧ Below w.heap.size w w' := fun w => rclosure_any 2 _ (rw_ofR _ _) w
  have HOF := Lib.hid hof; clear hof
  have HCLO := Lib.hid hclo; clear hclo
  have hC := exG_rw
  generalize exG = C at *
  have h1 : RelAt (w.alloc (.cells (Tryd.zeroCells25) 25)) w.heap.size 0 zs := by rw [zero_rel]; exact RelAt.new _ _ _
  have hb : Below w.heap.size w (w.alloc (.cells (Tryd.zeroCells25) 25)) := (Below.refl _ _).alloc (Nat.le_refl _) _
  have HB := Lib.hid hb; clear hb
  go_enter Tryd.func42, Tryd.ntmps42
  go_wp2_with fail
  refine (HOF.out _ _ (by simp)).mono ?_
  rintro e w1 ⟨rfl, hb1⟩
  have r1 := (h1.alloc (.cells #[.int .i64 0, .int .i64 1] 61)).below hb1 (by simp; omega)
  have HB1 := Lib.hid ((HB.out.alloc HB.out.size (.cells #[.int .i64 0, .int .i64 1] 61)).trans (hb1.mono (by simp; omega))); clear hb1 HB h1
  go_wp2_with fail
  refine (HCLO.out _).mono ?_
  rintro e w2 ⟨rfl, hb2⟩
  have r2 := r1.below hb2 r1.lt
  have HB2 := Lib.hid (HB1.out.trans (hb2.mono HB1.out.size)); clear hb2 HB1 r1
  go_wp2_with (refine wpList_storeRel rfl _ _ rfl w.heap.size rfl 2 C rfl 0 zs RW.zs hC r2 ?_; intro w3 r3 he; have HB3 := Lib.hid (HB2.out.trans (he.below (Nat.le_refl _))); clear he)
  exact bodyPost_ret (ret_rel rfl _ _ w.heap.size _ _ hC rfl r3) rfl ⟨rfl, HB3.out⟩
set_option maxHeartbeats 1000000 in
theorem galive_any (w : World) (hT : Tab w) :
    Calls Tryd.prog 17 #[] w fun e w' => e = .returned (.bool true) ∧ Below w.heap.size w w' := by
  have H2 : Hid (∀ w, Calls Tryd.prog 42 #[] w fun e w' => e = .returned (.agg (rv 2 exG)) ∧ Below w.heap.size w w') := gtwo_any
  have HRI : Hid (∀ w, Calls Tryd.prog 8 #[.agg (rv 2 exG)] w fun e w' => e = .returned (.bool true) ∧ Below w.heap.size w w') := fun w => by
    have h := gright_any 2 exG exG_rw w
    rw [exG_right] at h; exact h
  have HRU : Hid (∀ w, Tab w → Calls Tryd.prog 18 #[.agg (rv 2 exG), .int .i64 0, .int .u64 2] w fun e w' => e = .returned (.int .u64 1) ∧ Below w.heap.size w w') := fun w h => by
    have h := grule_any 2 exG exG_rw 0 2 (by decide) w h
    rw [exG_rule] at h; exact h
  have HHE : Hid (∀ w, Calls Tryd.prog 12 #[.agg (rv 2 exG)] w fun e w' => e = .returned (.int .i64 4) ∧ Below w.heap.size w w') := fun w => by
    have h := gheight_any 2 exG exG_rw w
    rw [exG_height] at h; exact h
  have HTO : Hid (∀ w, Calls Tryd.prog 10 #[.agg (rv 2 exG)] w fun e w' => e = .returned (.int .u64 771) ∧ Below w.heap.size w w') := fun w => by
    have h := gtop_any 2 exG exG_rw w
    rw [exG_top] at h; exact h
  have HT := Lib.hid hT; clear hT
  generalize rv 2 exG = C at *
  go_enter Tryd.func17, Tryd.ntmps17
  go_wp2_with fail
  refine (H2.out _).mono ?_
  rintro e w1 ⟨rfl, hb1⟩
  have HB1 := Lib.hid hb1; clear hb1
  go_wp2_with fail
  refine (HRI.out _).mono ?_
  rintro e w2 ⟨rfl, hb2⟩
  have HB2 := Lib.hid (HB1.out.trans (hb2.mono HB1.out.size)); clear hb2 HB1
  go_wp2_with fail
  refine (H2.out _).mono ?_
  rintro e w3 ⟨rfl, hb3⟩
  have HB3 := Lib.hid (HB2.out.trans (hb3.mono HB2.out.size)); clear hb3 HB2
  go_wp2_with fail
  refine (HRU.out _ (HT.out.below HB3.out)).mono ?_
  rintro e w4 ⟨rfl, hb4⟩
  have HB4 := Lib.hid (HB3.out.trans (hb4.mono HB3.out.size)); clear hb4 HB3
  go_wp2_with fail
  refine (H2.out _).mono ?_
  rintro e w5 ⟨rfl, hb5⟩
  have HB5 := Lib.hid (HB4.out.trans (hb5.mono HB4.out.size)); clear hb5 HB4
  go_wp2_with fail
  refine (HHE.out _).mono ?_
  rintro e w6 ⟨rfl, hb6⟩
  have HB6 := Lib.hid (HB5.out.trans (hb6.mono HB5.out.size)); clear hb6 HB5
  go_wp2_with fail
  refine (H2.out _).mono ?_
  rintro e w7 ⟨rfl, hb7⟩
  have HB7 := Lib.hid (HB6.out.trans (hb7.mono HB6.out.size)); clear hb7 HB6
  go_wp2_with fail
  refine (HTO.out _).mono ?_
  rintro e w8 ⟨rfl, hb8⟩
  have HB8 := Lib.hid (HB7.out.trans (hb8.mono HB7.out.size)); clear hb8 HB7
  go_wp2_with fail
  go_ret
  exact ⟨rfl, HB8.out⟩

set_option maxHeartbeats 4000000 in
theorem gridCloses_law (n : Int) (l : List Nat) (hl : RW l) (v : Nat) (hv : v < 18446744073709551616) (w : World) (hT : Tab w) :
    Calls Tryd.prog 3 #[.agg (rv n l), .int .u64 (v : Int)] w fun e w' => e = .returned (.bool true) ∧ Below w.heap.size w w' := by
  have HRA : Hid (∀ w, Calls Tryd.prog 8 #[.agg (rv n l)] w fun e w' => e = .returned (.bool (rightB n l)) ∧ Below w.heap.size w w') := gright_any n l hl
  have HRB : Hid (∀ w, Calls Tryd.prog 9 #[.agg (rv n l)] w fun e w' => e = .returned (.bool (rightB n l)) ∧ Below w.heap.size w w') := qright_any n l hl
  have HTA : Hid (∀ w, Calls Tryd.prog 10 #[.agg (rv n l)] w fun e w' => e = .returned (.int .u64 ((gTop n l : Nat) : Int)) ∧ Below w.heap.size w w') := gtop_any n l hl
  have HTB : Hid (∀ w, Calls Tryd.prog 11 #[.agg (rv n l)] w fun e w' => e = .returned (.int .u64 ((gTop n l : Nat) : Int)) ∧ Below w.heap.size w w') := qtop_any n l hl
  have HHA : Hid (∀ w, Calls Tryd.prog 12 #[.agg (rv n l)] w fun e w' => e = .returned (.int .i64 ((gHeight n l : Nat) : Int)) ∧ Below w.heap.size w w') := gheight_any n l hl
  have HHB : Hid (∀ w, Calls Tryd.prog 13 #[.agg (rv n l)] w fun e w' => e = .returned (.int .i64 ((gHeight n l : Nat) : Int)) ∧ Below w.heap.size w w') := qheight_any n l hl
  have HCA : Hid (∀ w, Tab w → Calls Tryd.prog 15 #[.agg (rv n l), .int .u64 (v : Int)] w fun e w' => e = .returned (.int .u64 ((gClose n l v : Nat) : Int)) ∧ Below w.heap.size w w') := fun w h => gclose_any n l hl v hv w h
  have HCB : Hid (∀ w, Calls Tryd.prog 14 #[.agg (rv n l), .int .u64 (v : Int)] w fun e w' => e = .returned (.int .u64 ((gClose n l v : Nat) : Int)) ∧ Below w.heap.size w w') := fun w => qclose_any n l hl v hv w
  have HCC : Hid (∀ w, Tab w → Calls Tryd.prog 16 #[.agg (rv n l), .int .u64 (v : Int)] w fun e w' => e = .returned (.bool (rightB n l && (gClose n l v == v))) ∧ Below w.heap.size w w') := fun w h => gclosed_any n l hl v hv w h
  have hci : (((gClose n l v : Nat) : Int) == ((v : Nat) : Int)) = (gClose n l v == v) := by rw [Bool.eq_iff_iff]; simp; omega
  have HT := Lib.hid hT; clear hT
  generalize (gClose n l v == v) = d at *
  generalize gClose n l v = c at *
  generalize gTop n l = t at *
  generalize gHeight n l = h at *
  generalize rightB n l = b at *
  have hr1 := RelAt.new w n l
  have hb : Below w.heap.size w (w.alloc (.cells (rv n l) 25)) := (Below.refl _ _).alloc (Nat.le_refl _) _
  have HW := Lib.hid hb; clear hb
  go_enter Tryd.func3, Tryd.ntmps3
  go_wp2_with fail
  generalize w.alloc (.cells (rv n l) 25) = W at *
  obtain ⟨S, HS, pW, keepS⟩ := ex_gen W
  have pR := fun w' h => hr1.below (pW w' h) hr1.lt
  have PB : Hid (∀ w', S w' → Below w.heap.size w w') := fun w' h => HW.out.trans ((pW w' h).mono HW.out.size)
  clear pW hr1 HW
  refine wp_region_ord S [(0, true), (2, true), (1, false), (3, false), (4, true), (5, true), (6, true), (8, true), (7, false), (9, false), (10, true), (11, true), (12, true), (13, true), (15, true), (14, false), (16, false), (17, true), (18, true)] (by kernel_rfl) (by kernel_rfl) rfl (by kernel_rfl) HS.out ?_
  iterate 2
    (refine wpOrd_step (o := ?_) ?_ ?_; rotate_left 1; (simp only [List.getElem?_toArray, List.getElem?_cons_succ, List.getElem?_cons_zero]; with_reducible rfl))
    (first
        | (refine wpOrd_skip (by rfl) ?_)
        | (refine wpOrd_take (by rfl) (take_loadRel _ rfl _ rfl _ _ hl pR) ?_)
        | (refine wpOrd_take (v := ?_) (by rfl) ?_ ?_; rotate_left 1; (intro wx hSx; go_simp; try with_reducible rfl)))
    (try simp only [Act.put, List.setIfInBounds_toArray, List.set_cons_zero, List.set_cons_succ])
  (refine wpOrd_solo (o := ?_) ?_ ?_; rotate_left 1; (simp only [List.getElem?_toArray, List.getElem?_cons_succ, List.getElem?_cons_zero]; with_reducible rfl))
  intro K hK
  go_simp
  go_at_call 8
  refine (HRA.out _).mono ?_
  rintro e w1 ⟨rfl, hb⟩
  have hS := keepS _ _ HS.out hb
  clear HS
  have HS := Lib.hid hS; clear hS hb
  refine hK.out _ _ HS.out ?_
  clear hK K
  (try simp only [Act.put, List.setIfInBounds_toArray, List.set_cons_zero, List.set_cons_succ])
  (refine wpOrd_solo (o := ?_) ?_ ?_; rotate_left 1; (simp only [List.getElem?_toArray, List.getElem?_cons_succ, List.getElem?_cons_zero]; with_reducible rfl))
  intro K hK
  go_simp
  go_at_call 9
  refine (HRB.out _).mono ?_
  rintro e w2 ⟨rfl, hb⟩
  have hS := keepS _ _ HS.out hb
  clear HS
  have HS := Lib.hid hS; clear hS hb
  refine hK.out _ _ HS.out ?_
  clear hK K
  (try simp only [Act.put, List.setIfInBounds_toArray, List.set_cons_zero, List.set_cons_succ])
  iterate 4
    (refine wpOrd_step (o := ?_) ?_ ?_; rotate_left 1; (simp only [List.getElem?_toArray, List.getElem?_cons_succ, List.getElem?_cons_zero]; with_reducible rfl))
    (first
        | (refine wpOrd_skip (by rfl) ?_)
        | (refine wpOrd_take (by rfl) (take_loadRel _ rfl _ rfl _ _ hl pR) ?_)
        | (refine wpOrd_take (v := ?_) (by rfl) ?_ ?_; rotate_left 1; (intro wx hSx; go_simp; try with_reducible rfl)))
    (try simp only [Act.put, List.setIfInBounds_toArray, List.set_cons_zero, List.set_cons_succ])
  (refine wpOrd_solo (o := ?_) ?_ ?_; rotate_left 1; (simp only [List.getElem?_toArray, List.getElem?_cons_succ, List.getElem?_cons_zero]; with_reducible rfl))
  intro K hK
  go_simp
  go_at_call 10
  refine (HTA.out _).mono ?_
  rintro e w3 ⟨rfl, hb⟩
  have hS := keepS _ _ HS.out hb
  clear HS
  have HS := Lib.hid hS; clear hS hb
  refine hK.out _ _ HS.out ?_
  clear hK K
  (try simp only [Act.put, List.setIfInBounds_toArray, List.set_cons_zero, List.set_cons_succ])
  (refine wpOrd_solo (o := ?_) ?_ ?_; rotate_left 1; (simp only [List.getElem?_toArray, List.getElem?_cons_succ, List.getElem?_cons_zero]; with_reducible rfl))
  intro K hK
  go_simp
  go_at_call 11
  refine (HTB.out _).mono ?_
  rintro e w4 ⟨rfl, hb⟩
  have hS := keepS _ _ HS.out hb
  clear HS
  have HS := Lib.hid hS; clear hS hb
  refine hK.out _ _ HS.out ?_
  clear hK K
  (try simp only [Act.put, List.setIfInBounds_toArray, List.set_cons_zero, List.set_cons_succ])
  iterate 5
    (refine wpOrd_step (o := ?_) ?_ ?_; rotate_left 1; (simp only [List.getElem?_toArray, List.getElem?_cons_succ, List.getElem?_cons_zero]; with_reducible rfl))
    (first
        | (refine wpOrd_skip (by rfl) ?_)
        | (refine wpOrd_take (by rfl) (take_loadRel _ rfl _ rfl _ _ hl pR) ?_)
        | (refine wpOrd_take (v := ?_) (by rfl) ?_ ?_; rotate_left 1; (intro wx hSx; go_simp; try with_reducible rfl)))
    (try simp only [Act.put, List.setIfInBounds_toArray, List.set_cons_zero, List.set_cons_succ])
  (refine wpOrd_solo (o := ?_) ?_ ?_; rotate_left 1; (simp only [List.getElem?_toArray, List.getElem?_cons_succ, List.getElem?_cons_zero]; with_reducible rfl))
  intro K hK
  go_simp
  go_at_call 12
  refine (HHA.out _).mono ?_
  rintro e w5 ⟨rfl, hb⟩
  have hS := keepS _ _ HS.out hb
  clear HS
  have HS := Lib.hid hS; clear hS hb
  refine hK.out _ _ HS.out ?_
  clear hK K
  (try simp only [Act.put, List.setIfInBounds_toArray, List.set_cons_zero, List.set_cons_succ])
  (refine wpOrd_solo (o := ?_) ?_ ?_; rotate_left 1; (simp only [List.getElem?_toArray, List.getElem?_cons_succ, List.getElem?_cons_zero]; with_reducible rfl))
  intro K hK
  go_simp
  go_at_call 13
  refine (HHB.out _).mono ?_
  rintro e w6 ⟨rfl, hb⟩
  have hS := keepS _ _ HS.out hb
  clear HS
  have HS := Lib.hid hS; clear hS hb
  refine hK.out _ _ HS.out ?_
  clear hK K
  (try simp only [Act.put, List.setIfInBounds_toArray, List.set_cons_zero, List.set_cons_succ])
  iterate 2
    (refine wpOrd_step (o := ?_) ?_ ?_; rotate_left 1; (simp only [List.getElem?_toArray, List.getElem?_cons_succ, List.getElem?_cons_zero]; with_reducible rfl))
    (first
        | (refine wpOrd_skip (by rfl) ?_)
        | (refine wpOrd_take (v := ?_) (by rfl) ?_ ?_; rotate_left 1; (intro wx hSx; go_simp; try with_reducible rfl)))
    (try simp only [Act.put, List.setIfInBounds_toArray, List.set_cons_zero, List.set_cons_succ])
  refine wpOrd_done ?_
  have hr6 := pR _ HS.out
  go_wp2_with (refine wpList_loadRel rfl _ rfl w.heap.size rfl n l hl hr6 ?_)
  refine (HCB.out _).mono ?_
  rintro e w7 ⟨rfl, hb7⟩
  have hS := keepS _ _ HS.out hb7
  clear HS hr6 hb7
  have HS := Lib.hid hS; clear hS
  go_wp2_with fail
  cases b <;> cases d
  all_goals
    have hS := keepS _ _ HS.out ((Below.refl _ _).drew)
    clear HS
    have HS := Lib.hid hS; clear hS
    refine wp_region_ord S [(0, true), (1, true), (3, true), (2, false), (4, true), (5, true), (6, true), (7, true), (9, true), (8, false), (10, false), (11, true), (12, true), (13, true), (14, true), (15, true), (16, true), (17, true), (18, true), (19, false), (20, true), (21, true)] (by kernel_rfl) (by kernel_rfl) rfl (by kernel_rfl) HS.out ?_
    iterate 3
      (refine wpOrd_step (o := ?_) ?_ ?_; rotate_left 1; (simp only [List.getElem?_toArray, List.getElem?_cons_succ, List.getElem?_cons_zero]; with_reducible rfl))
      (first
          | (refine wpOrd_skip (by rfl) ?_)
          | (refine wpOrd_take (by rfl) (take_loadRel _ rfl _ rfl _ _ hl pR) ?_)
          | (refine wpOrd_take (v := ?_) (by rfl) ?_ ?_; rotate_left 1; (intro wx hSx; go_simp; try with_reducible rfl)))
      (try simp only [Act.put, List.setIfInBounds_toArray, List.set_cons_zero, List.set_cons_succ])
    (refine wpOrd_solo (o := ?_) ?_ ?_; rotate_left 1; (simp only [List.getElem?_toArray, List.getElem?_cons_succ, List.getElem?_cons_zero]; with_reducible rfl))
    intro K hK
    go_simp
    go_at_call 15
    refine (HCA.out _ (HT.out.below (PB.out _ HS.out))).mono ?_
    rintro e w8 ⟨rfl, hb⟩
    have hS := keepS _ _ HS.out hb
    clear HS
    have HS := Lib.hid hS; clear hS hb
    refine hK.out _ _ HS.out ?_
    clear hK K
    (try simp only [Act.put, List.setIfInBounds_toArray, List.set_cons_zero, List.set_cons_succ])
    iterate 5
      (refine wpOrd_step (o := ?_) ?_ ?_; rotate_left 1; (simp only [List.getElem?_toArray, List.getElem?_cons_succ, List.getElem?_cons_zero]; with_reducible rfl))
      (first
          | (refine wpOrd_skip (by rfl) ?_)
          | (refine wpOrd_take (by rfl) (take_loadRel _ rfl _ rfl _ _ hl pR) ?_)
          | (refine wpOrd_take (v := ?_) (by rfl) ?_ ?_; rotate_left 1; (intro wx hSx; go_simp; try with_reducible rfl)))
      (try simp only [Act.put, List.setIfInBounds_toArray, List.set_cons_zero, List.set_cons_succ])
    (refine wpOrd_solo (o := ?_) ?_ ?_; rotate_left 1; (simp only [List.getElem?_toArray, List.getElem?_cons_succ, List.getElem?_cons_zero]; with_reducible rfl))
    intro K hK
    go_simp
    go_at_call 16
    refine (HCC.out _ (HT.out.below (PB.out _ HS.out))).mono ?_
    rintro e w9 ⟨rfl, hb⟩
    have hS := keepS _ _ HS.out hb
    clear HS
    have HS := Lib.hid hS; clear hS hb
    refine hK.out _ _ HS.out ?_
    clear hK K
    (try simp only [Act.put, List.setIfInBounds_toArray, List.set_cons_zero, List.set_cons_succ])
    (refine wpOrd_solo (o := ?_) ?_ ?_; rotate_left 1; (simp only [List.getElem?_toArray, List.getElem?_cons_succ, List.getElem?_cons_zero]; with_reducible rfl))
    intro K hK
    go_simp
    go_at_call 9
    refine (HRB.out _).mono ?_
    rintro e w10 ⟨rfl, hb⟩
    have hS := keepS _ _ HS.out hb
    clear HS
    have HS := Lib.hid hS; clear hS hb
    refine hK.out _ _ HS.out ?_
    clear hK K
    (try simp only [Act.put, List.setIfInBounds_toArray, List.set_cons_zero, List.set_cons_succ])
    iterate 8
      (refine wpOrd_step (o := ?_) ?_ ?_; rotate_left 1; (simp only [List.getElem?_toArray, List.getElem?_cons_succ, List.getElem?_cons_zero]; with_reducible rfl))
      (first
          | (refine wpOrd_skip (by rfl) ?_)
          | (refine wpOrd_take (v := ?_) (by rfl) ?_ ?_; rotate_left 1; (intro wx hSx; go_simp; try with_reducible rfl)))
      (try simp only [Act.put, List.setIfInBounds_toArray, List.set_cons_zero, List.set_cons_succ])
    (refine wpOrd_solo (o := ?_) ?_ ?_; rotate_left 1; (simp only [List.getElem?_toArray, List.getElem?_cons_succ, List.getElem?_cons_zero]; with_reducible rfl))
    intro K hK
    go_simp
    go_at_call 17
    refine (galive_any _ (HT.out.below (PB.out _ HS.out))).mono ?_
    rintro e w11 ⟨rfl, hb⟩
    have hS := keepS _ _ HS.out hb
    clear HS
    have HS := Lib.hid hS; clear hS hb
    refine hK.out _ _ HS.out ?_
    clear hK K
    (try simp only [Act.put, List.setIfInBounds_toArray, List.set_cons_zero, List.set_cons_succ])
    iterate 2
      (refine wpOrd_step (o := ?_) ?_ ?_; rotate_left 1; (simp only [List.getElem?_toArray, List.getElem?_cons_succ, List.getElem?_cons_zero]; with_reducible rfl))
      (first
          | (refine wpOrd_skip (by rfl) ?_)
          | (refine wpOrd_take (v := ?_) (by rfl) ?_ ?_; rotate_left 1; (intro wx hSx; go_simp; try with_reducible rfl)))
      (try simp only [Act.put, List.setIfInBounds_toArray, List.set_cons_zero, List.set_cons_succ])
    refine wpOrd_done ?_
    have HB11 := Lib.hid (PB.out _ HS.out)
    clear pR PB HS keepS
    go_wp2_with fail
    go_ret
    exact ⟨rfl, HB11.out⟩

set_option maxHeartbeats 4000000 in
theorem gridRules_law (n : Int) (l : List Nat) (hl : RW l) (v : Nat) (hv : v < 18446744073709551616) (o : Int) (w : World) (hT : Tab w) :
    Calls Tryd.prog 4 #[.agg (rv n l), .int .u64 (v : Int), .int .i64 o] w fun e w' => e = .returned (.bool true) ∧ Below w.heap.size w w' := by
  have HRA : Hid (∀ w, Tab w → Calls Tryd.prog 18 #[.agg (rv n l), .int .i64 o, .int .u64 (v : Int)] w fun e w' => e = .returned (.int .u64 ((gRule n l o v : Nat) : Int)) ∧ Below w.heap.size w w') := fun w h => grule_any n l hl o v hv w h
  have HRB : Hid (∀ w, Calls Tryd.prog 19 #[.agg (rv n l), .int .i64 o, .int .u64 (v : Int)] w fun e w' => e = .returned (.int .u64 ((gRule n l o v : Nat) : Int)) ∧ Below w.heap.size w w') := fun w => qrule_any n l hl o v hv w
  have HDA : Hid (∀ w, Calls Tryd.prog 20 #[.agg (rv n l), .int .u64 (v : Int), .int .i64 o] w fun e w' => e = .returned (.int .u64 ((gReaders n l v o : Nat) : Int)) ∧ Below w.heap.size w w') := fun w => greaders_any n l hl v hv o w
  have HDB : Hid (∀ w, Calls Tryd.prog 21 #[.agg (rv n l), .int .u64 (v : Int), .int .i64 o] w fun e w' => e = .returned (.int .u64 ((gReaders n l v o : Nat) : Int)) ∧ Below w.heap.size w w') := fun w => qreaders_any n l hl v hv o w
  have HOA : Hid (∀ w, Calls Tryd.prog 22 #[.agg (rv n l), .int .u64 (v : Int)] w fun e w' => e = .returned (.int .u64 ((gOwners n l v : Nat) : Int)) ∧ Below w.heap.size w w') := fun w => gowners_any n l hl v hv w
  have HOB : Hid (∀ w, Calls Tryd.prog 23 #[.agg (rv n l), .int .u64 (v : Int)] w fun e w' => e = .returned (.int .u64 ((gOwners n l v : Nat) : Int)) ∧ Below w.heap.size w w') := fun w => qowners_any n l hl v hv w
  have HT := Lib.hid hT; clear hT
  generalize gRule n l o v = a at *
  generalize gReaders n l v o = d at *
  generalize gOwners n l v = c at *
  have hr1 := RelAt.new w n l
  have hb : Below w.heap.size w (w.alloc (.cells (rv n l) 25)) := (Below.refl _ _).alloc (Nat.le_refl _) _
  have HW := Lib.hid hb; clear hb
  go_enter Tryd.func4, Tryd.ntmps4
  go_wp2_with fail
  generalize w.alloc (.cells (rv n l) 25) = W at *
  obtain ⟨S, HS, pW, keepS⟩ := ex_gen W
  have pR := fun w' h => hr1.below (pW w' h) hr1.lt
  have PB : Hid (∀ w', S w' → Below w.heap.size w w') := fun w' h => HW.out.trans ((pW w' h).mono HW.out.size)
  clear pW hr1 HW
  refine wp_region_ord S [(0, true), (1, true), (2, true), (4, true), (5, true), (6, true), (3, false), (7, false), (8, true), (9, true), (10, true), (11, true), (12, true), (14, true), (15, true), (16, true), (13, false), (17, false), (18, true), (19, true), (20, true), (21, true), (22, true), (24, true), (25, true), (23, false), (26, false), (27, true), (28, true), (29, true), (30, false), (31, true), (32, true)] (by kernel_rfl) (by kernel_rfl) rfl (by kernel_rfl) HS.out ?_
  iterate 6
    (refine wpOrd_step (o := ?_) ?_ ?_; rotate_left 1; (simp only [List.getElem?_toArray, List.getElem?_cons_succ, List.getElem?_cons_zero]; with_reducible rfl))
    (first
        | (refine wpOrd_skip (by rfl) ?_)
        | (refine wpOrd_take (by rfl) (take_loadRel _ rfl _ rfl _ _ hl pR) ?_)
        | (refine wpOrd_take (v := ?_) (by rfl) ?_ ?_; rotate_left 1; (intro wx hSx; go_simp; try with_reducible rfl)))
    (try simp only [Act.put, List.setIfInBounds_toArray, List.set_cons_zero, List.set_cons_succ])
  (refine wpOrd_solo (o := ?_) ?_ ?_; rotate_left 1; (simp only [List.getElem?_toArray, List.getElem?_cons_succ, List.getElem?_cons_zero]; with_reducible rfl))
  intro K hK
  go_simp
  go_at_call 18
  refine (HRA.out _ (HT.out.below (PB.out _ HS.out))).mono ?_
  rintro e w1 ⟨rfl, hb⟩
  have hS := keepS _ _ HS.out hb
  clear HS
  have HS := Lib.hid hS; clear hS hb
  refine hK.out _ _ HS.out ?_
  clear hK K
  (try simp only [Act.put, List.setIfInBounds_toArray, List.set_cons_zero, List.set_cons_succ])
  (refine wpOrd_solo (o := ?_) ?_ ?_; rotate_left 1; (simp only [List.getElem?_toArray, List.getElem?_cons_succ, List.getElem?_cons_zero]; with_reducible rfl))
  intro K hK
  go_simp
  go_at_call 19
  refine (HRB.out _).mono ?_
  rintro e w2 ⟨rfl, hb⟩
  have hS := keepS _ _ HS.out hb
  clear HS
  have HS := Lib.hid hS; clear hS hb
  refine hK.out _ _ HS.out ?_
  clear hK K
  (try simp only [Act.put, List.setIfInBounds_toArray, List.set_cons_zero, List.set_cons_succ])
  iterate 8
    (refine wpOrd_step (o := ?_) ?_ ?_; rotate_left 1; (simp only [List.getElem?_toArray, List.getElem?_cons_succ, List.getElem?_cons_zero]; with_reducible rfl))
    (first
        | (refine wpOrd_skip (by rfl) ?_)
        | (refine wpOrd_take (by rfl) (take_loadRel _ rfl _ rfl _ _ hl pR) ?_)
        | (refine wpOrd_take (v := ?_) (by rfl) ?_ ?_; rotate_left 1; (intro wx hSx; go_simp; try with_reducible rfl)))
    (try simp only [Act.put, List.setIfInBounds_toArray, List.set_cons_zero, List.set_cons_succ])
  (refine wpOrd_solo (o := ?_) ?_ ?_; rotate_left 1; (simp only [List.getElem?_toArray, List.getElem?_cons_succ, List.getElem?_cons_zero]; with_reducible rfl))
  intro K hK
  go_simp
  go_at_call 20
  refine (HDA.out _).mono ?_
  rintro e w3 ⟨rfl, hb⟩
  have hS := keepS _ _ HS.out hb
  clear HS
  have HS := Lib.hid hS; clear hS hb
  refine hK.out _ _ HS.out ?_
  clear hK K
  (try simp only [Act.put, List.setIfInBounds_toArray, List.set_cons_zero, List.set_cons_succ])
  (refine wpOrd_solo (o := ?_) ?_ ?_; rotate_left 1; (simp only [List.getElem?_toArray, List.getElem?_cons_succ, List.getElem?_cons_zero]; with_reducible rfl))
  intro K hK
  go_simp
  go_at_call 21
  refine (HDB.out _).mono ?_
  rintro e w4 ⟨rfl, hb⟩
  have hS := keepS _ _ HS.out hb
  clear HS
  have HS := Lib.hid hS; clear hS hb
  refine hK.out _ _ HS.out ?_
  clear hK K
  (try simp only [Act.put, List.setIfInBounds_toArray, List.set_cons_zero, List.set_cons_succ])
  iterate 7
    (refine wpOrd_step (o := ?_) ?_ ?_; rotate_left 1; (simp only [List.getElem?_toArray, List.getElem?_cons_succ, List.getElem?_cons_zero]; with_reducible rfl))
    (first
        | (refine wpOrd_skip (by rfl) ?_)
        | (refine wpOrd_take (by rfl) (take_loadRel _ rfl _ rfl _ _ hl pR) ?_)
        | (refine wpOrd_take (v := ?_) (by rfl) ?_ ?_; rotate_left 1; (intro wx hSx; go_simp; try with_reducible rfl)))
    (try simp only [Act.put, List.setIfInBounds_toArray, List.set_cons_zero, List.set_cons_succ])
  (refine wpOrd_solo (o := ?_) ?_ ?_; rotate_left 1; (simp only [List.getElem?_toArray, List.getElem?_cons_succ, List.getElem?_cons_zero]; with_reducible rfl))
  intro K hK
  go_simp
  go_at_call 22
  refine (HOA.out _).mono ?_
  rintro e w5 ⟨rfl, hb⟩
  have hS := keepS _ _ HS.out hb
  clear HS
  have HS := Lib.hid hS; clear hS hb
  refine hK.out _ _ HS.out ?_
  clear hK K
  (try simp only [Act.put, List.setIfInBounds_toArray, List.set_cons_zero, List.set_cons_succ])
  (refine wpOrd_solo (o := ?_) ?_ ?_; rotate_left 1; (simp only [List.getElem?_toArray, List.getElem?_cons_succ, List.getElem?_cons_zero]; with_reducible rfl))
  intro K hK
  go_simp
  go_at_call 23
  refine (HOB.out _).mono ?_
  rintro e w6 ⟨rfl, hb⟩
  have hS := keepS _ _ HS.out hb
  clear HS
  have HS := Lib.hid hS; clear hS hb
  refine hK.out _ _ HS.out ?_
  clear hK K
  (try simp only [Act.put, List.setIfInBounds_toArray, List.set_cons_zero, List.set_cons_succ])
  iterate 3
    (refine wpOrd_step (o := ?_) ?_ ?_; rotate_left 1; (simp only [List.getElem?_toArray, List.getElem?_cons_succ, List.getElem?_cons_zero]; with_reducible rfl))
    (first
        | (refine wpOrd_skip (by rfl) ?_)
        | (refine wpOrd_take (v := ?_) (by rfl) ?_ ?_; rotate_left 1; (intro wx hSx; go_simp; try with_reducible rfl)))
    (try simp only [Act.put, List.setIfInBounds_toArray, List.set_cons_zero, List.set_cons_succ])
  (refine wpOrd_solo (o := ?_) ?_ ?_; rotate_left 1; (simp only [List.getElem?_toArray, List.getElem?_cons_succ, List.getElem?_cons_zero]; with_reducible rfl))
  intro K hK
  go_simp
  go_at_call 17
  refine (galive_any _ (HT.out.below (PB.out _ HS.out))).mono ?_
  rintro e w7 ⟨rfl, hb⟩
  have hS := keepS _ _ HS.out hb
  clear HS
  have HS := Lib.hid hS; clear hS hb
  refine hK.out _ _ HS.out ?_
  clear hK K
  (try simp only [Act.put, List.setIfInBounds_toArray, List.set_cons_zero, List.set_cons_succ])
  iterate 2
    (refine wpOrd_step (o := ?_) ?_ ?_; rotate_left 1; (simp only [List.getElem?_toArray, List.getElem?_cons_succ, List.getElem?_cons_zero]; with_reducible rfl))
    (first
        | (refine wpOrd_skip (by rfl) ?_)
        | (refine wpOrd_take (v := ?_) (by rfl) ?_ ?_; rotate_left 1; (intro wx hSx; go_simp; try with_reducible rfl)))
    (try simp only [Act.put, List.setIfInBounds_toArray, List.set_cons_zero, List.set_cons_succ])
  refine wpOrd_done ?_
  have HB7 := Lib.hid (PB.out _ HS.out)
  clear pR PB HS keepS
  go_wp2_with fail
  go_ret
  exact ⟨rfl, HB7.out⟩
end Go.Proofs.YtmnbeejckojkjaaDoor
