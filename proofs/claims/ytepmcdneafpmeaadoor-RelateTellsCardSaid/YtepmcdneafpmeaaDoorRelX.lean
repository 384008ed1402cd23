/-
  RelateTells. Conditions: the tables that the program reads.
-/
import Derived.Test.YtepmcdneafpmeaaDoorRelW
import Derived.Test.YtepmcdneafpmeaaDoorRelS
import Derived.Test.YtepmcdneafpmeaaDoorSortK
namespace Go.Proofs.YtepmcdneafpmeaaDoor
open Go.RowKit RM

set_option maxHeartbeats 8000000 in
theorem relateTells_law (n : Int) (l : List Nat) (hl : RW l) (nb : Int) (lb : List Nat) (hlb : RW lb) (lo hi : Int) (w : World) (hT : Tab w) :
    Calls Tryd.prog 4 #[.agg (rv n l), .agg (rv nb lb), .agg #[.int .i64 lo, .int .i64 hi]] w fun e w' => e = .returned (.bool true) ∧ Below w.heap.size w w' := by
  have HHA : Hid (∀ w, Calls Tryd.prog 14 #[.agg (rv n l), .int .i64 lo, .int .i64 hi] w fun e w' => e = .returned (.bool (hasR n l lo hi)) ∧ Below w.heap.size w w') := rhas_any n l hl lo hi
  have HHR : Hid (∀ w, Calls Tryd.prog 16 #[.agg (rv n l), .int .i64 lo, .int .i64 hi] w fun e w' => e = .returned (.bool (hasR n l lo hi)) ∧ Below w.heap.size w w') := qhas_any n l hl lo hi
  have HSA : Hid (∀ w, Calls Tryd.prog 17 #[.agg (rv n l), .agg (rv nb lb)] w fun e w' => e = .returned (.bool (eqRel (pts n : Nat) (pts nb : Nat) (cl n l) (cl nb lb))) ∧ Below w.heap.size w w') := rsame_any n nb l lb hl hlb
  have HSR : Hid (∀ w, Calls Tryd.prog 18 #[.agg (rv n l), .agg (rv nb lb)] w fun e w' => e = .returned (.bool (eqRel (pts n : Nat) (pts nb : Nat) (cl n l) (cl nb lb))) ∧ Below w.heap.size w w') := qsame_any n nb l lb hl hlb
  have HPL : Hid (∀ w, Calls Tryd.prog 19 #[.agg (rv n l)] w fun e w' => e = .returned (.agg (rv ((pts n : Nat) : Int) (cl n l))) ∧ Below w.heap.size w w') := qplain_any n l hl
  have HSP : Hid (∀ w, Calls Tryd.prog 17 #[.agg (rv n l), .agg (rv ((pts n : Nat) : Int) (cl n l))] w fun e w' => e = .returned (.bool true) ∧ Below w.heap.size w w') := fun w => by
    have h := rsame_any n (pts n : Nat) l (cl n l) hl (RW.mk _ _) w
    rw [eqRel_true (by rw [pts_pts]) (by rw [cl_cl])] at h; exact h
  have HCA : Hid (∀ w, Calls Tryd.prog 20 #[.agg (rv n l)] w fun e w' => e = .returned (.bool (closedB n l)) ∧ Below w.heap.size w w') := rclosed_any n l hl
  have HCR : Hid (∀ w, Calls Tryd.prog 21 #[.agg (rv n l)] w fun e w' => e = .returned (.bool (closedB n l)) ∧ Below w.heap.size w w') := qclosed_any n l hl
  have HOA : Hid (∀ w, Calls Tryd.prog 22 #[.agg (rv n l)] w fun e w' => e = .returned (.bool (ordR n l)) ∧ Below w.heap.size w w') := rorder_any 64 sort_64 n l hl (pts_le n)
  have HOR : Hid (∀ w, Calls Tryd.prog 23 #[.agg (rv n l)] w fun e w' => e = .returned (.bool (ordR n l)) ∧ Below w.heap.size w w') := qorder_any n l hl
  have HKA : Hid (∀ w, Calls Tryd.prog 24 #[.agg (rv n l)] w fun e w' => e = .returned (.int .i64 ((nCls (pts n) (clo (pts n) (bt l)) : Nat) : Int)) ∧ Below w.heap.size w w') := rclasses_any 64 sort_64 n l hl (pts_le n)
  have HKR : Hid (∀ w, Calls Tryd.prog 25 #[.agg (rv n l)] w fun e w' => e = .returned (.int .i64 ((nCls (pts n) (clo (pts n) (bt l)) : Nat) : Int)) ∧ Below w.heap.size w w') := qclasses_any n l hl
  have hc : RW (cl n l) := RW.mk _ _
  have HT := Lib.hid hT; clear hT
  generalize hasR n l lo hi = xa at *
  generalize eqRel (pts n : Nat) (pts nb : Nat) (cl n l) (cl nb lb) = xs at *
  generalize closedB n l = xc at *
  generalize ordR n l = xo at *
  generalize nCls (pts n) (clo (pts n) (bt l)) = k at *
  generalize cl n l = lc at *
  generalize pts n = p at *
  have ra : RelAt (((w.alloc (.cells (rv n l) 29)).alloc (.cells (rv nb lb) 29)).alloc (.cells #[.int .i64 lo, .int .i64 hi] 24)) w.heap.size n l := ((RelAt.new w n l).alloc _).alloc _
  have rb : RelAt (((w.alloc (.cells (rv n l) 29)).alloc (.cells (rv nb lb) 29)).alloc (.cells #[.int .i64 lo, .int .i64 hi] 24)) (w.heap.size + 1) nb lb := by
    have h := (RelAt.new (w.alloc (.cells (rv n l) 29)) nb lb).alloc (.cells #[.int .i64 lo, .int .i64 hi] 24)
    simp only [World.size_alloc] at h
    exact h
  have q1 : PairAt (((w.alloc (.cells (rv n l) 29)).alloc (.cells (rv nb lb) 29)).alloc (.cells #[.int .i64 lo, .int .i64 hi] 24)) (w.heap.size + 1 + 1) lo hi := by
    have h := PairAt.new ((w.alloc (.cells (rv n l) 29)).alloc (.cells (rv nb lb) 29)) lo hi
    simp only [World.size_alloc] at h
    exact h
  have hb : Below w.heap.size w (((w.alloc (.cells (rv n l) 29)).alloc (.cells (rv nb lb) 29)).alloc (.cells #[.int .i64 lo, .int .i64 hi] 24)) := (((Below.refl _ _).alloc (Nat.le_refl _) _).alloc (by simp) _).alloc (by simp; omega) _
  have HW := Lib.hid hb; clear hb
  go_enter Tryd.func4, Tryd.ntmps4
  go_wp2_with fail
  generalize (((w.alloc (.cells (rv n l) 29)).alloc (.cells (rv nb lb) 29)).alloc (.cells #[.int .i64 lo, .int .i64 hi] 24)) = W at *
  obtain ⟨S, HS, pW, keepS⟩ := ex_gen W
  have pa := fun w' h => ra.below (pW w' h) ra.lt
  have pb := fun w' h => rb.below (pW w' h) rb.lt
  have pq := fun w' h => q1.below (pW w' h) q1.lt
  have c0 := fun w' h => (pq w' h).c0
  have c1 := fun w' h => (pq w' h).c1
  have PB : Hid (∀ w', S w' → Below w.heap.size w w') := fun w' h => HW.out.trans ((pW w' h).mono HW.out.size)
  clear pW ra rb q1 HW pq
  refine wp_region_ord S [(0, true), (1, true), (2, true), (3, true), (4, true), (6, true), (7, true), (8, true), (9, true), (10, true), (5, false), (11, false), (12, true), (13, true), (14, true), (15, true), (17, true), (18, true), (16, false), (19, false), (20, true), (21, true), (22, true), (23, true), (24, true), (25, false), (26, false), (27, true), (28, true)] (by kernel_rfl) (by kernel_rfl) rfl (by kernel_rfl) HS.out ?_
  iterate 10
    (refine wpOrd_step (o := ?_) ?_ ?_; rotate_left 1; (simp only [List.getElem?_toArray, List.getElem?_cons_succ, List.getElem?_cons_zero]; with_reducible rfl))
    (first
        | (refine wpOrd_skip (by rfl) ?_)
        | (refine wpOrd_take (by rfl) (take_loadRel _ rfl _ rfl _ _ hl pa) ?_)
        | (refine wpOrd_take (by rfl) (take_loadRel _ rfl _ rfl _ _ hlb pb) ?_)
        | (refine wpOrd_take (v := ?_) (by rfl) ?_ ?_; rotate_left 1; (intro wx hSx; have hc_0 := c0 wx hSx; have hc_1 := c1 wx hSx; go_simp; try with_reducible rfl)))
    (try simp only [Act.put, List.setIfInBounds_toArray, List.set_cons_zero, List.set_cons_succ])
  (refine wpOrd_solo (o := ?_) ?_ ?_; rotate_left 1; (simp only [List.getElem?_toArray, List.getElem?_cons_succ, List.getElem?_cons_zero]; with_reducible rfl))
  intro K hK
  go_simp
  go_at_call 14
  refine (HHA.out _).mono ?_
  rintro e w1 ⟨rfl, hb⟩
  have hS := keepS _ _ HS.out hb
  clear HS
  have HS := Lib.hid hS; clear hS hb
  refine hK.out _ _ HS.out ?_
  clear hK K
  (try simp only [Act.put, List.setIfInBounds_toArray, List.set_cons_zero, List.set_cons_succ])
  (refine wpOrd_solo (o := ?_) ?_ ?_; rotate_left 1; (simp only [List.getElem?_toArray, List.getElem?_cons_succ, List.getElem?_cons_zero]; with_reducible rfl))
  intro K hK
  go_simp
  go_at_call 16
  refine (HHR.out _).mono ?_
  rintro e w2 ⟨rfl, hb⟩
  have hS := keepS _ _ HS.out hb
  clear HS
  have HS := Lib.hid hS; clear hS hb
  refine hK.out _ _ HS.out ?_
  clear hK K
  (try simp only [Act.put, List.setIfInBounds_toArray, List.set_cons_zero, List.set_cons_succ])
  iterate 6
    (refine wpOrd_step (o := ?_) ?_ ?_; rotate_left 1; (simp only [List.getElem?_toArray, List.getElem?_cons_succ, List.getElem?_cons_zero]; with_reducible rfl))
    (first
        | (refine wpOrd_skip (by rfl) ?_)
        | (refine wpOrd_take (by rfl) (take_loadRel _ rfl _ rfl _ _ hl pa) ?_)
        | (refine wpOrd_take (by rfl) (take_loadRel _ rfl _ rfl _ _ hlb pb) ?_)
        | (refine wpOrd_take (v := ?_) (by rfl) ?_ ?_; rotate_left 1; (intro wx hSx; have hc_0 := c0 wx hSx; have hc_1 := c1 wx hSx; go_simp; try with_reducible rfl)))
    (try simp only [Act.put, List.setIfInBounds_toArray, List.set_cons_zero, List.set_cons_succ])
  (refine wpOrd_solo (o := ?_) ?_ ?_; rotate_left 1; (simp only [List.getElem?_toArray, List.getElem?_cons_succ, List.getElem?_cons_zero]; with_reducible rfl))
  intro K hK
  go_simp
  go_at_call 17
  refine (HSA.out _).mono ?_
  rintro e w3 ⟨rfl, hb⟩
  have hS := keepS _ _ HS.out hb
  clear HS
  have HS := Lib.hid hS; clear hS hb
  refine hK.out _ _ HS.out ?_
  clear hK K
  (try simp only [Act.put, List.setIfInBounds_toArray, List.set_cons_zero, List.set_cons_succ])
  (refine wpOrd_solo (o := ?_) ?_ ?_; rotate_left 1; (simp only [List.getElem?_toArray, List.getElem?_cons_succ, List.getElem?_cons_zero]; with_reducible rfl))
  intro K hK
  go_simp
  go_at_call 18
  refine (HSR.out _).mono ?_
  rintro e w4 ⟨rfl, hb⟩
  have hS := keepS _ _ HS.out hb
  clear HS
  have HS := Lib.hid hS; clear hS hb
  refine hK.out _ _ HS.out ?_
  clear hK K
  (try simp only [Act.put, List.setIfInBounds_toArray, List.set_cons_zero, List.set_cons_succ])
  iterate 5
    (refine wpOrd_step (o := ?_) ?_ ?_; rotate_left 1; (simp only [List.getElem?_toArray, List.getElem?_cons_succ, List.getElem?_cons_zero]; with_reducible rfl))
    (first
        | (refine wpOrd_skip (by rfl) ?_)
        | (refine wpOrd_take (by rfl) (take_loadRel _ rfl _ rfl _ _ hl pa) ?_)
        | (refine wpOrd_take (by rfl) (take_loadRel _ rfl _ rfl _ _ hlb pb) ?_)
        | (refine wpOrd_take (v := ?_) (by rfl) ?_ ?_; rotate_left 1; (intro wx hSx; have hc_0 := c0 wx hSx; have hc_1 := c1 wx hSx; go_simp; try with_reducible rfl)))
    (try simp only [Act.put, List.setIfInBounds_toArray, List.set_cons_zero, List.set_cons_succ])
  (refine wpOrd_solo (o := ?_) ?_ ?_; rotate_left 1; (simp only [List.getElem?_toArray, List.getElem?_cons_succ, List.getElem?_cons_zero]; with_reducible rfl))
  intro K hK
  go_simp
  go_at_call 19
  refine (HPL.out _).mono ?_
  rintro e w5 ⟨rfl, hb⟩
  have hS := keepS _ _ HS.out hb
  clear HS
  have HS := Lib.hid hS; clear hS hb
  refine hK.out _ _ HS.out ?_
  clear hK K
  (try simp only [Act.put, List.setIfInBounds_toArray, List.set_cons_zero, List.set_cons_succ])
  (refine wpOrd_solo (o := ?_) ?_ ?_; rotate_left 1; (simp only [List.getElem?_toArray, List.getElem?_cons_succ, List.getElem?_cons_zero]; with_reducible rfl))
  intro K hK
  go_simp
  go_at_call 17
  refine (HSP.out _).mono ?_
  rintro e w6 ⟨rfl, hb⟩
  have hS := keepS _ _ HS.out hb
  clear HS
  have HS := Lib.hid hS; clear hS hb
  refine hK.out _ _ HS.out ?_
  clear hK K
  (try simp only [Act.put, List.setIfInBounds_toArray, List.set_cons_zero, List.set_cons_succ])
  iterate 2
    (refine wpOrd_step (o := ?_) ?_ ?_; rotate_left 1; (simp only [List.getElem?_toArray, List.getElem?_cons_succ, List.getElem?_cons_zero]; with_reducible rfl))
    (first
        | (refine wpOrd_skip (by rfl) ?_)
        | (refine wpOrd_take (v := ?_) (by rfl) ?_ ?_; rotate_left 1; (intro wx hSx; go_simp; try with_reducible rfl)))
    (try simp only [Act.put, List.setIfInBounds_toArray, List.set_cons_zero, List.set_cons_succ])
  refine wpOrd_done ?_
  go_wp2_with fail
  have hS := keepS _ _ HS.out ((Below.refl _ _).drew)
  clear HS
  have HS := Lib.hid hS; clear hS
  refine wp_region_ord S [(0, true), (2, true), (1, false), (3, false), (4, true), (5, true), (6, true), (8, true), (7, false), (9, false), (10, true), (11, true), (12, true), (13, true), (15, true), (14, false), (16, false), (17, true), (18, true), (19, true), (20, false), (21, true), (22, true)] (by kernel_rfl) (by kernel_rfl) rfl (by kernel_rfl) HS.out ?_
  iterate 2
    (refine wpOrd_step (o := ?_) ?_ ?_; rotate_left 1; (simp only [List.getElem?_toArray, List.getElem?_cons_succ, List.getElem?_cons_zero]; with_reducible rfl))
    (first
        | (refine wpOrd_skip (by rfl) ?_)
        | (refine wpOrd_take (by rfl) (take_loadRel _ rfl _ rfl _ _ hl pa) ?_)
        | (refine wpOrd_take (by rfl) (take_loadRel _ rfl _ rfl _ _ hlb pb) ?_)
        | (refine wpOrd_take (v := ?_) (by rfl) ?_ ?_; rotate_left 1; (intro wx hSx; have hc_0 := c0 wx hSx; have hc_1 := c1 wx hSx; go_simp; try with_reducible rfl)))
    (try simp only [Act.put, List.setIfInBounds_toArray, List.set_cons_zero, List.set_cons_succ])
  (refine wpOrd_solo (o := ?_) ?_ ?_; rotate_left 1; (simp only [List.getElem?_toArray, List.getElem?_cons_succ, List.getElem?_cons_zero]; with_reducible rfl))
  intro K hK
  go_simp
  go_at_call 20
  refine (HCA.out _).mono ?_
  rintro e w7 ⟨rfl, hb⟩
  have hS := keepS _ _ HS.out hb
  clear HS
  have HS := Lib.hid hS; clear hS hb
  refine hK.out _ _ HS.out ?_
  clear hK K
  (try simp only [Act.put, List.setIfInBounds_toArray, List.set_cons_zero, List.set_cons_succ])
  (refine wpOrd_solo (o := ?_) ?_ ?_; rotate_left 1; (simp only [List.getElem?_toArray, List.getElem?_cons_succ, List.getElem?_cons_zero]; with_reducible rfl))
  intro K hK
  go_simp
  go_at_call 21
  refine (HCR.out _).mono ?_
  rintro e w8 ⟨rfl, hb⟩
  have hS := keepS _ _ HS.out hb
  clear HS
  have HS := Lib.hid hS; clear hS hb
  refine hK.out _ _ HS.out ?_
  clear hK K
  (try simp only [Act.put, List.setIfInBounds_toArray, List.set_cons_zero, List.set_cons_succ])
  iterate 4
    (refine wpOrd_step (o := ?_) ?_ ?_; rotate_left 1; (simp only [List.getElem?_toArray, List.getElem?_cons_succ, List.getElem?_cons_zero]; with_reducible rfl))
    (first
        | (refine wpOrd_skip (by rfl) ?_)
        | (refine wpOrd_take (by rfl) (take_loadRel _ rfl _ rfl _ _ hl pa) ?_)
        | (refine wpOrd_take (by rfl) (take_loadRel _ rfl _ rfl _ _ hlb pb) ?_)
        | (refine wpOrd_take (v := ?_) (by rfl) ?_ ?_; rotate_left 1; (intro wx hSx; have hc_0 := c0 wx hSx; have hc_1 := c1 wx hSx; go_simp; try with_reducible rfl)))
    (try simp only [Act.put, List.setIfInBounds_toArray, List.set_cons_zero, List.set_cons_succ])
  (refine wpOrd_solo (o := ?_) ?_ ?_; rotate_left 1; (simp only [List.getElem?_toArray, List.getElem?_cons_succ, List.getElem?_cons_zero]; with_reducible rfl))
  intro K hK
  go_simp
  go_at_call 22
  refine (HOA.out _).mono ?_
  rintro e w9 ⟨rfl, hb⟩
  have hS := keepS _ _ HS.out hb
  clear HS
  have HS := Lib.hid hS; clear hS hb
  refine hK.out _ _ HS.out ?_
  clear hK K
  (try simp only [Act.put, List.setIfInBounds_toArray, List.set_cons_zero, List.set_cons_succ])
  (refine wpOrd_solo (o := ?_) ?_ ?_; rotate_left 1; (simp only [List.getElem?_toArray, List.getElem?_cons_succ, List.getElem?_cons_zero]; with_reducible rfl))
  intro K hK
  go_simp
  go_at_call 23
  refine (HOR.out _).mono ?_
  rintro e w10 ⟨rfl, hb⟩
  have hS := keepS _ _ HS.out hb
  clear HS
  have HS := Lib.hid hS; clear hS hb
  refine hK.out _ _ HS.out ?_
  clear hK K
  (try simp only [Act.put, List.setIfInBounds_toArray, List.set_cons_zero, List.set_cons_succ])
  iterate 5
    (refine wpOrd_step (o := ?_) ?_ ?_; rotate_left 1; (simp only [List.getElem?_toArray, List.getElem?_cons_succ, List.getElem?_cons_zero]; with_reducible rfl))
    (first
        | (refine wpOrd_skip (by rfl) ?_)
        | (refine wpOrd_take (by rfl) (take_loadRel _ rfl _ rfl _ _ hl pa) ?_)
        | (refine wpOrd_take (by rfl) (take_loadRel _ rfl _ rfl _ _ hlb pb) ?_)
        | (refine wpOrd_take (v := ?_) (by rfl) ?_ ?_; rotate_left 1; (intro wx hSx; have hc_0 := c0 wx hSx; have hc_1 := c1 wx hSx; go_simp; try with_reducible rfl)))
    (try simp only [Act.put, List.setIfInBounds_toArray, List.set_cons_zero, List.set_cons_succ])
  (refine wpOrd_solo (o := ?_) ?_ ?_; rotate_left 1; (simp only [List.getElem?_toArray, List.getElem?_cons_succ, List.getElem?_cons_zero]; with_reducible rfl))
  intro K hK
  go_simp
  go_at_call 24
  refine (HKA.out _).mono ?_
  rintro e w11 ⟨rfl, hb⟩
  have hS := keepS _ _ HS.out hb
  clear HS
  have HS := Lib.hid hS; clear hS hb
  refine hK.out _ _ HS.out ?_
  clear hK K
  (try simp only [Act.put, List.setIfInBounds_toArray, List.set_cons_zero, List.set_cons_succ])
  (refine wpOrd_solo (o := ?_) ?_ ?_; rotate_left 1; (simp only [List.getElem?_toArray, List.getElem?_cons_succ, List.getElem?_cons_zero]; with_reducible rfl))
  intro K hK
  go_simp
  go_at_call 25
  refine (HKR.out _).mono ?_
  rintro e w12 ⟨rfl, hb⟩
  have hS := keepS _ _ HS.out hb
  clear HS
  have HS := Lib.hid hS; clear hS hb
  refine hK.out _ _ HS.out ?_
  clear hK K
  (try simp only [Act.put, List.setIfInBounds_toArray, List.set_cons_zero, List.set_cons_succ])
  iterate 3
    (refine wpOrd_step (o := ?_) ?_ ?_; rotate_left 1; (simp only [List.getElem?_toArray, List.getElem?_cons_succ, List.getElem?_cons_zero]; with_reducible rfl))
    (first
        | (refine wpOrd_skip (by rfl) ?_)
        | (refine wpOrd_take (v := ?_) (by rfl) ?_ ?_; rotate_left 1; (intro wx hSx; go_simp; try with_reducible rfl)))
    (try simp only [Act.put, List.setIfInBounds_toArray, List.set_cons_zero, List.set_cons_succ])
  (refine wpOrd_solo (o := ?_) ?_ ?_; rotate_left 1; (simp only [List.getElem?_toArray, List.getElem?_cons_succ, List.getElem?_cons_zero]; with_reducible rfl))
  intro K hK
  go_simp
  go_at_call 9
  refine (ralive_any _ (HT.out.below (PB.out _ HS.out))).mono ?_
  rintro e w13 ⟨rfl, hb⟩
  have hS := keepS _ _ HS.out hb
  clear HS
  have HS := Lib.hid hS; clear hS hb
  refine hK.out _ _ HS.out ?_
  clear hK K
  (try simp only [Act.put, List.setIfInBounds_toArray, List.set_cons_zero, List.set_cons_succ])
  iterate 2
    (refine wpOrd_step (o := ?_) ?_ ?_; rotate_left 1; (simp only [List.getElem?_toArray, List.getElem?_cons_succ, List.getElem?_cons_zero]; with_reducible rfl))
    (first
        | (refine wpOrd_skip (by rfl) ?_)
        | (refine wpOrd_take (v := ?_) (by rfl) ?_ ?_; rotate_left 1; (intro wx hSx; go_simp; try with_reducible rfl)))
    (try simp only [Act.put, List.setIfInBounds_toArray, List.set_cons_zero, List.set_cons_succ])
  refine wpOrd_done ?_
  go_wp2_with fail
  go_ret
  exact ⟨rfl, PB.out _ HS.out⟩
end Go.Proofs.YtepmcdneafpmeaaDoor
