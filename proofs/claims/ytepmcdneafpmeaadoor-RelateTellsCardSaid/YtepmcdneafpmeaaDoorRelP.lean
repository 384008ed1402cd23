/-
  RelateReaches holds. Conditions: 64 words below 2^64; the table of math/bits in memory.
-/
import Derived.Test.YtepmcdneafpmeaaDoorRelN
namespace Go.Proofs.YtepmcdneafpmeaaDoor
open Go.RowKit RM

/-- What a region may be told of the worlds that come: what was there is as it was. -/
theorem ex_gen (W : World) : ∃ S : World → Prop, Hid (S W.drew) ∧ (∀ w', S w' → Below W.heap.size W w') ∧ (∀ wa wb, S wa → Below wa.heap.size wa wb → S wb) :=
  ⟨fun w' => Below W.heap.size W w', (Below.refl _ _).drew, fun _ h => h, fun _ _ h hb => h.trans (hb.mono h.size)⟩
theorem hasR_cz (n : Int) (l : List Nat) (i j : Int) : hasR (pts n : Nat) (cz n l) i j = rchB n l i j := by
  unfold hasR rchB isPt
  rw [pts_pts, bt_cz]
/-- A pair in a block of its own. -/
def PairAt (w : World) (g : Nat) (lo hi : Int) : Prop := w.heap[g]? = some (.cells #[.int .i64 lo, .int .i64 hi] 24 (0, 0))
section
variable {w w' : World} {g : Nat} {lo hi : Int}
theorem PairAt.lt (h : PairAt w g lo hi) : g < w.heap.size := (Array.getElem?_eq_some_iff.1 h).1
theorem PairAt.c0 (h : PairAt w g lo hi) : w.cell? ⟨g, 0, none⟩ = some (.int .i64 lo) := by rw [cell_of_row w g 0 _ 24 (0, 0) h]; rfl
theorem PairAt.c1 (h : PairAt w g lo hi) : w.cell? ⟨g, 1, none⟩ = some (.int .i64 hi) := by rw [cell_of_row w g 1 _ 24 (0, 0) h]; rfl
theorem PairAt.new (w : World) (lo hi : Int) : PairAt (w.alloc (.cells #[.int .i64 lo, .int .i64 hi] 24)) w.heap.size lo hi := heap_alloc_new w _
theorem PairAt.alloc (h : PairAt w g lo hi) (o : Obj) : PairAt (w.alloc o) g lo hi := (heap_alloc_old w o h.lt).trans h
theorem PairAt.below {B : Nat} (h : PairAt w g lo hi) (hb : Below B w w') (hg : g < B) : PairAt w' g lo hi := (hb.block g hg).trans h
theorem PairAt.other {q : Nat} (hr : PairAt w g lo hi) (h : Else q w w') (hq : g ≠ q) : PairAt w' g lo hi := (h.block g hq).trans hr
end
set_option maxHeartbeats 1000000 in
theorem relateReaches_law (n : Int) (l : List Nat) (hl : RW l) (lo hi : Int) (w : World) (hT : Tab w) :
    Calls Tryd.prog 5 #[.agg (rv n l), .agg #[.int .i64 lo, .int .i64 hi]] w fun e w' => e = .returned (.bool true) ∧ Below w.heap.size w w' := by
  have HCLO : Hid (∀ w, Calls Tryd.prog 26 #[.agg (rv n l)] w fun e w' => e = .returned (.agg (rv ((pts n : Nat) : Int) (cz n l))) ∧ Below w.heap.size w w') := rclosure_any n l hl
  have HHAS : Hid (∀ w, Calls Tryd.prog 16 #[.agg (rv ((pts n : Nat) : Int) (cz n l)), .int .i64 lo, .int .i64 hi] w fun e w' => e = .returned (.bool (rchB n l lo hi)) ∧ Below w.heap.size w w') := fun w => by
    rw [← hasR_cz]; exact qhas_any _ _ (RW.mk _ _) lo hi w
  have HPT : Hid (∀ w, Calls Tryd.prog 12 #[.agg (rv n l)] w fun e w' => e = .returned (.int .i64 ((pts n : Nat) : Int)) ∧ Below w.heap.size w w') := fun w => qpoints_any n l w
  have HT := Lib.hid hT; clear hT
  have hz : RW (cz n l) := RW.mk _ _
  generalize cz n l = lz at *
  generalize pts n = p at *
  go_enter Tryd.func5, Tryd.ntmps5
  go_wp2_with (refine wpList_loadRel rfl _ rfl w.heap.size rfl n l hl ((RelAt.new _ _ _).alloc _) ?_)
  refine (HCLO.out _).mono ?_
  rintro e w1 ⟨rfl, hb1⟩
  have r1 : RelAt w1 w.heap.size n l := ((RelAt.new w n l).alloc _).below hb1 (by simp; omega)
  have q1 : PairAt w1 (w.heap.size + 1) lo hi := by
    have := PairAt.new (w.alloc (.cells (rv n l) 29)) lo hi
    simp only [World.size_alloc] at this
    exact this.below hb1 (by simp)
  have hb : Below w.heap.size w w1 := (((Below.refl _ _).alloc (Nat.le_refl _) _).alloc (by simp) _).trans (hb1.mono (by simp; omega))
  have HB := Lib.hid hb; clear hb hb1
  go_wp2_with (refine wpList_storeRel rfl _ _ rfl w1.heap.size rfl _ _ rfl 0 zs RW.zs hz ?c2 ?_; (case c2 => rw [zero_rel]; exact RelAt.new _ _ _); intro W r3 he)
  have r2 := (r1.alloc (.cells Tryd.zeroCells29 29)).other he (Nat.ne_of_lt r1.lt)
  have q2 := (q1.alloc (.cells Tryd.zeroCells29 29)).other he (Nat.ne_of_lt q1.lt)
  have HW := Lib.hid ((HB.out.alloc HB.out.size (.cells Tryd.zeroCells29 29)).trans (he.below HB.out.size))
  clear he r1 q1 HB
  generalize w1.heap.size = g3 at *
  obtain ⟨S, HS, pb, keepS⟩ := ex_gen W
  have p1 := fun w' h => r2.below (pb w' h) r2.lt
  have p3 := fun w' h => r3.below (pb w' h) r3.lt
  have c0 := fun w' h => (q2.below (pb w' h) q2.lt).c0
  have c1 := fun w' h => (q2.below (pb w' h) q2.lt).c1
  have c3 := fun w' h => (p3 w' h).cell0
  have PB : Hid (∀ w', S w' → Below w.heap.size w w') := fun w' h => HW.out.trans ((pb w' h).mono HW.out.size)
  clear pb r2 r3 q2 HW
  refine wp_region_ord S [(0, true), (1, true), (2, true), (3, false), (4, true), (5, true), (6, true), (7, true), (8, true), (9, true), (10, true), (12, true), (13, true), (14, true), (16, true), (17, true), (11, false), (15, false), (18, false), (19, true), (20, true), (21, true), (22, false), (23, true), (24, true)] (by kernel_rfl) (by kernel_rfl) rfl (by kernel_rfl) HS.out ?_
  iterate 3
    (refine wpOrd_step (o := ?_) ?_ ?_; rotate_left 1; (simp only [List.getElem?_toArray, List.getElem?_cons_succ, List.getElem?_cons_zero]; with_reducible rfl))
    (first
        | (refine wpOrd_skip (by rfl) ?_)
        | (refine wpOrd_take (by rfl) (take_loadRel _ rfl _ rfl _ _ hl p1) ?_)
        | (refine wpOrd_take (by rfl) (take_loadRel _ rfl _ rfl _ _ hz p3) ?_)
        | (refine wpOrd_take (v := ?_) (by rfl) ?_ ?_; rotate_left 1; (intro wx hSx; have hc_0 := c0 wx hSx; have hc_1 := c1 wx hSx; have hc_2 := c3 wx hSx; go_simp; try with_reducible rfl)))
    (try simp only [Act.put, List.setIfInBounds_toArray, List.set_cons_zero, List.set_cons_succ])
  (refine wpOrd_solo (o := ?_) ?_ ?_; rotate_left 1; (simp only [List.getElem?_toArray, List.getElem?_cons_succ, List.getElem?_cons_zero]; with_reducible rfl))
  intro K hK
  go_simp
  go_at_call 12
  refine (HPT.out _).mono ?_
  rintro e w3 ⟨rfl, hb⟩
  have hS := keepS _ _ HS.out hb
  clear HS
  have HS := Lib.hid hS; clear hS hb
  refine hK.out _ _ HS.out ?_
  clear hK K
  (try simp only [Act.put, List.setIfInBounds_toArray, List.set_cons_zero, List.set_cons_succ])
  iterate 12
    (refine wpOrd_step (o := ?_) ?_ ?_; rotate_left 1; (simp only [List.getElem?_toArray, List.getElem?_cons_succ, List.getElem?_cons_zero]; with_reducible rfl))
    (first
        | (refine wpOrd_skip (by rfl) ?_)
        | (refine wpOrd_take (by rfl) (take_loadRel _ rfl _ rfl _ _ hl p1) ?_)
        | (refine wpOrd_take (by rfl) (take_loadRel _ rfl _ rfl _ _ hz p3) ?_)
        | (refine wpOrd_take (v := ?_) (by rfl) ?_ ?_; rotate_left 1; (intro wx hSx; have hc_0 := c0 wx hSx; have hc_1 := c1 wx hSx; have hc_2 := c3 wx hSx; go_simp; try with_reducible rfl)))
    (try simp only [Act.put, List.setIfInBounds_toArray, List.set_cons_zero, List.set_cons_succ])
  (refine wpOrd_solo (o := ?_) ?_ ?_; rotate_left 1; (simp only [List.getElem?_toArray, List.getElem?_cons_succ, List.getElem?_cons_zero]; with_reducible rfl))
  intro K hK
  go_simp
  go_at_call 16
  refine (HHAS.out _).mono ?_
  rintro e w4 ⟨rfl, hb⟩
  have hS := keepS _ _ HS.out hb
  clear HS
  have HS := Lib.hid hS; clear hS hb
  refine hK.out _ _ HS.out ?_
  clear hK K
  (try simp only [Act.put, List.setIfInBounds_toArray, List.set_cons_zero, List.set_cons_succ])
  (refine wpOrd_solo (o := ?_) ?_ ?_; rotate_left 1; (simp only [List.getElem?_toArray, List.getElem?_cons_succ, List.getElem?_cons_zero]; with_reducible rfl))
  intro K hK
  go_simp
  go_at_call 28
  refine (qreach_any n l hl lo _).mono ?_
  rintro e w5 ⟨A, c, xs, rfl, hxl, hown, hb, hcon⟩
  have hS := keepS _ _ HS.out hb
  clear HS
  have HS := Lib.hid hS; clear hS hb
  have HI := Lib.hid (OwnI.ints hown); clear hown
  have HC := Lib.hid (hcon hi); clear hcon
  refine hK.out _ _ HS.out ?_
  clear hK K
  (try simp only [Act.put, List.setIfInBounds_toArray, List.set_cons_zero, List.set_cons_succ])
  (refine wpOrd_solo (o := ?_) ?_ ?_; rotate_left 1; (simp only [List.getElem?_toArray, List.getElem?_cons_succ, List.getElem?_cons_zero]; with_reducible rfl))
  intro K hK
  go_simp
  go_at_call 27
  refine (qin_any A c xs hi _ (by omega) HI.out).mono ?_
  rintro e w' ⟨rfl, rfl⟩
  refine hK.out _ _ HS.out ?_
  clear hK K
  (try simp only [Act.put, List.setIfInBounds_toArray, List.set_cons_zero, List.set_cons_succ])
  rw [HC.out]
  iterate 3
    (refine wpOrd_step (o := ?_) ?_ ?_; rotate_left 1; (simp only [List.getElem?_toArray, List.getElem?_cons_succ, List.getElem?_cons_zero]; with_reducible rfl))
    (first
        | (refine wpOrd_skip (by rfl) ?_)
        | (refine wpOrd_take (v := ?_) (by rfl) ?_ ?_; rotate_left 1; (intro wx hSx; go_simp; try with_reducible rfl)))
    (try simp only [Act.put, List.setIfInBounds_toArray, List.set_cons_zero, List.set_cons_succ])
  (refine wpOrd_solo (o := ?_) ?_ ?_; rotate_left 1; (simp only [List.getElem?_toArray, List.getElem?_cons_succ, List.getElem?_cons_zero]; with_reducible rfl))
  intro K hK
  go_simp
  go_at_call 9
  refine (ralive_any _ (HT.out.below (PB.out _ HS.out))).mono ?_
  rintro e w6 ⟨rfl, hb⟩
  have hS := keepS _ _ HS.out hb
  clear HS
  have HS := Lib.hid hS; clear hS hb
  refine hK.out _ _ HS.out ?_
  clear hK K
  (try simp only [Act.put, List.setIfInBounds_toArray, List.set_cons_zero, List.set_cons_succ])
  iterate 2
    (refine wpOrd_step (o := ?_) ?_ ?_; rotate_left 1; (simp only [List.getElem?_toArray, List.getElem?_cons_succ, List.getElem?_cons_zero]; with_reducible rfl))
    (first
        | (refine wpOrd_skip (by rfl) ?_)
        | (refine wpOrd_take (v := ?_) (by rfl) ?_ ?_; rotate_left 1; (intro wx hSx; go_simp; try with_reducible rfl)))
    (try simp only [Act.put, List.setIfInBounds_toArray, List.set_cons_zero, List.set_cons_succ])
  refine wpOrd_done ?_
  have HB6 := Lib.hid (PB.out _ HS.out)
  clear p1 p3 c0 c1 c3 PB HS keepS
  go_wp2_with fail
  go_ret
  exact ⟨rfl, HB6.out⟩
end Go.Proofs.YtepmcdneafpmeaaDoor
