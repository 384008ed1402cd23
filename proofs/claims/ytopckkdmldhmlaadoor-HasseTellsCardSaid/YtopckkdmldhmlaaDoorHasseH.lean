/-
  HasseBounds, HasseTells and HasseWords: they return true. Conditions: 64 words below 2^64; the table of math/bits in memory.
-/
import Derived.Test.YtopckkdmldhmlaaDoorHasseQ
import Derived.Deep.CutRange
namespace Go.Proofs.YtopckkdmldhmlaaDoor
open Go.RowKit RM

/-- A pair of words in a block of its own. -/
def TwoAt (w : World) (g : Nat) (a b : Nat) : Prop := w.heap[g]? = some (.cells #[.int .u64 (a : Int), .int .u64 (b : Int)] 35 (0, 0))
section
variable {w w' : World} {g : Nat} {a b : Nat}
theorem TwoAt.lt (h : TwoAt w g a b) : g < w.heap.size := (Array.getElem?_eq_some_iff.1 h).1
theorem TwoAt.c0 (h : TwoAt w g a b) : w.cell? ⟨g, 0, none⟩ = some (.int .u64 (a : Int)) := by rw [cell_of_row w g 0 _ 35 (0, 0) h]; rfl
theorem TwoAt.c1 (h : TwoAt w g a b) : w.cell? ⟨g, 1, none⟩ = some (.int .u64 (b : Int)) := by rw [cell_of_row w g 1 _ 35 (0, 0) h]; rfl
theorem TwoAt.new (w : World) (a b : Nat) : TwoAt (w.alloc (.cells #[.int .u64 (a : Int), .int .u64 (b : Int)] 35)) w.heap.size a b := heap_alloc_new w _
theorem TwoAt.below {B : Nat} (h : TwoAt w g a b) (hb : Below B w w') (hg : g < B) : TwoAt w' g a b := (hb.block g hg).trans h
end
theorem optV_ex (o : Option Nat) : ∃ (r1 : Nat) (r2 : Bool), optV o = .tuple #[.int .i64 (r1 : Int), .bool r2] := ⟨_, _, rfl⟩

set_option maxRecDepth 8000 in
set_option maxHeartbeats 2000000 in
theorem hasseBounds_law (n : Int) (l : List Nat) (hl : RW l) (lo hi : Int) (w : World) (hT : Tab w) :
    Calls Tryd.prog 3 #[.agg (rv n l), .agg #[.int .i64 lo, .int .i64 hi]] w fun e w' => e = .returned (.bool true) ∧ Below w.heap.size w w' := by
  obtain ⟨j1, j2, ej⟩ := optV_ex (joinR n l lo hi)
  obtain ⟨m1, m2, em⟩ := optV_ex (meetR n l lo hi)
  have HJA : Hid (∀ w, Tab w → Calls Tryd.prog 8 #[.agg (rv n l), .int .i64 lo, .int .i64 hi] w fun e w' => e = .returned (.tuple #[.int .i64 (j1 : Int), .bool j2]) ∧ Below w.heap.size w w') := fun w h => by rw [← ej]; exact hjoin_any n l hl lo hi w h
  have HJB : Hid (∀ w, Calls Tryd.prog 9 #[.agg (rv n l), .int .i64 lo, .int .i64 hi] w fun e w' => e = .returned (.tuple #[.int .i64 (j1 : Int), .bool j2]) ∧ Below w.heap.size w w') := fun w => by rw [← ej]; exact qjoin_any n l hl lo hi w
  have HMA : Hid (∀ w, Calls Tryd.prog 10 #[.agg (rv n l), .int .i64 lo, .int .i64 hi] w fun e w' => e = .returned (.tuple #[.int .i64 (m1 : Int), .bool m2]) ∧ Below w.heap.size w w') := fun w => by rw [← em]; exact hmeet_any n l hl lo hi w
  have HMB : Hid (∀ w, Calls Tryd.prog 11 #[.agg (rv n l), .int .i64 lo, .int .i64 hi] w fun e w' => e = .returned (.tuple #[.int .i64 (m1 : Int), .bool m2]) ∧ Below w.heap.size w w') := fun w => by rw [← em]; exact qmeet_any n l hl lo hi w
  clear ej em
  have HT := Lib.hid hT; clear hT
  have r0 : RelAt ((w.alloc (.cells (rv n l) 25)).alloc (.cells #[.int .i64 lo, .int .i64 hi] 27)) w.heap.size n l := (RelAt.new w n l).alloc _
  have p0 : PairAt ((w.alloc (.cells (rv n l) 25)).alloc (.cells #[.int .i64 lo, .int .i64 hi] 27)) (w.heap.size + 1) lo hi := by
    have := PairAt.new (w.alloc (.cells (rv n l) 25)) lo hi
    simpa using this
  have hb : Below w.heap.size w ((w.alloc (.cells (rv n l) 25)).alloc (.cells #[.int .i64 lo, .int .i64 hi] 27)) := ((Below.refl _ _).alloc (Nat.le_refl _) _).alloc (by simp) _
  have HB0 := Lib.hid hb; clear hb
  go_enter Tryd.func3, Tryd.ntmps3
  go_upto_region 1 with fail
  generalize (w.alloc (.cells (rv n l) 25)).alloc (.cells #[.int .i64 lo, .int .i64 hi] 27) = w0 at *
  have c0 := p0.c0
  have c1 := p0.c1
  go_wp2_with (refine wpList_loadRel rfl _ rfl w.heap.size rfl n l hl r0 ?_)
  refine (HJA.out _ (HT.out.below HB0.out)).mono ?_
  rintro e w1 ⟨rfl, hb⟩
  have r1 := r0.below hb r0.lt
  have p1 := p0.below hb p0.lt
  clear c0 c1
  have HB1 := Lib.hid (HB0.out.trans (hb.mono HB0.out.size))
  clear hb r0 HB0 p0
  have c0 := p1.c0
  have c1 := p1.c1
  go_wp2_with (refine wpList_loadRel rfl _ rfl w.heap.size rfl n l hl r1 ?_)
  refine (HJB.out _).mono ?_
  rintro e w2 ⟨rfl, hb⟩
  have r2 := r1.below hb r1.lt
  have p2 := p1.below hb p1.lt
  clear c0 c1
  have HB2 := Lib.hid (HB1.out.trans (hb.mono HB1.out.size))
  clear hb r1 HB1 p1
  have c0 := p2.c0
  have c1 := p2.c1
  go_wp2_with (refine wpList_loadRel rfl _ rfl w.heap.size rfl n l hl r2 ?_)
  refine (HMA.out _).mono ?_
  rintro e w3 ⟨rfl, hb⟩
  have r3 := r2.below hb r2.lt
  have p3 := p2.below hb p2.lt
  clear c0 c1
  have HB3 := Lib.hid (HB2.out.trans (hb.mono HB2.out.size))
  clear hb r2 HB2 p2
  have c0 := p3.c0
  have c1 := p3.c1
  go_wp2_with (refine wpList_loadRel rfl _ rfl w.heap.size rfl n l hl r3 ?_)
  refine (HMB.out _).mono ?_
  rintro e w4 ⟨rfl, hb⟩
  have r4 := r3.below hb r3.lt
  have p4 := p3.below hb p3.lt
  clear c0 c1
  have HB4 := Lib.hid (HB3.out.trans (hb.mono HB3.out.size))
  clear hb r3 HB3 p3
  go_wp2_with fail
  refine (halive_any _ (HT.out.below HB4.out)).mono ?_
  rintro e w5 ⟨rfl, hb⟩
  have HB5 := Lib.hid (HB4.out.trans (hb.mono HB4.out.size)); clear hb
  go_wp2_with fail
  go_ret
  exact ⟨rfl, HB5.out⟩

set_option maxRecDepth 8000 in
set_option maxHeartbeats 2000000 in
theorem hasseTells_law (n : Int) (l : List Nat) (hl : RW l) (w : World) (hT : Tab w) :
    Calls Tryd.prog 4 #[.agg (rv n l)] w fun e w' => e = .returned (.bool true) ∧ Below w.heap.size w w' := by
  obtain ⟨j1, j2, ej⟩ := optV_ex (bottomR n l)
  obtain ⟨m1, m2, em⟩ := optV_ex (topR n l)
  have HJA : Hid (∀ w, Tab w → Calls Tryd.prog 13 #[.agg (rv n l)] w fun e w' => e = .returned (.tuple #[.int .i64 (j1 : Int), .bool j2]) ∧ Below w.heap.size w w') := fun w h => by rw [← ej]; exact hbottom_any n l hl w h
  have HJB : Hid (∀ w, Calls Tryd.prog 14 #[.agg (rv n l), .bool false] w fun e w' => e = .returned (.tuple #[.int .i64 (j1 : Int), .bool j2]) ∧ Below w.heap.size w w') := fun w => by rw [← ej]; exact qbottom_any n l hl w
  have HMA : Hid (∀ w, Calls Tryd.prog 15 #[.agg (rv n l)] w fun e w' => e = .returned (.tuple #[.int .i64 (m1 : Int), .bool m2]) ∧ Below w.heap.size w w') := fun w => by rw [← em]; exact htop_any n l hl w
  have HMB : Hid (∀ w, Calls Tryd.prog 14 #[.agg (rv n l), .bool true] w fun e w' => e = .returned (.tuple #[.int .i64 (m1 : Int), .bool m2]) ∧ Below w.heap.size w w') := fun w => by rw [← em]; exact qtop_any n l hl w
  have HLA : Hid (∀ w, Tab w → Calls Tryd.prog 16 #[.agg (rv n l)] w fun e w' => e = .returned (.bool (latB n l)) ∧ Below w.heap.size w w') := fun w h => hlattice_any n l hl w h
  have HLB : Hid (∀ w, Calls Tryd.prog 17 #[.agg (rv n l)] w fun e w' => e = .returned (.bool (latB n l)) ∧ Below w.heap.size w w') := fun w => qlattice_any n l hl w
  clear ej em
  generalize latB n l = b at *
  have HT := Lib.hid hT; clear hT
  have r0 := RelAt.new w n l
  have hb : Below w.heap.size w (w.alloc (.cells (rv n l) 25)) := (Below.refl _ _).alloc (Nat.le_refl _) _
  have HB0 := Lib.hid hb; clear hb
  go_enter Tryd.func4, Tryd.ntmps4
  go_upto_region 1 with fail
  generalize w.alloc (.cells (rv n l) 25) = w0 at *
  go_wp2_with (refine wpList_loadRel rfl _ rfl w.heap.size rfl n l hl r0 ?_)
  refine (HJA.out _ (HT.out.below HB0.out)).mono ?_
  rintro e w1 ⟨rfl, hb⟩
  have r1 := r0.below hb r0.lt
  have HB1 := Lib.hid (HB0.out.trans (hb.mono HB0.out.size))
  clear hb r0 HB0
  go_wp2_with (refine wpList_loadRel rfl _ rfl w.heap.size rfl n l hl r1 ?_)
  refine (HJB.out _).mono ?_
  rintro e w2 ⟨rfl, hb⟩
  have r2 := r1.below hb r1.lt
  have HB2 := Lib.hid (HB1.out.trans (hb.mono HB1.out.size))
  clear hb r1 HB1
  go_wp2_with (refine wpList_loadRel rfl _ rfl w.heap.size rfl n l hl r2 ?_)
  refine (HMA.out _).mono ?_
  rintro e w3 ⟨rfl, hb⟩
  have r3 := r2.below hb r2.lt
  have HB3 := Lib.hid (HB2.out.trans (hb.mono HB2.out.size))
  clear hb r2 HB2
  go_wp2_with (refine wpList_loadRel rfl _ rfl w.heap.size rfl n l hl r3 ?_)
  refine (HMB.out _).mono ?_
  rintro e w4 ⟨rfl, hb⟩
  have r4 := r3.below hb r3.lt
  have HB4 := Lib.hid (HB3.out.trans (hb.mono HB3.out.size))
  clear hb r3 HB3
  go_wp2_with fail
  obtain ⟨S, HS, pW, keepS⟩ := ex_gen w4
  have pR := fun w' h => r4.below (pW w' h) r4.lt
  have PB : Hid (∀ w', S w' → Below w.heap.size w w') := fun w' h => HB4.out.trans ((pW w' h).mono HB4.out.size)
  clear pW r4 HB4
  cases b
  all_goals
    refine wp_region_ord S [(0, true), (2, true), (1, false), (3, false), (4, true), (5, true), (6, true), (7, true), (8, true), (9, true), (10, true), (11, true), (12, true), (13, true), (14, true), (15, true), (16, true), (17, true), (18, true), (19, true), (20, true), (21, true), (22, true), (23, true), (24, true), (25, true), (26, false), (27, true), (28, true)] (by kernel_rfl) (by kernel_rfl) rfl (by kernel_rfl) HS.out ?_
    generalize w4.drew = V at HS ⊢
    iterate 2
      (refine wpOrd_step (o := ?_) ?_ ?_; rotate_left 1; (simp only [List.getElem?_toArray, List.getElem?_cons_succ, List.getElem?_cons_zero]; with_reducible rfl))
      (first
          | (refine wpOrd_skip (by rfl) ?_)
          | (refine wpOrd_take (by rfl) (take_loadRel _ rfl _ rfl _ _ hl pR) ?_)
          | (refine wpOrd_take (v := ?_) (by rfl) ?_ ?_; rotate_left 1; (intro wx hSx; go_simp; try with_reducible rfl)))
      (try simp only [Act.put, List.setIfInBounds_toArray, List.set_cons_zero, List.set_cons_succ])
    (refine wpOrd_solo (o := ?_) ?_ ?_; rotate_left 1; (simp only [List.getElem?_toArray, List.getElem?_cons_succ, List.getElem?_cons_zero]; with_reducible rfl))
    intro K hK
    go_simp
    go_at_call 16
    refine (HLA.out _ (HT.out.below (PB.out _ HS.out))).mono ?_
    rintro e w5 ⟨rfl, hb⟩
    have hS := keepS _ _ HS.out hb
    clear HS
    have HS := Lib.hid hS; clear hS hb
    refine hK.out _ _ HS.out ?_
    clear hK K
    (try simp only [Act.put, List.setIfInBounds_toArray, List.set_cons_zero, List.set_cons_succ])
    (refine wpOrd_solo (o := ?_) ?_ ?_; rotate_left 1; (simp only [List.getElem?_toArray, List.getElem?_cons_succ, List.getElem?_cons_zero]; with_reducible rfl))
    intro K hK
    go_simp
    go_at_call 17
    refine (HLB.out _).mono ?_
    rintro e w6 ⟨rfl, hb⟩
    have hS := keepS _ _ HS.out hb
    clear HS
    have HS := Lib.hid hS; clear hS hb
    refine hK.out _ _ HS.out ?_
    clear hK K
    (try simp only [Act.put, List.setIfInBounds_toArray, List.set_cons_zero, List.set_cons_succ])
    iterate 22
      (refine wpOrd_step (o := ?_) ?_ ?_; rotate_left 1; (simp only [List.getElem?_toArray, List.getElem?_cons_succ, List.getElem?_cons_zero]; with_reducible rfl))
      (first
          | (refine wpOrd_skip (by rfl) ?_)
          | (refine wpOrd_take (v := ?_) (by rfl) ?_ ?_; rotate_left 1; (intro wx hSx; go_simp; try with_reducible rfl)))
      (try simp only [Act.put, List.setIfInBounds_toArray, List.set_cons_zero, List.set_cons_succ])
    (refine wpOrd_solo (o := ?_) ?_ ?_; rotate_left 1; (simp only [List.getElem?_toArray, List.getElem?_cons_succ, List.getElem?_cons_zero]; with_reducible rfl))
    intro K hK
    go_simp
    go_at_call 12
    refine (halive_any _ (HT.out.below (PB.out _ HS.out))).mono ?_
    rintro e w7 ⟨rfl, hb⟩
    have hS := keepS _ _ HS.out hb
    clear HS
    have HS := Lib.hid hS; clear hS hb
    refine hK.out _ _ HS.out ?_
    clear hK K
    (try simp only [Act.put, List.setIfInBounds_toArray, List.set_cons_zero, List.set_cons_succ])
    iterate 2
      (refine wpOrd_step (o := ?_) ?_ ?_; rotate_left 1; (simp only [List.getElem?_toArray, List.getElem?_cons_succ, List.getElem?_cons_zero]; with_reducible rfl))
      (first
          | (refine wpOrd_skip (by rfl) ?_)
          | (refine wpOrd_take (v := ?_) (by rfl) ?_ ?_; rotate_left 1; (intro wx hSx; go_simp; try with_reducible rfl)))
      (try simp only [Act.put, List.setIfInBounds_toArray, List.set_cons_zero, List.set_cons_succ])
    refine wpOrd_done ?_
    have HB7 := Lib.hid (PB.out _ HS.out)
    clear pR PB HS keepS
    go_wp2_with fail
    go_ret
    exact ⟨rfl, HB7.out⟩

set_option maxRecDepth 8000 in
set_option maxHeartbeats 2000000 in
theorem hasseWords_law (n : Int) (l : List Nat) (hl : RW l) (a b : Nat) (ha : a < 18446744073709551616) (hb0 : b < 18446744073709551616) (i : Int) (w : World) (hT : Tab w) :
    Calls Tryd.prog 5 #[.agg (rv n l), .agg #[.int .u64 (a : Int), .int .u64 (b : Int)], .int .i64 i] w fun e w' => e = .returned (.bool true) ∧ Below w.heap.size w w' := by
  obtain ⟨j1, j2, ej⟩ := optV_ex (ptO n l a)
  have HJA : Hid (∀ w, Calls Tryd.prog 18 #[.agg (rv n l), .int .u64 (a : Int)] w fun e w' => e = .returned (.tuple #[.int .i64 (j1 : Int), .bool j2]) ∧ Below w.heap.size w w') := fun w => by rw [← ej]; exact hpoint_any n l hl a w
  have HJB : Hid (∀ w, Calls Tryd.prog 19 #[.agg (rv n l), .int .u64 (a : Int)] w fun e w' => e = .returned (.tuple #[.int .i64 (j1 : Int), .bool j2]) ∧ Below w.heap.size w w') := fun w => by rw [← ej]; exact qpoint_any n l hl a w
  have HWA : Hid (∀ w, Calls Tryd.prog 20 #[.agg (rv n l), .int .i64 i] w fun e w' => e = .returned (.int .u64 ((wordN n l i : Nat) : Int)) ∧ Below w.heap.size w w') := fun w => hword_any n l hl i w
  have HWB : Hid (∀ w, Calls Tryd.prog 21 #[.agg (rv n l), .int .i64 i] w fun e w' => e = .returned (.int .u64 ((wordN n l i : Nat) : Int)) ∧ Below w.heap.size w w') := fun w => qword_any n l hl i w
  have HRA : Hid (∀ w, Tab w → Calls Tryd.prog 22 #[.agg (rv n l), .int .u64 (a : Int), .int .u64 (b : Int)] w fun e w' => e = .returned (.int .u64 ((raiseN n l a b : Nat) : Int)) ∧ Below w.heap.size w w') := fun w h => hraise_any n l hl a b ha hb0 w h
  have HRB : Hid (∀ w, Calls Tryd.prog 23 #[.agg (rv n l), .int .u64 (a : Int), .int .u64 (b : Int)] w fun e w' => e = .returned (.int .u64 ((raiseN n l a b : Nat) : Int)) ∧ Below w.heap.size w w') := fun w => qraise_any n l hl a b ha hb0 w
  clear ej
  generalize wordN n l i = x at *
  generalize raiseN n l a b = y at *
  have HT := Lib.hid hT; clear hT
  have r0 : RelAt ((w.alloc (.cells (rv n l) 25)).alloc (.cells #[.int .u64 (a : Int), .int .u64 (b : Int)] 35)) w.heap.size n l := (RelAt.new w n l).alloc _
  have p0 : TwoAt ((w.alloc (.cells (rv n l) 25)).alloc (.cells #[.int .u64 (a : Int), .int .u64 (b : Int)] 35)) (w.heap.size + 1) a b := by
    have := TwoAt.new (w.alloc (.cells (rv n l) 25)) a b
    simpa using this
  have hb : Below w.heap.size w ((w.alloc (.cells (rv n l) 25)).alloc (.cells #[.int .u64 (a : Int), .int .u64 (b : Int)] 35)) := ((Below.refl _ _).alloc (Nat.le_refl _) _).alloc (by simp) _
  have HB0 := Lib.hid hb; clear hb
  go_enter Tryd.func5, Tryd.ntmps5
  go_upto_region 1 with fail
  generalize (w.alloc (.cells (rv n l) 25)).alloc (.cells #[.int .u64 (a : Int), .int .u64 (b : Int)] 35) = w0 at *
  have c0 := p0.c0
  have c1 := p0.c1
  go_wp2_with (refine wpList_loadRel rfl _ rfl w.heap.size rfl n l hl r0 ?_)
  refine (HJA.out _).mono ?_
  rintro e w1 ⟨rfl, hb⟩
  have r1 := r0.below hb r0.lt
  have p1 := p0.below hb p0.lt
  clear c0 c1
  have HB1 := Lib.hid (HB0.out.trans (hb.mono HB0.out.size))
  clear hb r0 HB0 p0
  have c0 := p1.c0
  have c1 := p1.c1
  go_wp2_with (refine wpList_loadRel rfl _ rfl w.heap.size rfl n l hl r1 ?_)
  refine (HJB.out _).mono ?_
  rintro e w2 ⟨rfl, hb⟩
  have r2 := r1.below hb r1.lt
  have p2 := p1.below hb p1.lt
  clear c0 c1
  have HB2 := Lib.hid (HB1.out.trans (hb.mono HB1.out.size))
  clear hb r1 HB1 p1
  go_wp2_with fail
  obtain ⟨S, HS, pW, keepS⟩ := ex_gen w2
  have pR := fun w' h => r2.below (pW w' h) r2.lt
  have pP := fun w' h => p2.below (pW w' h) p2.lt
  have c0 := fun w' h => (pP w' h).c0
  have c1 := fun w' h => (pP w' h).c1
  have PB : Hid (∀ w', S w' → Below w.heap.size w w') := fun w' h => HB2.out.trans ((pW w' h).mono HB2.out.size)
  clear pW r2 HB2 p2
  refine wp_region_ord S [(0, true), (1, true), (3, true), (4, true), (2, false), (5, false), (6, true), (7, true), (8, true), (9, true), (10, true), (11, true), (12, true), (13, true), (14, true), (15, true), (16, true), (17, true), (18, true), (19, true), (20, true), (21, true), (22, true), (24, true), (25, true), (26, true), (27, true), (28, true), (23, false), (29, false), (30, true), (31, true), (32, true), (33, false), (34, true), (35, true)] (by kernel_rfl) (by kernel_rfl) rfl (by kernel_rfl) HS.out ?_
  generalize w2.drew = V at HS ⊢
  iterate 4
    (refine wpOrd_step (o := ?_) ?_ ?_; rotate_left 1; (simp only [List.getElem?_toArray, List.getElem?_cons_succ, List.getElem?_cons_zero]; with_reducible rfl))
    (first
        | (refine wpOrd_skip (by rfl) ?_)
        | (refine wpOrd_take (by rfl) (take_loadRel _ rfl _ rfl _ _ hl pR) ?_)
        | (refine wpOrd_take (v := ?_) (by rfl) ?_ ?_; rotate_left 1; (intro wx hSx; have hc_0 := c0 wx hSx; have hc_1 := c1 wx hSx; go_simp; try with_reducible rfl)))
    (try simp only [Act.put, List.setIfInBounds_toArray, List.set_cons_zero, List.set_cons_succ])
  (refine wpOrd_solo (o := ?_) ?_ ?_; rotate_left 1; (simp only [List.getElem?_toArray, List.getElem?_cons_succ, List.getElem?_cons_zero]; with_reducible rfl))
  intro K hK
  go_simp
  go_at_call 20
  refine (HWA.out _).mono ?_
  rintro e w5 ⟨rfl, hb⟩
  have hS := keepS _ _ HS.out hb
  clear HS
  have HS := Lib.hid hS; clear hS hb
  refine hK.out _ _ HS.out ?_
  clear hK K
  (try simp only [Act.put, List.setIfInBounds_toArray, List.set_cons_zero, List.set_cons_succ])
  (refine wpOrd_solo (o := ?_) ?_ ?_; rotate_left 1; (simp only [List.getElem?_toArray, List.getElem?_cons_succ, List.getElem?_cons_zero]; with_reducible rfl))
  intro K hK
  go_simp
  go_at_call 21
  refine (HWB.out _).mono ?_
  rintro e w6 ⟨rfl, hb⟩
  have hS := keepS _ _ HS.out hb
  clear HS
  have HS := Lib.hid hS; clear hS hb
  refine hK.out _ _ HS.out ?_
  clear hK K
  (try simp only [Act.put, List.setIfInBounds_toArray, List.set_cons_zero, List.set_cons_succ])
  iterate 22
    (refine wpOrd_step (o := ?_) ?_ ?_; rotate_left 1; (simp only [List.getElem?_toArray, List.getElem?_cons_succ, List.getElem?_cons_zero]; with_reducible rfl))
    (first
        | (refine wpOrd_skip (by rfl) ?_)
        | (refine wpOrd_take (by rfl) (take_loadRel _ rfl _ rfl _ _ hl pR) ?_)
        | (refine wpOrd_take (v := ?_) (by rfl) ?_ ?_; rotate_left 1; (intro wx hSx; have hc_0 := c0 wx hSx; have hc_1 := c1 wx hSx; go_simp; try with_reducible rfl)))
    (try simp only [Act.put, List.setIfInBounds_toArray, List.set_cons_zero, List.set_cons_succ])
  (refine wpOrd_solo (o := ?_) ?_ ?_; rotate_left 1; (simp only [List.getElem?_toArray, List.getElem?_cons_succ, List.getElem?_cons_zero]; with_reducible rfl))
  intro K hK
  go_simp
  go_at_call 22
  refine (HRA.out _ (HT.out.below (PB.out _ HS.out))).mono ?_
  rintro e w7 ⟨rfl, hb⟩
  have hS := keepS _ _ HS.out hb
  clear HS
  have HS := Lib.hid hS; clear hS hb
  refine hK.out _ _ HS.out ?_
  clear hK K
  (try simp only [Act.put, List.setIfInBounds_toArray, List.set_cons_zero, List.set_cons_succ])
  (refine wpOrd_solo (o := ?_) ?_ ?_; rotate_left 1; (simp only [List.getElem?_toArray, List.getElem?_cons_succ, List.getElem?_cons_zero]; with_reducible rfl))
  intro K hK
  go_simp
  go_at_call 23
  refine (HRB.out _).mono ?_
  rintro e w8 ⟨rfl, hb⟩
  have hS := keepS _ _ HS.out hb
  clear HS
  have HS := Lib.hid hS; clear hS hb
  refine hK.out _ _ HS.out ?_
  clear hK K
  (try simp only [Act.put, List.setIfInBounds_toArray, List.set_cons_zero, List.set_cons_succ])
  iterate 3
    (refine wpOrd_step (o := ?_) ?_ ?_; rotate_left 1; (simp only [List.getElem?_toArray, List.getElem?_cons_succ, List.getElem?_cons_zero]; with_reducible rfl))
    (first
        | (refine wpOrd_skip (by rfl) ?_)
        | (refine wpOrd_take (v := ?_) (by rfl) ?_ ?_; rotate_left 1; (intro wx hSx; go_simp; try with_reducible rfl)))
    (try simp only [Act.put, List.setIfInBounds_toArray, List.set_cons_zero, List.set_cons_succ])
  (refine wpOrd_solo (o := ?_) ?_ ?_; rotate_left 1; (simp only [List.getElem?_toArray, List.getElem?_cons_succ, List.getElem?_cons_zero]; with_reducible rfl))
  intro K hK
  go_simp
  go_at_call 12
  refine (halive_any _ (HT.out.below (PB.out _ HS.out))).mono ?_
  rintro e w9 ⟨rfl, hb⟩
  have hS := keepS _ _ HS.out hb
  clear HS
  have HS := Lib.hid hS; clear hS hb
  refine hK.out _ _ HS.out ?_
  clear hK K
  (try simp only [Act.put, List.setIfInBounds_toArray, List.set_cons_zero, List.set_cons_succ])
  iterate 2
    (refine wpOrd_step (o := ?_) ?_ ?_; rotate_left 1; (simp only [List.getElem?_toArray, List.getElem?_cons_succ, List.getElem?_cons_zero]; with_reducible rfl))
    (first
        | (refine wpOrd_skip (by rfl) ?_)
        | (refine wpOrd_take (v := ?_) (by rfl) ?_ ?_; rotate_left 1; (intro wx hSx; go_simp; try with_reducible rfl)))
    (try simp only [Act.put, List.setIfInBounds_toArray, List.set_cons_zero, List.set_cons_succ])
  refine wpOrd_done ?_
  have HB9 := Lib.hid (PB.out _ HS.out)
  clear pR pP c0 c1 PB HS keepS
  go_wp2_with fail
  go_ret
  exact ⟨rfl, HB9.out⟩
end Go.Proofs.YtopckkdmldhmlaaDoor
