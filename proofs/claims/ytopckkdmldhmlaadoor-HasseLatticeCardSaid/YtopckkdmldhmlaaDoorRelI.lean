/-
  What Classes and Order of package relate return. Conditions: 64 words below 2^64; the sort sorts rows of that length.
-/
import Derived.Test.YtopckkdmldhmlaaDoorRelH
import Derived.Test.YtopckkdmldhmlaaDoorRelCls
import Derived.Test.YtopckkdmldhmlaaDoorSortB
namespace Go.Proofs.YtopckkdmldhmlaaDoor
open Go.RowKit RM
open Go.Sort hiding Below ahead

theorem eu_one : OneCell eu := fun _ => rfl
theorem eql_eu (P : Program) (T : TypeId) : EqlAt P T eu (fun x y => decide (x = y)) :=
  ⟨fun x y w => by
    have h := (EqlAt.int P T .u64).1 (x : Int) (y : Int) w
    have e : ((x : Int) == (y : Int)) = decide (x = y) := by rw [Bool.eq_iff_iff]; simp; omega
    dsimp only at h
    rw [e] at h; exact h, fun op a b x y w => (EqlAt.int P T .u64).2 op a b (x : Int) (y : Int) w⟩
theorem neq_eu (P : Program) (T : TypeId) : NeqAt P T eu (fun x y => decide (x = y)) :=
  ⟨fun x y w => by
    have h := (NeqAt.int P T .u64).1 (x : Int) (y : Int) w
    have e : ((x : Int) == (y : Int)) = decide (x = y) := by rw [Bool.eq_iff_iff]; simp; omega
    dsimp only at h
    rw [e] at h; exact h, fun op a b x y w => (NeqAt.int P T .u64).2 op a b (x : Int) (y : Int) w⟩
/-- The first p rows of a relation in memory, as what the sort asks. -/
theorem holds_rel {w : World} {g : Nat} {n : Int} {l : List Nat} (h : RelAt w g n l) (hl : RW l) (p : Nat) (hp : p ≤ 64) : Holds eu w g 1 (l.take p).toArray := by
  intro j hj
  have hj2 : j < p := by simp at hj; omega
  refine ⟨?_, h.free _⟩
  rw [h.cell hl j (by omega)]
  have hlen : j < l.length := by rw [hl.1]; omega
  have e : (l.take p).toArray[j]! = l.getD j 0 := by
    rw [getElem!_pos _ j (by simpa using hj)]
    simp [List.getD_eq_getElem?_getD, List.getElem?_eq_getElem hlen]
  rw [e]; rfl
theorem below_putRow {w : World} {B g off : Nat} (hB : B ≤ g) (d : Array Nat) : Below B w (putRow eu w g off d) := by
  refine ⟨rfl, rfl, rfl, by simp, fun k hk => ?_⟩
  unfold putRow mapBlock
  simp only [Array.getElem?_modify, if_neg (show g ≠ k by omega)]
theorem below_ahead {w : World} {B : Nat} (n : Nat) : Below B w (Go.Sort.ahead w n) := ⟨rfl, rfl, rfl, Nat.le_refl _, fun _ _ => rfl⟩
/-- slices.Compact's length at a sorted row. -/
theorem compact_any (blk cap p : Nat) (d : Array Nat) (w : World) (hH : Holds eu w blk 1 d) (hd : d.size = p) (hp : p ≤ 64) (hcap : p ≤ cap) :
    Calls Tryd.prog 57 #[.slice (some ⟨blk, 1, none⟩) p cap] w fun e w' => e = .returned (.slice (some ⟨blk, 1, none⟩) (Lib.compactUpTo d d.size).length cap) ∧ Below blk w w' := by
  have h := Tryd.slices_Compact eu eu_one (eql_eu _ _) (neq_eu _ _) 0 (fun w => Tryd.zeroValue22 w) blk 1 cap d w hH (by omega) (by omega)
  rw [hd] at h
  refine h.mono ?_
  rintro e w' ⟨rfl, q, rfl⟩
  exact ⟨by rw [hd], (below_ahead q).trans (below_putRow (Nat.le_refl _) _)⟩

set_option maxHeartbeats 400000 in
theorem rclasses_any (k : Nat) (hS : SortTo k) (n : Int) (l : List Nat) (hl : RW l) (hk : pts n ≤ k) (w : World) :
    Calls Tryd.prog 51 #[.agg (rv n l)] w fun e w' => e = .returned (.int .i64 ((nCls (pts n) (clo (pts n) (bt l)) : Nat) : Int)) ∧ Below w.heap.size w w' := by
  have hp := pts_le n
  have hz : RW (cz n l) := RW.mk _ _
  have hcl := rclosure_any n l hl
  have HCL := Lib.hid hcl; clear hcl
  have HC : Hid (∀ d' : Array Nat, d'.toList.Perm ((cz n l).take (pts n)) → (∀ i j, i < j → j < d'.size → d'[i]! ≤ d'[j]!) → (Lib.compactUpTo d' d'.size).length = nCls (pts n) (clo (pts n) (bt l))) :=
    fun d' h1 h2 => compact_cls hz hp (clo_closed _ _) (fun i j => by rw [bt_cz]; unfold clo; cases decide (i < pts n) <;> cases decide (j < pts n) <;> simp) d' h1 h2
  have HS := Lib.hid hS; clear hS
  generalize nCls (pts n) (clo (pts n) (bt l)) = c at *
  generalize cz n l = lz at *
  generalize pts n = p at *
  go_enter Tryd.func51, Tryd.ntmps51
  go_wp2_with (refine wpList_loadRel rfl _ rfl w.heap.size rfl n l hl (RelAt.new _ _ _) ?_)
  refine (HCL.out _).mono ?_
  rintro e w1 ⟨rfl, hb1⟩
  have r1 := (RelAt.new w n l).below hb1 (by simp)
  have hb : Below w.heap.size w w1 := ((Below.refl _ _).alloc (Nat.le_refl _) _).trans (hb1.mono (by simp))
  have HB := Lib.hid hb; clear hb hb1
  have hp' : (p : Int) ≤ 64 := by omega
  go_wp2_with (refine wpList_storeRel rfl _ _ rfl w.heap.size rfl _ _ rfl n l hl hz r1 ?_; intro w2 q1 he; have HB2 := Lib.hid (HB.out.trans (he.below (Nat.le_refl _))); have hsz : w.heap.size < w2.heap.size := q1.lt; clear he HB r1; have hc0 := q1.cell0)
  clear hc0
  have hH := holds_rel q1 hz p hp
  have hsd : (lz.take p).toArray.size = p := by simp [hz.1]; omega
  have hcall := HS.out w.heap.size 1 64 (lz.take p).toArray w2 (by rw [hsd]; exact hk) hH
  rw [hsd] at hcall
  have HCA := Lib.hid hcall; clear hcall hH q1
  refine HCA.out.mono ?_
  rintro e w3 ⟨rfl, d', hperm, hsort, hH3, hm⟩
  have hd' : d'.size = p := by rw [hperm.1]; exact hsd
  have HB3 := Lib.hid (HB2.out.trans (hm.below (Nat.le_refl _) (by omega))); clear hm HB2
  have hlen := HC.out d' (by
    have h3 := hperm.2.2
    have e1 : (d'.extract 0 p).toList = d'.toList := by rw [← hd']; simp
    have e2 : ((lz.take p).toArray.extract 0 p).toList = lz.take p := by
      have := congrArg Array.toList (Array.extract_size (xs := (lz.take p).toArray))
      rw [hsd] at this
      exact this
    have h4 := hperm.2.2
    rw [e1, e2] at h4
    exact h4) (fun i j hij hj => by
      have := hsort i j (Nat.zero_le _) hij (by rw [hd'] at hj; exact hj)
      unfold ltN at this
      rw [decide_eq_false_iff_not] at this
      omega)
  have hco := compact_any w.heap.size 64 p d' w3 hH3 hd' hp hp
  rw [hlen] at hco
  have HCO := Lib.hid hco; clear hco hlen hH3 hsort hperm
  go_wp2_with fail
  refine HCO.out.mono ?_
  rintro e w4 ⟨rfl, hb4⟩
  have HB4 := Lib.hid (HB3.out.trans hb4); clear hb4
  go_wp2_with fail
  go_ret
  exact ⟨rfl, HB4.out⟩

/-- Is it an order? -/
def ordR (n : Int) (l : List Nat) : Bool := closedB n l && antiB (pts n) (bt l)
theorem fstB_congr {p : Nat} {R S : Nat → Nat → Bool} (h : ∀ i j, i < p → j < p → R i j = S i j) {i : Nat} (hi : i < p) : fstB R i = fstB S i := by
  unfold fstB
  rw [Bool.eq_iff_iff, List.all_eq_true, List.all_eq_true]
  simp only [List.mem_range]
  exact ⟨fun h2 j hj => by rw [← h _ _ hi (by omega), ← h _ _ (by omega) hi]; exact h2 j hj, fun h2 j hj => by rw [h _ _ hi (by omega), h _ _ (by omega) hi]; exact h2 j hj⟩
theorem antiB_congr {p : Nat} {R S : Nat → Nat → Bool} (h : ∀ i j, i < p → j < p → R i j = S i j) : antiB p R = antiB p S := by
  unfold antiB
  rw [Bool.eq_iff_iff, List.all_eq_true, List.all_eq_true]
  simp only [List.mem_range]
  exact ⟨fun h2 i hi => by rw [← fstB_congr h hi]; exact h2 i hi, fun h2 i hi => by rw [fstB_congr h hi]; exact h2 i hi⟩
theorem ord_cls {n : Int} {l : List Nat} (h : closedB n l = true) : ordR n l = decide (nCls (pts n) (clo (pts n) (bt l)) = pts n) := by
  unfold ordR
  rw [h, Bool.true_and, Bool.eq_iff_iff, decide_eq_true_eq, nCls_all, antiB_congr fun i j hi hj => clo_self ((closedB_iff n l).1 h) hi hj]
set_option maxHeartbeats 400000 in
theorem rorder_any (k : Nat) (hS : SortTo k) (n : Int) (l : List Nat) (hl : RW l) (hk : pts n ≤ k) (w : World) :
    Calls Tryd.prog 37 #[.agg (rv n l)] w fun e w' => e = .returned (.bool (ordR n l)) ∧ Below w.heap.size w w' := by
  have hcl := rclasses_any k hS n l hl hk
  have HCL := Lib.hid hcl; clear hcl
  have hr1 := RelAt.new w n l
  have hb : Below w.heap.size w (w.alloc (.cells (rv n l) 25)) := (Below.refl _ _).alloc (Nat.le_refl _) _
  obtain ⟨S, HS, p1, PB, keep⟩ := ex_one _ _ _ _ _ _ hr1 hb
  have keepS := keep.out (by simp)
  clear keep hr1 hb
  cases hcb : closedB n l with
  | false =>
    have ho : ordR n l = false := by unfold ordR; rw [hcb]; rfl
    rw [ho]
    have HCB := Lib.hid hcb; clear hcb ho
    go_enter Tryd.func37, Tryd.ntmps37
    go_wp2_with fail
    refine wp_region_ord S [(0, true), (1, false), (2, true), (3, true), (5, true), (6, true), (4, false), (7, false), (8, true), (9, true), (10, true), (11, true)] (by kernel_rfl) (by kernel_rfl) rfl (by kernel_rfl) HS.out ?_
    iterate 1
      (refine wpOrd_step (o := ?_) ?_ ?_; rotate_left 1; (simp only [List.getElem?_toArray, List.getElem?_cons_zero]; with_reducible rfl))
      (first
          | (refine wpOrd_skip (by rfl) ?_)
          | (refine wpOrd_take (by rfl) (take_loadRel _ rfl _ rfl n l hl p1) ?_)
          | (refine wpOrd_take (v := ?_) (by rfl) ?_ ?_; rotate_left 1; (intro wx hSx; go_simp; try with_reducible rfl)))
      (try simp only [Act.put, List.setIfInBounds_toArray, List.set_cons_zero, List.set_cons_succ])
    (refine wpOrd_solo (o := ?_) ?_ ?_; rotate_left 1; (simp only [List.getElem?_toArray, List.getElem?_cons_succ, List.getElem?_cons_zero]; with_reducible rfl))
    intro K hK
    go_simp
    go_at_call 50
    refine (rclosed_any _ _ hl _).mono ?_
    rintro e w2 ⟨rfl, hb⟩
    have hS := keepS _ _ HS.out hb
    clear HS
    have HS := Lib.hid hS; clear hS hb
    refine hK.out _ _ HS.out ?_
    clear hK K
    (try simp only [Act.put, List.setIfInBounds_toArray, List.set_cons_zero, List.set_cons_succ])
    rw [HCB.out]
    iterate 4
      (refine wpOrd_step (o := ?_) ?_ ?_; rotate_left 1; (simp only [List.getElem?_toArray, List.getElem?_cons_succ, List.getElem?_cons_zero]; with_reducible rfl))
      (first
          | (refine wpOrd_skip (by rfl) ?_)
          | (refine wpOrd_take (v := ?_) (by rfl) ?_ ?_; rotate_left 1; (intro wx hSx; go_simp; try with_reducible rfl)))
      (try simp only [Act.put, List.setIfInBounds_toArray, List.set_cons_zero, List.set_cons_succ])
    (refine wpOrd_solo (o := ?_) ?_ ?_; rotate_left 1; (simp only [List.getElem?_toArray, List.getElem?_cons_succ, List.getElem?_cons_zero]; with_reducible rfl))
    intro K hK
    go_simp
    refine hK.out _ _ HS.out ?_
    clear hK K
    (try simp only [Act.put, List.setIfInBounds_toArray, List.set_cons_zero, List.set_cons_succ])
    (refine wpOrd_solo (o := ?_) ?_ ?_; rotate_left 1; (simp only [List.getElem?_toArray, List.getElem?_cons_succ, List.getElem?_cons_zero]; with_reducible rfl))
    intro K hK
    go_simp
    refine hK.out _ _ HS.out ?_
    clear hK K
    (try simp only [Act.put, List.setIfInBounds_toArray, List.set_cons_zero, List.set_cons_succ])
    iterate 4
      (refine wpOrd_step (o := ?_) ?_ ?_; rotate_left 1; (simp only [List.getElem?_toArray, List.getElem?_cons_succ, List.getElem?_cons_zero]; with_reducible rfl))
      (first
          | (refine wpOrd_skip (by rfl) ?_)
          | (refine wpOrd_take (v := ?_) (by rfl) ?_ ?_; rotate_left 1; (intro wx hSx; go_simp; try with_reducible rfl)))
      (try simp only [Act.put, List.setIfInBounds_toArray, List.set_cons_zero, List.set_cons_succ])
    refine wpOrd_done ?_
    go_wp2_with fail
    go_ret
    exact ⟨rfl, PB.out _ HS.out⟩
  | true =>
    have ho := ord_cls hcb
    rw [ho]
    have HCB := Lib.hid hcb; clear hcb ho
    have c0 := fun w' h => (p1 w' h).cell0
    go_enter Tryd.func37, Tryd.ntmps37
    go_wp2_with fail
    refine wp_region_ord S [(0, true), (1, false), (2, true), (3, true), (5, true), (6, true), (4, false), (7, false), (8, true), (9, true), (10, true), (11, true)] (by kernel_rfl) (by kernel_rfl) rfl (by kernel_rfl) HS.out ?_
    iterate 1
      (refine wpOrd_step (o := ?_) ?_ ?_; rotate_left 1; (simp only [List.getElem?_toArray, List.getElem?_cons_zero]; with_reducible rfl))
      (first
          | (refine wpOrd_skip (by rfl) ?_)
          | (refine wpOrd_take (by rfl) (take_loadRel _ rfl _ rfl n l hl p1) ?_)
          | (refine wpOrd_take (v := ?_) (by rfl) ?_ ?_; rotate_left 1; (intro wx hSx; go_simp; try with_reducible rfl)))
      (try simp only [Act.put, List.setIfInBounds_toArray, List.set_cons_zero, List.set_cons_succ])
    (refine wpOrd_solo (o := ?_) ?_ ?_; rotate_left 1; (simp only [List.getElem?_toArray, List.getElem?_cons_succ, List.getElem?_cons_zero]; with_reducible rfl))
    intro K hK
    go_simp
    go_at_call 50
    refine (rclosed_any _ _ hl _).mono ?_
    rintro e w2 ⟨rfl, hb⟩
    have hS := keepS _ _ HS.out hb
    clear HS
    have HS := Lib.hid hS; clear hS hb
    refine hK.out _ _ HS.out ?_
    clear hK K
    (try simp only [Act.put, List.setIfInBounds_toArray, List.set_cons_zero, List.set_cons_succ])
    rw [HCB.out]
    iterate 4
      (refine wpOrd_step (o := ?_) ?_ ?_; rotate_left 1; (simp only [List.getElem?_toArray, List.getElem?_cons_succ, List.getElem?_cons_zero]; with_reducible rfl))
      (first
          | (refine wpOrd_skip (by rfl) ?_)
          | (refine wpOrd_take (by rfl) (take_loadRel _ rfl _ rfl n l hl p1) ?_)
          | (refine wpOrd_take (v := ?_) (by rfl) ?_ ?_; rotate_left 1; (intro wx hSx; have hc_0 := c0 wx hSx; go_simp; try with_reducible rfl)))
      (try simp only [Act.put, List.setIfInBounds_toArray, List.set_cons_zero, List.set_cons_succ])
    (refine wpOrd_solo (o := ?_) ?_ ?_; rotate_left 1; (simp only [List.getElem?_toArray, List.getElem?_cons_succ, List.getElem?_cons_zero]; with_reducible rfl))
    intro K hK
    go_simp
    go_at_call 51
    refine (HCL.out _).mono ?_
    rintro e w3 ⟨rfl, hb⟩
    have hS := keepS _ _ HS.out hb
    clear HS
    have HS := Lib.hid hS; clear hS hb
    refine hK.out _ _ HS.out ?_
    clear hK K
    (try simp only [Act.put, List.setIfInBounds_toArray, List.set_cons_zero, List.set_cons_succ])
    (refine wpOrd_solo (o := ?_) ?_ ?_; rotate_left 1; (simp only [List.getElem?_toArray, List.getElem?_cons_succ, List.getElem?_cons_zero]; with_reducible rfl))
    intro K hK
    go_simp
    go_at_call 39
    refine (new_any _ _).mono ?_
    rintro e w4 ⟨rfl, hb⟩
    have hS := keepS _ _ HS.out hb
    clear HS
    have HS := Lib.hid hS; clear hS hb
    refine hK.out _ _ HS.out ?_
    clear hK K
    (try simp only [Act.put, List.setIfInBounds_toArray, List.set_cons_zero, List.set_cons_succ])
    iterate 4
      (refine wpOrd_step (o := ?_) ?_ ?_; rotate_left 1; (simp only [List.getElem?_toArray, List.getElem?_cons_succ, List.getElem?_cons_zero]; with_reducible rfl))
      (first
          | (refine wpOrd_skip (by rfl) ?_)
          | (refine wpOrd_take (by rfl) (take_field0 _ rfl _ _ rfl) ?_)
          | (refine wpOrd_take (v := ?_) (by rfl) ?_ ?_; rotate_left 1; (intro wx hSx; go_simp; try with_reducible rfl)))
      (try simp only [Act.put, List.setIfInBounds_toArray, List.set_cons_zero, List.set_cons_succ])
    refine wpOrd_done ?_
    go_wp2_with fail
    go_ret
    refine ⟨ret_eq (bool_eq ?_), PB.out _ HS.out⟩
    rw [Bool.eq_iff_iff]; simp; omega
end Go.Proofs.YtopckkdmldhmlaaDoor
