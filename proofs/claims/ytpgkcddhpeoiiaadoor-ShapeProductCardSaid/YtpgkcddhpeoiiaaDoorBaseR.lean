/-
  What Classes and Order of package relate return. Conditions: 64 words below 2^64; the sort sorts rows of that length.
-/
import Derived.Test.YtpgkcddhpeoiiaaDoorBaseB
import Derived.Test.YtpgkcddhpeoiiaaDoorBaseC
import Derived.Laws.OwnMore
namespace Go.Proofs.YtpgkcddhpeoiiaaDoor
open Go.RowKit RM
open Go.Sort hiding Below ahead

set_option maxRecDepth 8000 in
theorem eu_one : OneCell eu := fun _ => rfl
set_option maxRecDepth 8000 in
theorem eql_eu (P : Program) (T : TypeId) : EqlAt P T eu (fun x y => decide (x = y)) :=
  ⟨fun x y w => by
    have h := (EqlAt.int P T .u64).1 (x : Int) (y : Int) w
    have e : ((x : Int) == (y : Int)) = decide (x = y) := by rw [Bool.eq_iff_iff]; simp; omega
    dsimp only at h
    rw [e] at h; exact h, fun op a b x y w => (EqlAt.int P T .u64).2 op a b (x : Int) (y : Int) w⟩
set_option maxRecDepth 8000 in
theorem neq_eu (P : Program) (T : TypeId) : NeqAt P T eu (fun x y => decide (x = y)) :=
  ⟨fun x y w => by
    have h := (NeqAt.int P T .u64).1 (x : Int) (y : Int) w
    have e : ((x : Int) == (y : Int)) = decide (x = y) := by rw [Bool.eq_iff_iff]; simp; omega
    dsimp only at h
    rw [e] at h; exact h, fun op a b x y w => (NeqAt.int P T .u64).2 op a b (x : Int) (y : Int) w⟩
set_option maxRecDepth 8000 in
/-- The first p rows of a relation in memory, as what the sort asks. -/
theorem holds_rel {w : World} {g : Nat} {n : Int} {l : List Nat} (h : RelAt w g n l) (hl : RW l) (p : Nat) (hp : p ≤ 64) : Holds eu w g 1 (l.take p).toArray := by
  intro j hj
  have hj2 : j < p := by simp at hj; omega
  refine ⟨?_, h.free _⟩
  rw [h.cell hl j (by omega)]
  have hlen : j < l.length := by rw [hl.1]; omega
  have e : (l.take p).toArray[j]! = l.getD j 0 := by
    rw [getElem!_pos _ j (by simpa using hj)]
    simp [List.getD_eq_getElem?_getD, List.getElem?_eq_getElem hlen]
  rw [e]; rfl
set_option maxRecDepth 8000 in
theorem below_putRow {w : World} {B g off : Nat} (hB : B ≤ g) (d : Array Nat) : Below B w (putRow eu w g off d) := by
  refine ⟨rfl, rfl, rfl, by simp, fun k hk => ?_⟩
  unfold putRow mapBlock
  simp only [Array.getElem?_modify, if_neg (show g ≠ k by omega)]
set_option maxRecDepth 8000 in
theorem below_ahead {w : World} {B : Nat} (n : Nat) : Below B w (Go.Sort.ahead w n) := ⟨rfl, rfl, rfl, Nat.le_refl _, fun _ _ => rfl⟩
set_option maxRecDepth 8000 in
/-- slices.Compact's length at a sorted row. -/
theorem compact_any (blk cap p : Nat) (d : Array Nat) (w : World) (hH : Holds eu w blk 1 d) (hd : d.size = p) (hp : p ≤ 64) (hcap : p ≤ cap) :
    Calls Tryd.prog 83 #[.slice (some ⟨blk, 1, none⟩) p cap] w fun e w' => e = .returned (.slice (some ⟨blk, 1, none⟩) (Lib.compactUpTo d d.size).length cap) ∧ Below blk w w' := by
  have h := Tryd.slices_Compact eu eu_one (eql_eu _ _) (neq_eu _ _) 0 (fun w => Tryd.zeroValue31 w) blk 1 cap d w hH (by omega) (by omega)
  rw [hd] at h
  refine h.mono ?_
  rintro e w' ⟨rfl, q, rfl⟩
  exact ⟨by rw [hd], (below_ahead q).trans (below_putRow (Nat.le_refl _) _)⟩

set_option maxRecDepth 8000 in
set_option maxHeartbeats 400000 in
theorem rclasses_any (k : Nat) (hS : SortTo k) (n : Int) (l : List Nat) (hl : RW l) (hk : pts n ≤ k) (w : World) :
    Calls Tryd.prog 65 #[.agg (rv n l)] w fun e w' => e = .returned (.int .i64 ((nCls (pts n) (clo (pts n) (bt l)) : Nat) : Int)) ∧ Below w.heap.size w w' := by
  have hp := pts_le n
  have hz : RW (cz n l) := RW.mk _ _
  have hcl := rclosure_any n l hl
  have HCL := Lib.hid hcl; clear hcl
  have HC : Hid (∀ d' : Array Nat, d'.toList.Perm ((cz n l).take (pts n)) → (∀ i j, i < j → j < d'.size → d'[i]! ≤ d'[j]!) → (Lib.compactUpTo d' d'.size).length = nCls (pts n) (clo (pts n) (bt l))) :=
    fun d' h1 h2 => compact_cls hz hp (clo_closed _ _) (fun i j => by rw [bt_cz]; unfold clo; cases decide (i < pts n) <;> cases decide (j < pts n) <;> simp) d' h1 h2
  have HS := Lib.hid hS; clear hS
  generalize nCls (pts n) (clo (pts n) (bt l)) = c at *
  generalize cz n l = lz at *
  generalize pts n = p at *
  go_enter Tryd.func65, Tryd.ntmps65
  go_wp2_with (refine wpList_loadRel rfl _ rfl w.heap.size rfl n l hl (RelAt.new _ _ _) ?_)
  refine (HCL.out _).mono ?_
  rintro e w1 ⟨rfl, hb1⟩
  have r1 := (RelAt.new w n l).below hb1 (by simp)
  have hb : Below w.heap.size w w1 := ((Below.refl _ _).alloc (Nat.le_refl _) _).trans (hb1.mono (by simp))
  have HB := Lib.hid hb; clear hb hb1
  have hp' : (p : Int) ≤ 64 := by omega
  go_wp2_with (refine wpList_storeRel rfl _ _ rfl w.heap.size rfl _ _ rfl n l hl hz r1 ?_; intro w2 q1 he; have HB2 := Lib.hid (HB.out.trans (he.below (Nat.le_refl _))); have hsz : w.heap.size < w2.heap.size := q1.lt; clear he HB r1; have hc0 := q1.cell0)
  clear hc0
  have hH := holds_rel q1 hz p hp
  have hsd : (lz.take p).toArray.size = p := by simp [hz.1]; omega
  have hcall := HS.out w.heap.size 1 64 (lz.take p).toArray w2 (by rw [hsd]; exact hk) hH
  rw [hsd] at hcall
  have HCA := Lib.hid hcall; clear hcall hH q1
  refine HCA.out.mono ?_
  rintro e w3 ⟨rfl, d', hperm, hsort, hH3, hm⟩
  have hd' : d'.size = p := by rw [hperm.1]; exact hsd
  have HB3 := Lib.hid (HB2.out.trans (hm.below (Nat.le_refl _) (by omega))); clear hm HB2
  have hlen := HC.out d' (by
    have h3 := hperm.2.2
    have e1 : (d'.extract 0 p).toList = d'.toList := by rw [← hd']; simp
    have e2 : ((lz.take p).toArray.extract 0 p).toList = lz.take p := by
      have := congrArg Array.toList (Array.extract_size (xs := (lz.take p).toArray))
      rw [hsd] at this
      exact this
    have h4 := hperm.2.2
    rw [e1, e2] at h4
    exact h4) (fun i j hij hj => by
      have := hsort i j (Nat.zero_le _) hij (by rw [hd'] at hj; exact hj)
      unfold ltN at this
      rw [decide_eq_false_iff_not] at this
      omega)
  have hco := compact_any w.heap.size 64 p d' w3 hH3 hd' hp hp
  rw [hlen] at hco
  have HCO := Lib.hid hco; clear hco hlen hH3 hsort hperm
  go_wp2_with fail
  refine HCO.out.mono ?_
  rintro e w4 ⟨rfl, hb4⟩
  have HB4 := Lib.hid (HB3.out.trans hb4); clear hb4
  go_wp2_with fail
  go_ret
  exact ⟨rfl, HB4.out⟩

/-- Is it an order? -/
def ordR (n : Int) (l : List Nat) : Bool := closedB n l && antiB (pts n) (bt l)
set_option maxRecDepth 8000 in
theorem fstB_congr {p : Nat} {R S : Nat → Nat → Bool} (h : ∀ i j, i < p → j < p → R i j = S i j) {i : Nat} (hi : i < p) : fstB R i = fstB S i := by
  unfold fstB
  rw [Bool.eq_iff_iff, List.all_eq_true, List.all_eq_true]
  simp only [List.mem_range]
  exact ⟨fun h2 j hj => by rw [← h _ _ hi (by omega), ← h _ _ (by omega) hi]; exact h2 j hj, fun h2 j hj => by rw [h _ _ hi (by omega), h _ _ (by omega) hi]; exact h2 j hj⟩
set_option maxRecDepth 8000 in
theorem antiB_congr {p : Nat} {R S : Nat → Nat → Bool} (h : ∀ i j, i < p → j < p → R i j = S i j) : antiB p R = antiB p S := by
  unfold antiB
  rw [Bool.eq_iff_iff, List.all_eq_true, List.all_eq_true]
  simp only [List.mem_range]
  exact ⟨fun h2 i hi => by rw [← fstB_congr h hi]; exact h2 i hi, fun h2 i hi => by rw [fstB_congr h hi]; exact h2 i hi⟩
set_option maxRecDepth 8000 in
theorem ord_cls {n : Int} {l : List Nat} (h : closedB n l = true) : ordR n l = decide (nCls (pts n) (clo (pts n) (bt l)) = pts n) := by
  unfold ordR
  rw [h, Bool.true_and, Bool.eq_iff_iff, decide_eq_true_eq, nCls_all, antiB_congr fun i j hi hj => clo_self ((closedB_iff n l).1 h) hi hj]
set_option maxRecDepth 8000 in
set_option maxHeartbeats 400000 in
theorem rorder_any (k : Nat) (hS : SortTo k) (n : Int) (l : List Nat) (hl : RW l) (hk : pts n ≤ k) (w : World) :
    Calls Tryd.prog 52 #[.agg (rv n l)] w fun e w' => e = .returned (.bool (ordR n l)) ∧ Below w.heap.size w w' := by
  have hcl := rclasses_any k hS n l hl hk
  have HCL := Lib.hid hcl; clear hcl
  have hr1 := RelAt.new w n l
  have hb : Below w.heap.size w (w.alloc (.cells (rv n l) 34)) := (Below.refl _ _).alloc (Nat.le_refl _) _
  obtain ⟨S, HS, p1, PB, keep⟩ := ex_one _ _ _ _ _ _ hr1 hb
  have keepS := keep.out (by simp)
  clear keep hr1 hb
  cases hcb : closedB n l with
  | false =>
    have ho : ordR n l = false := by unfold ordR; rw [hcb]; rfl
    rw [ho]
    have HCB := Lib.hid hcb; clear hcb ho
    go_enter Tryd.func52, Tryd.ntmps52
    go_wp2_with fail
    refine wp_region_ord S [(0, true), (1, false), (2, true), (3, true), (5, true), (6, true), (4, false), (7, false), (8, true), (9, true), (10, true), (11, true)] (by kernel_rfl) (by kernel_rfl) rfl (by kernel_rfl) HS.out ?_
    iterate 1
      (refine wpOrd_step (o := ?_) ?_ ?_; rotate_left 1; (simp only [List.getElem?_toArray, List.getElem?_cons_zero]; with_reducible rfl))
      (first
          | (refine wpOrd_skip (by rfl) ?_)
          | (refine wpOrd_take (by rfl) (take_loadRel _ rfl _ rfl n l hl p1) ?_)
          | (refine wpOrd_take (v := ?_) (by rfl) ?_ ?_; rotate_left 1; (intro wx hSx; go_simp; try with_reducible rfl)))
      (try simp only [Act.put, List.setIfInBounds_toArray, List.set_cons_zero, List.set_cons_succ])
    (refine wpOrd_solo (o := ?_) ?_ ?_; rotate_left 1; (simp only [List.getElem?_toArray, List.getElem?_cons_succ, List.getElem?_cons_zero]; with_reducible rfl))
    intro K hK
    go_simp
    go_at_call 51
    refine (rclosed_any _ _ hl _).mono ?_
    rintro e w2 ⟨rfl, hb⟩
    have hS := keepS _ _ HS.out hb
    clear HS
    have HS := Lib.hid hS; clear hS hb
    refine hK.out _ _ HS.out ?_
    clear hK K
    (try simp only [Act.put, List.setIfInBounds_toArray, List.set_cons_zero, List.set_cons_succ])
    rw [HCB.out]
    iterate 4
      (refine wpOrd_step (o := ?_) ?_ ?_; rotate_left 1; (simp only [List.getElem?_toArray, List.getElem?_cons_succ, List.getElem?_cons_zero]; with_reducible rfl))
      (first
          | (refine wpOrd_skip (by rfl) ?_)
          | (refine wpOrd_take (v := ?_) (by rfl) ?_ ?_; rotate_left 1; (intro wx hSx; go_simp; try with_reducible rfl)))
      (try simp only [Act.put, List.setIfInBounds_toArray, List.set_cons_zero, List.set_cons_succ])
    (refine wpOrd_solo (o := ?_) ?_ ?_; rotate_left 1; (simp only [List.getElem?_toArray, List.getElem?_cons_succ, List.getElem?_cons_zero]; with_reducible rfl))
    intro K hK
    go_simp
    refine hK.out _ _ HS.out ?_
    clear hK K
    (try simp only [Act.put, List.setIfInBounds_toArray, List.set_cons_zero, List.set_cons_succ])
    (refine wpOrd_solo (o := ?_) ?_ ?_; rotate_left 1; (simp only [List.getElem?_toArray, List.getElem?_cons_succ, List.getElem?_cons_zero]; with_reducible rfl))
    intro K hK
    go_simp
    refine hK.out _ _ HS.out ?_
    clear hK K
    (try simp only [Act.put, List.setIfInBounds_toArray, List.set_cons_zero, List.set_cons_succ])
    iterate 4
      (refine wpOrd_step (o := ?_) ?_ ?_; rotate_left 1; (simp only [List.getElem?_toArray, List.getElem?_cons_succ, List.getElem?_cons_zero]; with_reducible rfl))
      (first
          | (refine wpOrd_skip (by rfl) ?_)
          | (refine wpOrd_take (v := ?_) (by rfl) ?_ ?_; rotate_left 1; (intro wx hSx; go_simp; try with_reducible rfl)))
      (try simp only [Act.put, List.setIfInBounds_toArray, List.set_cons_zero, List.set_cons_succ])
    refine wpOrd_done ?_
    go_wp2_with fail
    go_ret
    exact ⟨rfl, PB.out _ HS.out⟩
  | true =>
    have ho := ord_cls hcb
    rw [ho]
    have HCB := Lib.hid hcb; clear hcb ho
    have c0 := fun w' h => (p1 w' h).cell0
    go_enter Tryd.func52, Tryd.ntmps52
    go_wp2_with fail
    refine wp_region_ord S [(0, true), (1, false), (2, true), (3, true), (5, true), (6, true), (4, false), (7, false), (8, true), (9, true), (10, true), (11, true)] (by kernel_rfl) (by kernel_rfl) rfl (by kernel_rfl) HS.out ?_
    iterate 1
      (refine wpOrd_step (o := ?_) ?_ ?_; rotate_left 1; (simp only [List.getElem?_toArray, List.getElem?_cons_zero]; with_reducible rfl))
      (first
          | (refine wpOrd_skip (by rfl) ?_)
          | (refine wpOrd_take (by rfl) (take_loadRel _ rfl _ rfl n l hl p1) ?_)
          | (refine wpOrd_take (v := ?_) (by rfl) ?_ ?_; rotate_left 1; (intro wx hSx; go_simp; try with_reducible rfl)))
      (try simp only [Act.put, List.setIfInBounds_toArray, List.set_cons_zero, List.set_cons_succ])
    (refine wpOrd_solo (o := ?_) ?_ ?_; rotate_left 1; (simp only [List.getElem?_toArray, List.getElem?_cons_succ, List.getElem?_cons_zero]; with_reducible rfl))
    intro K hK
    go_simp
    go_at_call 51
    refine (rclosed_any _ _ hl _).mono ?_
    rintro e w2 ⟨rfl, hb⟩
    have hS := keepS _ _ HS.out hb
    clear HS
    have HS := Lib.hid hS; clear hS hb
    refine hK.out _ _ HS.out ?_
    clear hK K
    (try simp only [Act.put, List.setIfInBounds_toArray, List.set_cons_zero, List.set_cons_succ])
    rw [HCB.out]
    iterate 4
      (refine wpOrd_step (o := ?_) ?_ ?_; rotate_left 1; (simp only [List.getElem?_toArray, List.getElem?_cons_succ, List.getElem?_cons_zero]; with_reducible rfl))
      (first
          | (refine wpOrd_skip (by rfl) ?_)
          | (refine wpOrd_take (by rfl) (take_loadRel _ rfl _ rfl n l hl p1) ?_)
          | (refine wpOrd_take (v := ?_) (by rfl) ?_ ?_; rotate_left 1; (intro wx hSx; have hc_0 := c0 wx hSx; go_simp; try with_reducible rfl)))
      (try simp only [Act.put, List.setIfInBounds_toArray, List.set_cons_zero, List.set_cons_succ])
    (refine wpOrd_solo (o := ?_) ?_ ?_; rotate_left 1; (simp only [List.getElem?_toArray, List.getElem?_cons_succ, List.getElem?_cons_zero]; with_reducible rfl))
    intro K hK
    go_simp
    go_at_call 65
    refine (HCL.out _).mono ?_
    rintro e w3 ⟨rfl, hb⟩
    have hS := keepS _ _ HS.out hb
    clear HS
    have HS := Lib.hid hS; clear hS hb
    refine hK.out _ _ HS.out ?_
    clear hK K
    (try simp only [Act.put, List.setIfInBounds_toArray, List.set_cons_zero, List.set_cons_succ])
    (refine wpOrd_solo (o := ?_) ?_ ?_; rotate_left 1; (simp only [List.getElem?_toArray, List.getElem?_cons_succ, List.getElem?_cons_zero]; with_reducible rfl))
    intro K hK
    go_simp
    go_at_call 30
    refine (new_any _ _).mono ?_
    rintro e w4 ⟨rfl, hb⟩
    have hS := keepS _ _ HS.out hb
    clear HS
    have HS := Lib.hid hS; clear hS hb
    refine hK.out _ _ HS.out ?_
    clear hK K
    (try simp only [Act.put, List.setIfInBounds_toArray, List.set_cons_zero, List.set_cons_succ])
    iterate 4
      (refine wpOrd_step (o := ?_) ?_ ?_; rotate_left 1; (simp only [List.getElem?_toArray, List.getElem?_cons_succ, List.getElem?_cons_zero]; with_reducible rfl))
      (first
          | (refine wpOrd_skip (by rfl) ?_)
          | (refine wpOrd_take (by rfl) (take_field0 _ rfl _ _ rfl) ?_)
          | (refine wpOrd_take (v := ?_) (by rfl) ?_ ?_; rotate_left 1; (intro wx hSx; go_simp; try with_reducible rfl)))
      (try simp only [Act.put, List.setIfInBounds_toArray, List.set_cons_zero, List.set_cons_succ])
    refine wpOrd_done ?_
    go_wp2_with fail
    go_ret
    refine ⟨ret_eq (bool_eq ?_), PB.out _ HS.out⟩
    rw [Bool.eq_iff_iff]; simp; omega
end Go.Proofs.YtpgkcddhpeoiiaaDoor

/-
  What Covers of package relate returns. Conditions: 64 words below 2^64; the sort sorts rows of that length; the table of math/bits in memory.
-/
namespace Go.Proofs.YtpgkcddhpeoiiaaDoor
open Go.RowKit RM

set_option maxRecDepth 8000 in
theorem two_cells (w : World) (x y : Value) (e : TypeId) : ∀ j u, [x, y][j]? = some u → (w.alloc (.cells #[x, y] e)).cell? ⟨w.heap.size, j, none⟩ = some u := by
  intro j u hu
  rw [cell_of_row _ w.heap.size j _ e (0, 0) (heap_alloc_new w _)]
  simpa using hu
set_option maxRecDepth 8000 in
theorem RowsAt.grown {w w' : World} {g : Nat} {l : List Nat} {row : Option Nat} (h : RowsAt w g l) (hb : w.grownBy w' row) (hg : row ≠ some g) : RowsAt w' g l := (hb.block g h.lt (fun e => hg e.symm)).trans h
set_option maxRecDepth 8000 in
theorem own_block {w : World} {base size n g : Nat} {e t : TypeId} {x : Value} {cs : List Value} {cur : Array Value} (h : w.ownsRow base e size x n cs) (hb : w.heap[g]? = some (.cells cur t (0, 0))) (he : e ≠ t) : x.ownBlock ≠ some g := by
  rcases h.2 with ⟨rfl, _⟩ | ⟨g', cap, cur', rfl, _, hh, _⟩
  · simp [Value.ownBlock]
  · intro hx
    have hx' : g' = g := by simpa [Value.ownBlock] using hx
    subst hx'
    rw [hh] at hb
    simp only [Option.some.injEq, Obj.cells.injEq] at hb
    exact he hb.2.1
/-- What covers point i: its row without what is above another point of the row. -/
def cvRow (L : List Nat) (i : Nat) : Nat := L.getD i 0 &&& (18446744073709551615 - abv L (L.getD i 0))
set_option maxRecDepth 8000 in
theorem cvRow_lt {L : List Nat} (h : RW L) (i : Nat) : cvRow L i < 18446744073709551616 := Nat.lt_of_le_of_lt Nat.and_le_left (h.lt i)
def cvp (i : Nat) (xs : List Nat) : List (Int × Int) := xs.map fun j : Nat => ((i : Int), (j : Int))
/-- The covers of the first k points. -/
def cvs (L : List Nat) : Nat → List (Int × Int)
  | 0 => []
  | k + 1 => cvs L k ++ cvp k (MM.els (cvRow L k))
set_option maxRecDepth 8000 in
theorem cvs_length (L : List Nat) : ∀ k, (cvs L k).length ≤ 64 * k
  | 0 => by simp [cvs]
  | k + 1 => by
    have h1 := cvs_length L k
    have h2 := MM.els_length (cvRow L k)
    simp only [cvs, cvp, List.length_append, List.length_map]
    omega
set_option maxRecDepth 8000 in
theorem cvp_take (i j : Nat) (xs : List Nat) (h : j < xs.length) : cvp i (xs.take (j + 1)) = cvp i (xs.take j) ++ [((i : Int), ((xs.getD j 0 : Nat) : Int))] := by
  unfold cvp
  rw [List.take_succ_eq_append_getElem h, List.map_append, List.getD_eq_getElem?_getD, List.getElem?_eq_getElem h]; rfl
/-- The covers as the program gives them. -/
def cvL (n : Int) (l : List Nat) : List (Int × Int) := if ordR n l then cvs (strL (cl n l)) 64 else []
end Go.Proofs.YtpgkcddhpeoiiaaDoor

/-
  What Long of package relate returns. Conditions: 64 words below 2^64; the sort sorts rows of that length; the table of math/bits in memory; the ends of ever longer ways run out.
-/
namespace Go.Proofs.YtpgkcddhpeoiiaaDoor
open Go.RowKit RM

/-- Where ways of k + 1 steps end. -/
def ends (L : List Nat) (s : Nat) : Nat → Nat
  | 0 => abv L s
  | k + 1 => abv L (ends L s k)
set_option maxRecDepth 8000 in
theorem ends_lt {L : List Nat} (h : RW L) (s : Nat) : ∀ k, ends L s k < 18446744073709551616
  | 0 => abv_lt h _
  | _ + 1 => abv_lt h _
set_option maxRecDepth 8000 in
theorem ex_rows (B gr g : Nat) (L : List Nat) (n : Int) (l : List Nat) (w0 w : World) (h1 : RowsAt w gr L) (h2 : RelAt w g n l) (hb : Below B w0 w) :
    ∃ S : World → Prop, Hid (S w.drew) ∧ (∀ w', S w' → RowsAt w' gr L) ∧ (∀ w', S w' → RelAt w' g n l) ∧ Hid (∀ w', S w' → Below B w0 w') ∧ Hid (B ≤ w.heap.size → ∀ wa wb, S wa → Below wa.heap.size wa wb → S wb) :=
  ⟨fun w' => RowsAt w' gr L ∧ RelAt w' g n l ∧ Below B w0 w' ∧ w.heap.size ≤ w'.heap.size, ⟨h1, h2, hb.drew, Nat.le_refl _⟩, fun _ h => h.1, fun _ h => h.2.1, fun _ h => h.2.2.1,
    fun hB _ _ h hb => ⟨h.1.below hb h.1.lt, h.2.1.below hb h.2.1.lt, h.2.2.1.trans (hb.mono (Nat.le_trans hB h.2.2.2)), Nat.le_trans h.2.2.2 hb.size⟩⟩
set_option maxRecDepth 8000 in
set_option maxHeartbeats 400000 in
theorem rlong_no (k : Nat) (hS : SortTo k) (n : Int) (l : List Nat) (hl : RW l) (hk : pts n ≤ k) (ho : ordR n l = false) (w : World) :
    Calls Tryd.prog 45 #[.agg (rv n l)] w fun e w' => e = .returned (.tuple #[.int .i64 0, .bool false]) ∧ Below w.heap.size w w' := by
  have hor := rorder_any k hS n l hl hk
  rw [ho] at hor
  have HOR := Lib.hid hor; clear hor
  go_enter Tryd.func45, Tryd.ntmps45
  go_wp2_with (refine wpList_loadRel rfl _ rfl w.heap.size rfl n l hl (RelAt.new _ _ _) ?_)
  refine (HOR.out _).mono ?_
  rintro e w1 ⟨rfl, hb1⟩
  have hb : Below w.heap.size w w1 := ((Below.refl _ _).alloc (Nat.le_refl _) _).trans (hb1.mono (by simp))
  have HB := Lib.hid hb; clear hb hb1
  go_wp2_with fail
  go_ret2
  exact ⟨rfl, HB.out⟩
set_option maxRecDepth 8000 in
set_option maxHeartbeats 1000000 in
theorem rlong_yes (k : Nat) (hS : SortTo k) (n : Int) (l : List Nat) (hl : RW l) (hk : pts n ≤ k) (ho : ordR n l = true) (K : Nat) (hKb : K ≤ 4294967296) (hK0 : ends (strL (cl n l)) (MM.belowN n) K = 0)
    (hK : ∀ j, j < K → ends (strL (cl n l)) (MM.belowN n) j ≠ 0) (w : World) (hT : Tab w) :
    Calls Tryd.prog 45 #[.agg (rv n l)] w fun e w' => e = .returned (.tuple #[.int .i64 (K : Int), .bool true]) ∧ Below w.heap.size w w' := by
  have hL : RW (strL (cl n l)) := RW.strL (RW.mk _ _)
  have hor := rorder_any k hS n l hl hk
  rw [ho] at hor
  have HOR := Lib.hid hor; clear hor
  have hst := rstrict_any n l hl
  have HST := Lib.hid hst; clear hst
  have HT := Lib.hid hT; clear hT
  generalize strL (cl n l) = L at *
  have HE0 : Hid (abv L (MM.belowN n) = ends L (MM.belowN n) 0) := rfl
  have HES : Hid (∀ j, abv L (ends L (MM.belowN n) j) = ends L (MM.belowN n) (j + 1)) := fun _ => rfl
  have hel := fun j => ends_lt hL (MM.belowN n) j
  have HEL := Lib.hid hel; clear hel
  have hbel := fun w => below_any n w
  have HBEL := Lib.hid hbel; clear hbel
  have HK0 := Lib.hid hK0; clear hK0
  have HK := Lib.hid hK; clear hK
  have hslt := belowN_lt n
  generalize MM.belowN n = s at *
  go_enter Tryd.func45, Tryd.ntmps45
  go_wp2_with (refine wpList_loadRel rfl _ rfl w.heap.size rfl n l hl (RelAt.new _ _ _) ?_)
  refine (HOR.out _).mono ?_
  rintro e w1 ⟨rfl, hb1⟩
  have r1 := (RelAt.new w n l).below hb1 (by simp)
  have hb : Below w.heap.size w w1 := ((Below.refl _ _).alloc (Nat.le_refl _) _).trans (hb1.mono (by simp))
  have HB1 := Lib.hid hb; clear hb hb1
  go_wp2_with (refine wpList_loadRel rfl _ rfl w.heap.size rfl n l hl r1 ?_)
  refine (HST.out _).mono ?_
  rintro e w2 ⟨rfl, hb2⟩
  have r2 := r1.below hb2 r1.lt
  have hs2 : w.heap.size < w2.heap.size := r2.lt
  have HB2 := Lib.hid (HB1.out.trans (hb2.mono HB1.out.size)); clear hb2 HB1 r1
  go_wp2_with (refine wpList_storeRows rfl _ _ rfl w2.heap.size rfl L rfl zs RW.zs hL ?c2 ?_; (case c2 => exact heap_alloc_new w2 _); intro w3 hr3 he; have r3 : RelAt w3 w.heap.size n l := (r2.alloc _).other he (Nat.ne_of_lt hs2); have hb3 := ((HB2.out.alloc (Nat.le_of_lt hs2) (.cells (uv zs) 32)).trans (he.below (Nat.le_of_lt hs2))); clear he)
  obtain ⟨S, HS, p1, p2, PB, keep⟩ := ex_rows _ _ _ _ _ _ _ _ hr3 r3 hb3
  have keepS := keep.out (by have := r3.lt; omega)
  clear keep hr3 r3 hb3 r2
  have c0 := fun w' h => (p2 w' h).cell0
  generalize w2.heap.size = gr at *
  refine wp_region_ord S [(0, true), (1, true), (2, true), (3, false), (4, false), (5, true)] (by kernel_rfl) (by kernel_rfl) rfl (by kernel_rfl) HS.out ?_
  iterate 3
    (refine wpOrd_step (o := ?_) ?_ ?_; rotate_left 1; (simp only [List.getElem?_toArray, List.getElem?_cons_succ, List.getElem?_cons_zero]; with_reducible rfl))
    (first
        | (refine wpOrd_skip (by rfl) ?_)
        | (refine wpOrd_take (by rfl) (take_loadRows _ rfl _ rfl L hL p1) ?_)
        | (refine wpOrd_take (v := ?_) (by rfl) ?_ ?_; rotate_left 1; (intro wx hSx; have hc_0 := c0 wx hSx; go_simp; try with_reducible rfl)))
    (try simp only [Act.put, List.setIfInBounds_toArray, List.set_cons_zero, List.set_cons_succ])
  (refine wpOrd_solo (o := ?_) ?_ ?_; rotate_left 1; (simp only [List.getElem?_toArray, List.getElem?_cons_succ, List.getElem?_cons_zero]; with_reducible rfl))
  intro K hK
  go_simp
  go_at_call 37
  refine (HBEL.out _).mono ?_
  rintro e w' ⟨rfl, rfl⟩
  refine hK.out _ _ HS.out ?_
  clear hK K
  (try simp only [Act.put, List.setIfInBounds_toArray, List.set_cons_zero, List.set_cons_succ])
  (refine wpOrd_solo (o := ?_) ?_ ?_; rotate_left 1; (simp only [List.getElem?_toArray, List.getElem?_cons_succ, List.getElem?_cons_zero]; with_reducible rfl))
  intro K hK
  go_simp
  go_at_call 67
  refine (rabove_any L hL s hslt _ (HT.out.below (PB.out _ HS.out))).mono ?_
  rintro e w5 ⟨rfl, hb⟩
  have hS := keepS _ _ HS.out hb
  clear HS
  have HS := Lib.hid hS; clear hS hb
  refine hK.out _ _ HS.out ?_
  clear hK K
  (try simp only [Act.put, List.setIfInBounds_toArray, List.set_cons_zero, List.set_cons_succ])
  iterate 1
    (refine wpOrd_step (o := ?_) ?_ ?_; rotate_left 1; (simp only [List.getElem?_toArray, List.getElem?_cons_succ, List.getElem?_cons_zero]; with_reducible rfl))
    (first
        | (refine wpOrd_skip (by rfl) ?_)
        | (refine wpOrd_take (v := ?_) (by rfl) ?_ ?_; rotate_left 1; (intro wx hSx; go_simp; try with_reducible rfl)))
    (try simp only [Act.put, List.setIfInBounds_toArray, List.set_cons_zero, List.set_cons_succ])
  refine wpOrd_done ?_
  rw [HE0.out]
  have rr := p1 _ HS.out
  have HB5 := Lib.hid (PB.out _ HS.out)
  clear p1 p2 c0 keepS PB HS
  go_wp2_with fail
  go_loopw [5, 6] (fun sv ev wr => ∃ j : Nat, j ≤ K ∧ sv = .int .i64 j ∧ ev = .int .u64 ((ends L s j : Nat) : Int) ∧ RowsAt wr gr L ∧ Hid (Below w.heap.size w wr)) (fun sv _ _ => K - (intOf sv).toNat)
  case atStart => exact ⟨0, by omega, rfl, rfl, rr, HB5⟩
  case round =>
    clear rr HB5
    obtain ⟨j, hj, rfl, rfl, rr, HB⟩ := hrel
    by_cases hlt : j < K
    · have hne := HK.out j hlt
      have hq := HEL.out j
      have HQ := Lib.hid (HES.out j)
      generalize ends L s j = q at *
      have hb : ((q : Int) != 0) = true := by rw [bne_iff_ne]; omega
      go_wp2_with (refine wpList_loadRows rfl _ rfl gr rfl L hL rr ?_)
      refine (rabove_any L hL q hq _ (HT.out.below HB.out)).mono ?_
      rintro e w6 ⟨rfl, hb6⟩
      have r6 := rr.below hb6 rr.lt
      have HB6 := Lib.hid (HB.out.trans (hb6.mono HB.out.size)); clear hb6 rr HB
      rw [HQ.out]
      go_wp2_with fail
      go_roundw
      case rel => exact ⟨j + 1, by omega, by go_num, rfl, r6, HB6⟩
      case measure => simp [intOf]; omega
    · have e : j = K := by omega
      subst e
      have hq := HK0.out
      have hb : (((ends L s j : Nat) : Int) != 0) = false := by rw [hq]; rfl
      have HQ := Lib.hid hq; clear hq
      go_wp2_with fail
      go_ret2
      exact ⟨rfl, HB.out⟩
end Go.Proofs.YtpgkcddhpeoiiaaDoor

/-
  The chapter's example is as it says. Conditions: the table of math/bits in memory.
-/
namespace Go.Proofs.YtpgkcddhpeoiiaaDoor
open Go.RowKit RM

def exC : List Nat := cz 3 (ofR 3 [(0, 1), (1, 2)])
set_option maxRecDepth 8000 in
theorem exC_rw : RW exC := RW.mk _ _
set_option maxRecDepth 8000 in
theorem ex_has1 : hasR 3 exC 0 2 = true := by kernel_rfl
set_option maxRecDepth 8000 in
theorem ex_has2 : hasR 3 exC 2 0 = false := by kernel_rfl
set_option maxRecDepth 8000 in
theorem ex_ord : ordR 3 exC = true := by kernel_rfl
set_option maxRecDepth 8000 in
theorem ex_cov : (cvL 3 exC).length = 2 := by kernel_rfl
set_option maxRecDepth 8000 in
theorem ex_end : ends (strL (cl 3 exC)) (MM.belowN 3) 2 = 0 := by kernel_rfl
set_option maxRecDepth 8000 in
theorem ex_ends (j : Nat) (h : j < 2) : ends (strL (cl 3 exC)) (MM.belowN 3) j ≠ 0 := by
  match j, h with
  | 0, _ => decide +kernel
  | 1, _ => decide +kernel
end Go.Proofs.YtpgkcddhpeoiiaaDoor

/-
  What Points, Has and In of layer 3's reference return. Conditions: 64 words below 2^64; slices that read as lists.
-/
namespace Go.Proofs.YtpgkcddhpeoiiaaDoor
open Go.RowKit RM

set_option maxRecDepth 8000 in
theorem qpoints_any (n : Int) (l : List Nat) (w : World) :
    Calls Tryd.prog 46 #[.agg (rv n l)] w fun e w' => e = .returned (.int .i64 ((pts n : Nat) : Int)) ∧ Below w.heap.size w w' := by
  have h0 := rv_0 n l
  generalize rv n l = r at *
  rcases Int.lt_or_le n 0 with hn | hn
  · rw [pts_neg hn]
    go_enter Tryd.func46, Tryd.ntmps46
    go_wp2_with fail
    go_ret
    exact ⟨rfl, (Below.refl _ _).alloc (Nat.le_refl _) _⟩
  · rcases Int.lt_or_le 64 n with h1 | h1
    · rw [pts_big h1]
      go_enter Tryd.func46, Tryd.ntmps46
      go_wp2_with fail
      go_ret
      exact ⟨rfl, (Below.refl _ _).alloc (Nat.le_refl _) _⟩
    · rw [pts_in hn h1]
      go_enter Tryd.func46, Tryd.ntmps46
      go_wp2_with fail
      go_ret
      exact ⟨rfl, (Below.refl _ _).alloc (Nat.le_refl _) _⟩
set_option maxRecDepth 8000 in
theorem hasR_no {n : Int} {l : List Nat} {i j : Int} (h : i < 0 ∨ j < 0 ∨ (pts n : Int) ≤ i ∨ (pts n : Int) ≤ j) : hasR n l i j = false := by
  unfold hasR
  cases h1 : isPt n i with
  | false => rfl
  | true =>
    cases h2 : isPt n j with
    | false => rfl
    | true =>
      have := isPt_iff.1 h1
      have := isPt_iff.1 h2
      omega
set_option maxRecDepth 8000 in
theorem hasR_in {n : Int} {l : List Nat} {a b : Nat} (h1 : a < pts n) (h2 : b < pts n) : hasR n l a b = (l.getD a 0).testBit b := by
  unfold hasR
  rw [isPt_nat, isPt_nat]
  simp [h1, h2, bt]
set_option maxRecDepth 8000 in
set_option maxHeartbeats 2000000 in
theorem qhas_no (n : Int) (l : List Nat) (hl : RW l) (i j : Int) (h : i < 0 ∨ j < 0 ∨ (pts n : Int) ≤ i ∨ (pts n : Int) ≤ j) (w : World) :
    Calls Tryd.prog 47 #[.agg (rv n l), .int .i64 i, .int .i64 j] w fun e w' => e = .returned (.bool false) ∧ Below w.heap.size w w' := by
  have hq := fun w => qpoints_any n l w
  have HQ := Lib.hid hq; clear hq
  have hp := pts_le n
  generalize pts n = p at *
  have hcases : i < 0 ∨ (0 ≤ i ∧ j < 0) ∨ (0 ≤ i ∧ 0 ≤ j ∧ (p : Int) ≤ i) ∨ (0 ≤ i ∧ 0 ≤ j ∧ i < (p : Int) ∧ (p : Int) ≤ j) := by omega
  clear h
  rcases hcases with h | ⟨h, h2⟩ | ⟨h, h2, h3⟩ | ⟨h, h2, h3, h4⟩
  all_goals
    go_enter Tryd.func47, Tryd.ntmps47
    go_wp2_with (refine wpList_loadRel rfl _ rfl w.heap.size rfl n l hl (RelAt.new _ _ _) ?_)
    refine (HQ.out _).mono ?_
    rintro e w1 ⟨rfl, hb1⟩
    have hb : Below w.heap.size w w1 := ((Below.refl _ _).alloc (Nat.le_refl _) _).trans (hb1.mono (by simp))
    have HB := Lib.hid hb; clear hb hb1
    go_wp2_with fail
    go_ret
    exact ⟨rfl, HB.out⟩
set_option maxRecDepth 8000 in
theorem shr_bit (x b : Nat) : ((((x : Int) / 2 ^ b).tmod 2 == 1)) = x.testBit b := by
  have e : ((x : Int) / 2 ^ b) = ((x / 2 ^ b : Nat) : Int) := by simp
  rw [e, Int.tmod_eq_emod_of_nonneg (Int.natCast_nonneg _), Bool.eq_iff_iff, ← MM.half_bit]
  generalize x / 2 ^ b = y
  simp
  omega
set_option maxRecDepth 8000 in
set_option maxHeartbeats 400000 in
theorem qhas_in (n : Int) (l : List Nat) (hl : RW l) (a b : Nat) (h1 : a < pts n) (h2 : b < pts n) (w : World) :
    Calls Tryd.prog 47 #[.agg (rv n l), .int .i64 (a : Int), .int .i64 (b : Int)] w fun e w' => e = .returned (.bool ((l.getD a 0).testBit b)) ∧ Below w.heap.size w w' := by
  have hq := fun w => qpoints_any n l w
  have HQ := Lib.hid hq; clear hq
  have hp := pts_le n
  generalize pts n = p at *
  have hx := hl.lt a
  obtain ⟨x, hxe⟩ : ∃ x, x = l.getD a 0 := ⟨_, rfl⟩
  rw [← hxe] at hx ⊢
  have HX := Lib.hid hxe; clear hxe
  go_enter Tryd.func47, Tryd.ntmps47
  go_wp2_with (refine wpList_loadRel rfl _ rfl w.heap.size rfl n l hl (RelAt.new _ _ _) ?_)
  refine (HQ.out _).mono ?_
  rintro e w1 ⟨rfl, hb1⟩
  have r1 := (RelAt.new w n l).below hb1 (by simp)
  have hb : Below w.heap.size w w1 := ((Below.refl _ _).alloc (Nat.le_refl _) _).trans (hb1.mono (by simp))
  have HB := Lib.hid hb; clear hb hb1
  have hc := r1.cell hl a (by omega)
  rw [← HX.out] at hc
  clear r1
  have hb1 : (b : Int) < 64 := by omega
  go_wp2_with fail
  go_ret
  exact ⟨ret_eq (bool_eq (shr_bit x b)), HB.out⟩
set_option maxRecDepth 8000 in
theorem qhas_any (n : Int) (l : List Nat) (hl : RW l) (i j : Int) (w : World) :
    Calls Tryd.prog 47 #[.agg (rv n l), .int .i64 i, .int .i64 j] w fun e w' => e = .returned (.bool (hasR n l i j)) ∧ Below w.heap.size w w' := by
  by_cases h : i < 0 ∨ j < 0 ∨ (pts n : Int) ≤ i ∨ (pts n : Int) ≤ j
  · rw [hasR_no h]; exact qhas_no n l hl i j h w
  · obtain ⟨a, rfl⟩ := Int.eq_ofNat_of_zero_le (show 0 ≤ i by omega)
    obtain ⟨b, rfl⟩ := Int.eq_ofNat_of_zero_le (show 0 ≤ j by omega)
    rw [hasR_in (by omega) (by omega)]
    exact qhas_in n l hl a b (by omega) (by omega) w

end Go.Proofs.YtpgkcddhpeoiiaaDoor

/-
  What Reach of layer 3's reference returns: the points that one comes to. Conditions: 64 words below 2^64.
-/
namespace Go.Proofs.YtpgkcddhpeoiiaaDoor
open Go.RowKit RM

set_option maxRecDepth 8000 in
theorem nodup_le {p : Nat} {o : List Nat} (hn : o.Nodup) (hp : ∀ x ∈ o, x < p) : o.length ≤ p := by
  have hr : ((List.range p).filter fun x => decide (x ∈ o)).Nodup := List.Pairwise.filter _ List.nodup_range
  have := ((List.perm_ext_iff_of_nodup hn hr).2 fun x => by simp only [List.mem_filter, List.mem_range, decide_eq_true_eq]; exact ⟨fun h => ⟨hp x h, h⟩, fun h => h.2⟩).length_eq
  rw [this]
  have h2 := List.length_filter_le (fun x => decide (x ∈ o)) (List.range p)
  simpa using h2
/-- What holds of the list while the points next to its first a ones have been looked at, and next to the one behind them the first j. -/
structure Rch (p : Nat) (R : Nat → Nat → Bool) (i : Nat) (o : List Nat) (a j : Nat) : Prop where
  nodup : o.Nodup
  start : i ∈ o
  path : ∀ x ∈ o, Path p R i x
  done : ∀ t, t < a → ∀ y, y < p → R (o.getD t 0) y = true → y ∈ o
  part : ∀ y, y < j → y < p → R (o.getD a 0) y = true → y ∈ o
section
variable {p : Nat} {R : Nat → Nat → Bool} {i a j : Nat} {o : List Nat}
set_option maxRecDepth 8000 in
theorem Rch.len (h : Rch p R i o a j) : o.length ≤ p := nodup_le h.nodup fun x hx => (h.path x hx).lt_right
set_option maxRecDepth 8000 in
theorem Rch.begin (hi : i < p) : Rch p R i [i] 0 0 := ⟨by simp, by simp, fun x hx => by simp at hx; subst hx; exact Path.refl _ hi, fun t ht => by omega, fun y hy => by omega⟩
set_option maxRecDepth 8000 in
theorem Rch.skip (h : Rch p R i o a j) (hs : R (o.getD a 0) j = true → j ∈ o) : Rch p R i o a (j + 1) :=
  ⟨h.nodup, h.start, h.path, h.done, fun y hy hp hr => by
    by_cases e : y = j
    · subst e; exact hs hr
    · exact h.part y (by omega) hp hr⟩
set_option maxRecDepth 8000 in
theorem Rch.add (h : Rch p R i o a j) (ha : a < o.length) (hj : j < p) (hr : R (o.getD a 0) j = true) (hn : j ∉ o) : Rch p R i (o ++ [j]) a (j + 1) := by
  have hg : ∀ t, t < o.length → (o ++ [j]).getD t 0 = o.getD t 0 := fun t ht => by
    rw [List.getD_eq_getElem?_getD, List.getD_eq_getElem?_getD, List.getElem?_append_left ht]
  have hm : o.getD a 0 ∈ o := by
    rw [List.getD_eq_getElem?_getD, List.getElem?_eq_getElem ha]; exact List.getElem_mem ha
  have hin : ∀ {y}, y ∈ o → y ∈ o ++ [j] := fun h => List.mem_append_left _ h
  refine ⟨?_, hin h.start, fun x hx => ?_, fun t ht y hy hr2 => ?_, fun y hy hp hr2 => ?_⟩
  · rw [List.nodup_append]
    refine ⟨h.nodup, by simp, fun x hx y hy => ?_⟩
    rw [List.mem_singleton] at hy
    subst hy
    intro e
    subst e
    exact hn hx
  · rw [List.mem_append, List.mem_singleton] at hx
    rcases hx with hx | rfl
    · exact h.path x hx
    · exact Path.step _ _ _ (h.path _ hm) hr hj
  · rw [hg t (by omega)] at hr2
    exact hin (h.done t ht y hy hr2)
  · rw [hg a ha] at hr2
    by_cases e : y = j
    · subst e; simp
    · exact hin (h.part y (by omega) hp hr2)
set_option maxRecDepth 8000 in
theorem Rch.next (h : Rch p R i o a p) : Rch p R i o (a + 1) 0 :=
  ⟨h.nodup, h.start, h.path, fun t ht y hy hr => by
    by_cases e : t = a
    · subst e; exact h.part y hy hy hr
    · exact h.done t (by omega) y hy hr, fun y hy => by omega⟩
set_option maxRecDepth 8000 in
theorem Rch.all (h : Rch p R i o o.length 0) (x : Nat) : x ∈ o ↔ Path p R i x := by
  constructor
  · exact h.path x
  · intro hp
    induction hp with
    | refl => exact h.start
    | step k j hk hr hj ih =>
      obtain ⟨t, ht, he⟩ := List.mem_iff_getElem.1 ih
      refine h.done t ht j hj ?_
      rw [List.getD_eq_getElem?_getD, List.getElem?_eq_getElem ht]
      show R o[t] j = true
      rw [he]; exact hr
end
/-- Does one come from i to x? -/
def rchB (n : Int) (l : List Nat) (i x : Int) : Bool := isPt n i && isPt n x && clo (pts n) (bt l) i.toNat x.toNat
set_option maxRecDepth 8000 in
theorem rch_contains {n : Int} {l : List Nat} {i : Nat} {o : List Nat} (hi : i < pts n) (h : ∀ x, x ∈ o ↔ Path (pts n) (bt l) i x) (x : Int) : (ei o).contains x = rchB n l i x := by
  rw [Bool.eq_iff_iff, List.contains_iff_mem]
  unfold rchB ei
  rw [isPt_nat]
  simp only [hi, decide_true, Bool.true_and, Bool.and_eq_true, clo_iff, Int.toNat_natCast, List.mem_map]
  constructor
  · rintro ⟨y, hy, rfl⟩
    have := (h y).1 hy
    exact ⟨isPt_iff.2 ⟨Int.natCast_nonneg _, by have := this.lt_right; exact Int.ofNat_lt.2 this⟩, this⟩
  · rintro ⟨h1, h2⟩
    have := isPt_iff.1 h1
    exact ⟨x.toNat, (h _).2 h2, by show ((x.toNat : Nat) : Int) = x; omega⟩
set_option maxRecDepth 8000 in
theorem RelAt.grown {w w' : World} {g : Nat} {n : Int} {l : List Nat} {row : Option Nat} (h : RelAt w g n l) (hb : w.grownBy w' row) (hg : row ≠ some g) : RelAt w' g n l := (hb.block g h.lt (fun e => hg e.symm)).trans h
/-- What Reach hands back. -/
def Reached (n : Int) (l : List Nat) (i : Int) (w : World) (e : Ending) (w' : World) : Prop :=
  ∃ A c, ∃ xs : List Int, e = .returned (.slice A xs.length c) ∧ xs.length ≤ 64 ∧ OwnI w' w.heap.size A c xs ∧ Below w.heap.size w w' ∧ ∀ x, xs.contains x = rchB n l i x
set_option maxRecDepth 8000 in
theorem ex_reach (B g : Nat) (n : Int) (l : List Nat) (p : Addr) (v : Value) (A : Option Addr) (c : Nat) (xs : List Int) (w0 w : World) (h1 : RelAt w g n l) (h2 : w.cell? p = some v) (h3 : OwnI w B A c xs) (hb : Below B w0 w) :
    ∃ S : World → Prop, Hid (S w.drew) ∧ (∀ w', S w' → RelAt w' g n l) ∧ (∀ w', S w' → w'.cell? p = some v) ∧ Hid (∀ w', S w' → OwnI w' B A c xs) ∧ Hid (∀ w', S w' → Below B w0 w') ∧ Hid (B ≤ w.heap.size → ∀ wa wb, S wa → Below wa.heap.size wa wb → S wb) :=
  ⟨fun w' => RelAt w' g n l ∧ w'.cell? p = some v ∧ OwnI w' B A c xs ∧ Below B w0 w' ∧ w.heap.size ≤ w'.heap.size, ⟨h1, h2, h3, hb.drew, Nat.le_refl _⟩, fun _ h => h.1, fun _ h => h.2.1, fun _ h => h.2.2.1, fun _ h => h.2.2.2.1,
    fun hB _ _ h hb => ⟨h.1.below hb h.1.lt, by rw [hb.cell (World.block_lt_of_cell? _ _ h.2.1)]; exact h.2.1, own_below h.2.2.1 hb (Nat.le_refl _), h.2.2.2.1.trans (hb.mono (Nat.le_trans hB h.2.2.2.2)), Nat.le_trans h.2.2.2.2 hb.size⟩⟩
end Go.Proofs.YtpgkcddhpeoiiaaDoor

/-
  RelateReaches holds. Conditions: 64 words below 2^64; the table of math/bits in memory.
-/
namespace Go.Proofs.YtpgkcddhpeoiiaaDoor
open Go.RowKit RM

set_option maxRecDepth 8000 in
/-- What a region may be told of the worlds that come: what was there is as it was. -/
theorem ex_gen (W : World) : ∃ S : World → Prop, Hid (S W.drew) ∧ (∀ w', S w' → Below W.heap.size W w') ∧ (∀ wa wb, S wa → Below wa.heap.size wa wb → S wb) :=
  ⟨fun w' => Below W.heap.size W w', (Below.refl _ _).drew, fun _ h => h, fun _ _ h hb => h.trans (hb.mono h.size)⟩
set_option maxRecDepth 8000 in
theorem hasR_cz (n : Int) (l : List Nat) (i j : Int) : hasR (pts n : Nat) (cz n l) i j = rchB n l i j := by
  unfold hasR rchB isPt
  rw [pts_pts, bt_cz]
section
variable {w w' : World} {g : Nat} {lo hi : Int}
end
end Go.Proofs.YtpgkcddhpeoiiaaDoor

/-
  What several layers need: worlds that change one block, lists of a set so far, words in memory. Conditions: none.
-/
namespace Go.Proofs.YtpgkcddhpeoiiaaDoor
open Go.RowKit RM

set_option maxRecDepth 8000 in
theorem ex_mut (g : Nat) (W : World) : ∃ S : World → Prop, Hid (S W.drew) ∧ (∀ w', S w' → Mut g W w') ∧ (∀ wa wb, S wa → Below wa.heap.size wa wb → S wb) ∧ Hid (∀ wa, Mut g W wa → S wa) :=
  ⟨fun w' => Mut g W w', (Mut.refl g W).drew, fun _ h => h, fun _ _ h hb => h.trans (Mut.of_below hb g), fun _ h => h⟩
set_option maxRecDepth 8000 in
theorem elsTo_yes {s k : Nat} (h : s.testBit k = true) : MM.elsTo s (k + 1) = MM.elsTo s k ++ [k] := by rw [MM.elsTo_succ, if_pos h]
set_option maxRecDepth 8000 in
theorem elsTo_no {s k : Nat} (h : s.testBit k = false) : MM.elsTo s (k + 1) = MM.elsTo s k := by rw [MM.elsTo_succ, h]; simp
set_option maxRecDepth 8000 in
theorem elsTo_skip {s a : Nat} : ∀ (d : Nat), (∀ t, a ≤ t → t < a + d → s.testBit t = false) → MM.elsTo s (a + d) = MM.elsTo s a
  | 0, _ => rfl
  | d + 1, h => by
    rw [← Nat.add_assoc, elsTo_no (h (a + d) (by omega) (by omega))]
    exact elsTo_skip d fun t h1 h2 => h t h1 (by omega)
set_option maxRecDepth 8000 in
theorem elsTo_none {s : Nat} (k : Nat) (h : ∀ t, t < k → s.testBit t = false) : MM.elsTo s k = [] := by
  have := elsTo_skip (s := s) (a := 0) k (fun t _ h2 => h t (by omega))
  rw [Nat.zero_add] at this
  rw [this]; rfl
set_option maxRecDepth 8000 in
theorem elsTo_all {s k : Nat} (hk : k ≤ 64) (h : ∀ t, k ≤ t → t < 64 → s.testBit t = false) : MM.elsTo s k = MM.els s := by
  have := elsTo_skip (s := s) (a := k) (64 - k) (fun t h1 h2 => h t h1 (by omega))
  rw [show k + (64 - k) = 64 by omega] at this
  rw [← this]; rfl
set_option maxRecDepth 8000 in
theorem elsTo_le64 (s k : Nat) (hk : k ≤ 64) : (MM.elsTo s k).length ≤ 64 := Nat.le_trans (MM.elsTo_length s k) hk
set_option maxRecDepth 8000 in
theorem ofN_ei {s : Nat} (hs : s < 18446744073709551616) : MM.ofN (ei (MM.els s)) = s := MM.ofN_els hs
set_option maxRecDepth 8000 in
theorem infoU64 : (Tryd.prog.info? 31).map (fun i => (i.zero, i.size, i.bytes)) = some (some (.int .u64 0), 1, 8) := by kernel_rfl
def ucells (xs : List Nat) : List Value := xs.map fun x : Nat => Value.int .u64 (x : Int)
set_option maxRecDepth 8000 in
theorem ucells_snoc (xs : List Nat) (x : Nat) : ucells (xs ++ [x]) = ucells xs ++ [.int .u64 (x : Int)] := by simp [ucells]
set_option maxRecDepth 8000 in
theorem ucells_length (xs : List Nat) : (ucells xs).length = xs.length := by simp [ucells]
def OwnU (w : World) (B : Nat) (A : Option Addr) (c : Nat) (xs : List Nat) : Prop := w.ownsRow B 31 1 (.slice A xs.length c) xs.length (ucells xs)
set_option maxRecDepth 8000 in
theorem OwnU.cell {w : World} {B c : Nat} {A : Option Addr} {xs : List Nat} (h : OwnU w B A c xs) (hne : xs ≠ []) : ∃ b o, A = some ⟨b, o, none⟩ ∧ ∀ j, j < xs.length → w.cell? ⟨b, o + j, none⟩ = some (.int .u64 ((xs.getD j 0 : Nat) : Int)) := by
  have hs : Sl w w.heap.size A (ucells xs) := Sl.of_own h
  obtain ⟨b, o, hA, _, hc⟩ := Sl.at_ hs (fun e => hne (by have := congrArg List.length e; rw [ucells_length] at this; simp at this; exact this))
  exact ⟨b, o, hA, fun j hj => hc j _ (by unfold ucells; rw [List.getElem?_map, List.getElem?_eq_getElem hj, List.getD_eq_getElem?_getD, List.getElem?_eq_getElem hj]; rfl)⟩
end Go.Proofs.YtpgkcddhpeoiiaaDoor
