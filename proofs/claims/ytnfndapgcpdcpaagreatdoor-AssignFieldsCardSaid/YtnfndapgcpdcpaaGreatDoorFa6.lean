/- Texts that all the claims need. Conditions: those that each states. -/
import Derived.Laws.OwnMore
import Derived.Test.YtnfndapgcpdcpaaGreatDoorFa5
set_option linter.unusedSimpArgs false
set_option linter.unusedVariables false
set_option maxRecDepth 100000
set_option maxHeartbeats 40000000
namespace Go.Proofs.YtnfndapgcpdcpaaGreatDoor
section
open Go.RowKit RM
open Go.Sort hiding Below ahead
theorem eu_one : OneCell eu := fun _ => rfl
theorem eql_eu (P : Program) (T : TypeId) : EqlAt P T eu (fun x y => decide (x = y)) :=
 ⟨fun x y w => by
  have h := (EqlAt.int P T .u64).1 (x : Int) (y : Int) w
  have e : ((x : Int) == (y : Int)) = decide (x = y) := by rw [Bool.eq_iff_iff]; simp; omega
  dsimp only at h
  rw [e] at h; exact h, fun op a b x y w => (EqlAt.int P T .u64).2 op a b (x : Int) (y : Int) w⟩
theorem neq_eu (P : Program) (T : TypeId) : NeqAt P T eu (fun x y => decide (x = y)) :=
 ⟨fun x y w => by
  have h := (NeqAt.int P T .u64).1 (x : Int) (y : Int) w
  have e : ((x : Int) == (y : Int)) = decide (x = y) := by rw [Bool.eq_iff_iff]; simp; omega
  dsimp only at h
  rw [e] at h; exact h, fun op a b x y w => (NeqAt.int P T .u64).2 op a b (x : Int) (y : Int) w⟩
theorem holds_rel {w : World} {g : Nat} {n : Int} {l : List Nat} (h : RelAt w g n l) (hl : RW l) (p : Nat) (hp : p ≤ 64) : Holds eu w g 1 (l.take p).toArray := by
 intro j hj
 have hj2 : j < p := by simp at hj; omega
 refine ⟨?_, h.free _⟩
 rw [h.cell hl j (by omega)]
 have hlen : j < l.length := by rw [hl.1]; omega
 have e : (l.take p).toArray[j]! = l.getD j 0 := by
  rw [getElem!_pos _ j (by simpa using hj)]
  simp [List.getD_eq_getElem?_getD, List.getElem?_eq_getElem hlen]
 rw [e]; rfl
theorem below_putRow {w : World} {B g off : Nat} (hB : B ≤ g) (d : Array Nat) : Below B w (putRow eu w g off d) := by
 refine ⟨rfl, rfl, rfl, by simp, fun k hk => ?_⟩
 unfold putRow mapBlock
 simp only [Array.getElem?_modify, if_neg (show g ≠ k by omega)]
theorem below_ahead {w : World} {B : Nat} (n : Nat) : Below B w (Go.Sort.ahead w n) := ⟨rfl, rfl, rfl, zL _, fun _ _ => rfl⟩
theorem compact_any (blk cap p : Nat) (d : Array Nat) (w : World) (hH : Holds eu w blk 1 d) (hd : d.size = p) (hp : p ≤ 64) (hcap : p ≤ cap) :
 Calls Tryz.prog 192 #[.slice (some ⟨blk, 1, none⟩) p cap] w fun e w' => e = .returned (.slice (some ⟨blk, 1, none⟩) (Lib.compactUpTo d d.size).length cap) ∧ Below blk w w' := by
 have h := Tryz.slices_Compact eu eu_one (eql_eu _ _) (neq_eu _ _) 0 (fun w => Tryz.zeroValue39 w) blk 1 cap d w hH (by omega) (by omega)
 rw [hd] at h
 refine h.mono ?_
 rintro e w' ⟨rfl, q, rfl⟩
 exact ⟨by rw [hd], (below_ahead q).trans (below_putRow (zL _) _)⟩
theorem rclasses_any (k : Nat) (hS : SortTo k) (n : Int) (l : List Nat) (hl : RW l) (hk : pts n ≤ k) (w : World) :
 Calls Tryz.prog 185 #[.agg (rv n l)] w fun e w' => e = .returned (.int .i64 ((nCls (pts n) (clo (pts n) (bt l)) : Nat) : Int)) ∧ Below w.heap.size w w' := by
 have hp := pts_le n
 have hz : RW (cz n l) := RW.mk _ _
 have hcl := rclosure_any n l hl
 have HCL := zh hcl; clear hcl
 have HC : Hid (∀ d' : Array Nat, d'.toList.Perm ((cz n l).take (pts n)) → (∀ i j, i < j → j < d'.size → d'[i]! ≤ d'[j]!) → (Lib.compactUpTo d' d'.size).length = nCls (pts n) (clo (pts n) (bt l))) :=
  fun d' h1 h2 => compact_cls hz hp (clo_closed _ _) (fun i j => by rw [bt_cz]; unfold clo; cases decide (i < pts n) <;> cases decide (j < pts n) <;> simp) d' h1 h2
 have HS := zh hS; clear hS
 generalize nCls (pts n) (clo (pts n) (bt l)) = c at *
 generalize cz n l = lz at *
 generalize pts n = p at *
 go_enter Tryz.func185, Tryz.ntmps185
 go_wp2_with (refine wpList_loadRel rfl _ rfl w.heap.size rfl n l hl (RelAt.new _ _ _) ?_)
 refine (HCL.out _).mono ?_
 rintro e w1 ⟨rfl, hb1⟩
 have r1 := (RelAt.new w n l).below hb1 (by simp)
 have hb : Below w.heap.size w w1 := ((zB _ _).alloc (zL _) _).trans (hb1.mono (by simp))
 have HB := zh hb; clear hb hb1
 have hp' : (p : Int) ≤ 64 := by omega
 go_wp2_with (refine wpList_storeRel rfl _ _ rfl w.heap.size rfl _ _ rfl n l hl hz r1 ?_; intro w2 q1 he; have HB2 := zh (HB.out.trans (he.below (zL _))); have hsz : w.heap.size < w2.heap.size := q1.lt; clear he HB r1; have hc0 := q1.cell0)
 clear hc0
 have hH := holds_rel q1 hz p hp
 have hsd : (lz.take p).toArray.size = p := by simp [hz.1]; omega
 have hcall := HS.out w.heap.size 1 64 (lz.take p).toArray w2 (by rw [hsd]; exact hk) hH
 rw [hsd] at hcall
 have HCA := zh hcall; clear hcall hH q1
 refine HCA.out.mono ?_
 rintro e w3 ⟨rfl, d', hperm, hsort, hH3, hm⟩
 have hd' : d'.size = p := by rw [hperm.1]; exact hsd
 have HB3 := zh (HB2.out.trans (hm.below (zL _) (by omega))); clear hm HB2
 have hlen := HC.out d' (by
  have h3 := hperm.2.2
  have e1 : (d'.extract 0 p).toList = d'.toList := by rw [← hd']; simp
  have e2 : ((lz.take p).toArray.extract 0 p).toList = lz.take p := by
   have := congrArg Array.toList (Array.extract_size (xs := (lz.take p).toArray))
   rw [hsd] at this
   exact this
  have h4 := hperm.2.2
  rw [e1, e2] at h4
  exact h4) (fun i j hij hj => by
   have := hsort i j (Nat.zero_le _) hij (by rw [hd'] at hj; exact hj)
   unfold ltN at this
   rw [decide_eq_false_iff_not] at this
   omega)
 have hco := compact_any w.heap.size 64 p d' w3 hH3 hd' hp hp
 rw [hlen] at hco
 have HCO := zh hco; clear hco hlen hH3 hsort hperm
 go_wp2_with fail
 refine HCO.out.mono ?_
 rintro e w4 ⟨rfl, hb4⟩
 have HB4 := zh (HB3.out.trans hb4); clear hb4
 go_wp2_with fail
 go_ret
 exact ⟨rfl, HB4.out⟩
def ordR (n : Int) (l : List Nat) : Bool := closedB n l && antiB (pts n) (bt l)
theorem fstB_congr {p : Nat} {R S : Nat → Nat → Bool} (h : ∀ i j, i < p → j < p → R i j = S i j) {i : Nat} (hi : i < p) : fstB R i = fstB S i := by
 unfold fstB
 rw [Bool.eq_iff_iff, List.all_eq_true, List.all_eq_true]
 simp only [List.mem_range]
 exact ⟨fun h2 j hj => by rw [← h _ _ hi (by omega), ← h _ _ (by omega) hi]; exact h2 j hj, fun h2 j hj => by rw [h _ _ hi (by omega), h _ _ (by omega) hi]; exact h2 j hj⟩
theorem antiB_congr {p : Nat} {R S : Nat → Nat → Bool} (h : ∀ i j, i < p → j < p → R i j = S i j) : antiB p R = antiB p S := by
 unfold antiB
 rw [Bool.eq_iff_iff, List.all_eq_true, List.all_eq_true]
 simp only [List.mem_range]
 exact ⟨fun h2 i hi => by rw [← fstB_congr h hi]; exact h2 i hi, fun h2 i hi => by rw [fstB_congr h hi]; exact h2 i hi⟩
theorem ord_cls {n : Int} {l : List Nat} (h : closedB n l = true) : ordR n l = decide (nCls (pts n) (clo (pts n) (bt l)) = pts n) := by
 unfold ordR
 rw [h, Bool.true_and, Bool.eq_iff_iff, decide_eq_true_eq, nCls_all, antiB_congr fun i j hi hj => clo_self ((closedB_iff n l).1 h) hi hj]
theorem rorder_any (k : Nat) (hS : SortTo k) (n : Int) (l : List Nat) (hl : RW l) (hk : pts n ≤ k) (w : World) :
 Calls Tryz.prog 164 #[.agg (rv n l)] w fun e w' => e = .returned (.bool (ordR n l)) ∧ Below w.heap.size w w' := by
 have hcl := rclasses_any k hS n l hl hk
 have HCL := zh hcl; clear hcl
 have hr1 := RelAt.new w n l
 have hb : Below w.heap.size w (w.alloc (.cells (rv n l) 62)) := (zB _ _).alloc (zL _) _
 obtain ⟨S, HS, p1, PB, keep⟩ := ex_one _ _ _ _ _ _ hr1 hb
 have keepS := keep.out (by simp)
 clear keep hr1 hb
 cases hcb : closedB n l with
 | false =>
   have ho : ordR n l = false := by unfold ordR; rw [hcb]; rfl
   rw [ho]
   have HCB := zh hcb; clear hcb ho
   go_enter Tryz.func164, Tryz.ntmps164
   go_wp2_with fail
   refine wp_region_ord S [(0, true), (1, false), (2, true), (3, true), (5, true), (6, true), (4, false), (7, false), (8, true), (9, true), (10, true), (11, true)] (by kernel_rfl) (by kernel_rfl) rfl (by kernel_rfl) HS.out ?_
   iterate 1
    (refine wpOrd_step (o := ?_) ?_ ?_; rotate_left 1; (simp only [zA1, zA3]; with_reducible rfl))
    (first
         | (refine wpOrd_skip (by rfl) ?_)
         | (refine wpOrd_take (by rfl) (take_loadRel _ rfl _ rfl n l hl p1) ?_)
         | (refine wpOrd_take (v := ?_) (by rfl) ?_ ?_; rotate_left 1; (intro wx hSx; go_simp; try with_reducible rfl)))
    (try simp only [Act.put, zA4, zA5, zA6])
   (refine wpOrd_solo (zO rfl) ?_)
   intro K hK
   go_simp
   go_at_call 163
   refine (rclosed_any _ _ hl _).mono ?_
   rintro e w2 ⟨rfl, hb⟩
   have hS := keepS _ _ HS.out hb
   clear HS
   have HS := zh hS; clear hS hb
   refine hK.out _ _ HS.out ?_
   clear hK K
   (try simp only [Act.put, zA4, zA5, zA6])
   rw [HCB.out]
   iterate 4
    (refine wpOrd_step (zO rfl) ?_)
    (first
         | (refine wpOrd_skip (by rfl) ?_)
         | (refine wpOrd_take (v := ?_) (by rfl) ?_ ?_; rotate_left 1; (intro wx hSx; go_simp; try with_reducible rfl)))
    (try simp only [Act.put, zA4, zA5, zA6])
   (refine wpOrd_solo (zO rfl) ?_)
   intro K hK
   go_simp
   refine hK.out _ _ HS.out ?_
   clear hK K
   (try simp only [Act.put, zA4, zA5, zA6])
   (refine wpOrd_solo (zO rfl) ?_)
   intro K hK
   go_simp
   refine hK.out _ _ HS.out ?_
   clear hK K
   (try simp only [Act.put, zA4, zA5, zA6])
   iterate 4
    (refine wpOrd_step (zO rfl) ?_)
    (first
         | (refine wpOrd_skip (by rfl) ?_)
         | (refine wpOrd_take (v := ?_) (by rfl) ?_ ?_; rotate_left 1; (intro wx hSx; go_simp; try with_reducible rfl)))
    (try simp only [Act.put, zA4, zA5, zA6])
   refine wpOrd_done ?_
   go_wp2_with fail
   go_ret
   exact ⟨rfl, PB.out _ HS.out⟩
 | true =>
   have ho := ord_cls hcb
   rw [ho]
   have HCB := zh hcb; clear hcb ho
   have c0 := fun w' h => (p1 w' h).cell0
   go_enter Tryz.func164, Tryz.ntmps164
   go_wp2_with fail
   refine wp_region_ord S [(0, true), (1, false), (2, true), (3, true), (5, true), (6, true), (4, false), (7, false), (8, true), (9, true), (10, true), (11, true)] (by kernel_rfl) (by kernel_rfl) rfl (by kernel_rfl) HS.out ?_
   iterate 1
    (refine wpOrd_step (o := ?_) ?_ ?_; rotate_left 1; (simp only [zA1, zA3]; with_reducible rfl))
    (first
     | (refine wpOrd_skip (by rfl) ?_)
     | (refine wpOrd_take (by rfl) (take_loadRel _ rfl _ rfl n l hl p1) ?_)
     | (refine wpOrd_take (v := ?_) (by rfl) ?_ ?_; rotate_left 1; (intro wx hSx; go_simp; try with_reducible rfl)))
    (try simp only [Act.put, zA4, zA5, zA6])
   (refine wpOrd_solo (zO rfl) ?_)
   intro K hK
   go_simp
   go_at_call 163
   refine (rclosed_any _ _ hl _).mono ?_
   rintro e w2 ⟨rfl, hb⟩
   have hS := keepS _ _ HS.out hb
   clear HS
   have HS := zh hS; clear hS hb
   refine hK.out _ _ HS.out ?_
   clear hK K
   (try simp only [Act.put, zA4, zA5, zA6])
   rw [HCB.out]
   iterate 4
    (refine wpOrd_step (zO rfl) ?_)
    (first
     | (refine wpOrd_skip (by rfl) ?_)
     | (refine wpOrd_take (by rfl) (take_loadRel _ rfl _ rfl n l hl p1) ?_)
     | (refine wpOrd_take (v := ?_) (by rfl) ?_ ?_; rotate_left 1; (intro wx hSx; have hc_0 := c0 wx hSx; go_simp; try with_reducible rfl)))
    (try simp only [Act.put, zA4, zA5, zA6])
   (refine wpOrd_solo (zO rfl) ?_)
   intro K hK
   go_simp
   go_at_call 185
   refine (HCL.out _).mono ?_
   rintro e w3 ⟨rfl, hb⟩
   have hS := keepS _ _ HS.out hb
   clear HS
   have HS := zh hS; clear hS hb
   refine hK.out _ _ HS.out ?_
   clear hK K
   (try simp only [Act.put, zA4, zA5, zA6])
   (refine wpOrd_solo (zO rfl) ?_)
   intro K hK
   go_simp
   go_at_call 124
   refine (new_any _ _).mono ?_
   rintro e w4 ⟨rfl, hb⟩
   have hS := keepS _ _ HS.out hb
   clear HS
   have HS := zh hS; clear hS hb
   refine hK.out _ _ HS.out ?_
   clear hK K
   (try simp only [Act.put, zA4, zA5, zA6])
   iterate 4
    (refine wpOrd_step (zO rfl) ?_)
    (first
     | (refine wpOrd_skip (by rfl) ?_)
     | (refine wpOrd_take (by rfl) (take_field0 _ rfl _ _ rfl) ?_)
     | (refine wpOrd_take (v := ?_) (by rfl) ?_ ?_; rotate_left 1; (intro wx hSx; go_simp; try with_reducible rfl)))
    (try simp only [Act.put, zA4, zA5, zA6])
   refine wpOrd_done ?_
   go_wp2_with fail
   go_ret
   refine ⟨ret_eq (bool_eq ?_), PB.out _ HS.out⟩
   rw [Bool.eq_iff_iff]; simp; omega
end
section
open Go.RowKit RM
theorem RowsAt.grown {w w' : World} {g : Nat} {l : List Nat} {row : Option Nat} (h : RowsAt w g l) (hb : w.grownBy w' row) (hg : row ≠ some g) : RowsAt w' g l := (hb.block g h.lt (fun e => hg e.symm)).trans h
end
section
open Go.RowKit RM
def ends (L : List Nat) (s : Nat) : Nat → Nat
 | 0 => abv L s
 | k + 1 => abv L (ends L s k)
end
section
open Go.RowKit RM
end
section
open Go.RowKit RM
end
section
open Go.RowKit RM
theorem nodup_le {p : Nat} {o : List Nat} (hn : o.Nodup) (hp : ∀ x ∈ o, x < p) : o.length ≤ p := by
 have hr : ((List.range p).filter fun x => decide (x ∈ o)).Nodup := List.Pairwise.filter _ List.nodup_range
 have := ((List.perm_ext_iff_of_nodup hn hr).2 fun x => by simp only [List.mem_filter, List.mem_range, decide_eq_true_eq]; exact ⟨fun h => ⟨hp x h, h⟩, fun h => h.2⟩).length_eq
 rw [this]
 have h2 := List.length_filter_le (fun x => decide (x ∈ o)) (List.range p)
 simpa using h2
structure Rch (p : Nat) (R : Nat → Nat → Bool) (i : Nat) (o : List Nat) (a j : Nat) : Prop where
 nodup : o.Nodup
 start : i ∈ o
 path : ∀ x ∈ o, Path p R i x
 done : ∀ t, t < a → ∀ y, y < p → R (o.getD t 0) y = true → y ∈ o
 part : ∀ y, y < j → y < p → R (o.getD a 0) y = true → y ∈ o
section
variable {p : Nat} {R : Nat → Nat → Bool} {i a j : Nat} {o : List Nat}
theorem Rch.len (h : Rch p R i o a j) : o.length ≤ p := nodup_le h.nodup fun x hx => (h.path x hx).lt_right
theorem Rch.skip (h : Rch p R i o a j) (hs : R (o.getD a 0) j = true → j ∈ o) : Rch p R i o a (j + 1) :=
 ⟨h.nodup, h.start, h.path, h.done, fun y hy hp hr => by
  by_cases e : y = j
  ·subst e; exact hs hr
  ·exact h.part y (by omega) hp hr⟩
theorem Rch.add (h : Rch p R i o a j) (ha : a < o.length) (hj : j < p) (hr : R (o.getD a 0) j = true) (hn : j ∉ o) : Rch p R i (o ++ [j]) a (j + 1) := by
 have hg : ∀ t, t < o.length → (o ++ [j]).getD t 0 = o.getD t 0 := fun t ht => by
  rw [List.getD_eq_getElem?_getD, List.getD_eq_getElem?_getD, List.getElem?_append_left ht]
 have hm : o.getD a 0 ∈ o := by
  rw [List.getD_eq_getElem?_getD, List.getElem?_eq_getElem ha]; exact List.getElem_mem ha
 have hin : ∀ {y}, y ∈ o → y ∈ o ++ [j] := fun h => List.mem_append_left _ h
 refine ⟨?_, hin h.start, fun x hx => ?_, fun t ht y hy hr2 => ?_, fun y hy hp hr2 => ?_⟩
 ·rw [List.nodup_append]
  refine ⟨h.nodup, by simp, fun x hx y hy => ?_⟩
  rw [List.mem_singleton] at hy
  subst hy
  intro e
  subst e
  exact hn hx
 ·rw [List.mem_append, List.mem_singleton] at hx
  rcases hx with hx | rfl
  ·exact h.path x hx
  ·exact Path.step _ _ _ (h.path _ hm) hr hj
 ·rw [hg t (by omega)] at hr2
  exact hin (h.done t ht y hy hr2)
 ·rw [hg a ha] at hr2
  by_cases e : y = j
  ·subst e; simp
  ·exact hin (h.part y (by omega) hp hr2)
theorem Rch.next (h : Rch p R i o a p) : Rch p R i o (a + 1) 0 :=
 ⟨h.nodup, h.start, h.path, fun t ht y hy hr => by
  by_cases e : t = a
  ·subst e; exact h.part y hy hy hr
  ·exact h.done t (by omega) y hy hr, fun y hy => by omega⟩
theorem Rch.all (h : Rch p R i o o.length 0) (x : Nat) : x ∈ o ↔ Path p R i x := by
 constructor
 ·exact h.path x
 ·intro hp
  induction hp with
  | refl => exact h.start
  | step k j hk hr hj ih =>
    obtain ⟨t, ht, he⟩ := List.mem_iff_getElem.1 ih
    refine h.done t ht j hj ?_
    rw [List.getD_eq_getElem?_getD, List.getElem?_eq_getElem ht]
    show R o[t] j = true
    rw [he]; exact hr
end
theorem RelAt.grown {w w' : World} {g : Nat} {n : Int} {l : List Nat} {row : Option Nat} (h : RelAt w g n l) (hb : w.grownBy w' row) (hg : row ≠ some g) : RelAt w' g n l := (hb.block g h.lt (fun e => hg e.symm)).trans h
end
section
open Go.RowKit RM
theorem ex_gen (W : World) : ∃ S : World → Prop, Hid (S W.drew) ∧ (∀ w', S w' → Below W.heap.size W w') ∧ (∀ wa wb, S wa → Below wa.heap.size wa wb → S wb) :=
 ⟨fun w' => Below W.heap.size W w', (zB _ _).drew, fun _ h => h, fun _ _ h hb => h.trans (hb.mono h.size)⟩
section
variable {w w' : World} {g : Nat} {lo hi : Int}
end
end
section
open Go.RowKit RM
theorem ex_mut (g : Nat) (W : World) : ∃ S : World → Prop, Hid (S W.drew) ∧ (∀ w', S w' → Mut g W w') ∧ (∀ wa wb, S wa → Below wa.heap.size wa wb → S wb) ∧ Hid (∀ wa, Mut g W wa → S wa) :=
 ⟨fun w' => Mut g W w', (Mut.refl g W).drew, fun _ h => h, fun _ _ h hb => h.trans (Mut.of_below hb g), fun _ h => h⟩
theorem infoU64 : (Tryz.prog.info? 39).map (fun i => (i.zero, i.size, i.bytes)) = some (some (.int .u64 0), 1, 8) := by kernel_rfl
def ucells (xs : List Nat) : List Value := xs.map fun x : Nat => Value.int .u64 (x : Int)
theorem ucells_length (xs : List Nat) : (ucells xs).length = xs.length := by simp [ucells]
def OwnU (w : World) (B : Nat) (A : Option Addr) (c : Nat) (xs : List Nat) : Prop := w.ownsRow B 39 1 (.slice A xs.length c) xs.length (ucells xs)
theorem OwnU.cell {w : World} {B c : Nat} {A : Option Addr} {xs : List Nat} (h : OwnU w B A c xs) (hne : xs ≠ []) : ∃ b o, A = some ⟨b, o, none⟩ ∧ ∀ j, j < xs.length → w.cell? ⟨b, o + j, none⟩ = some (.int .u64 ((xs.getD j 0 : Nat) : Int)) := by
 have hs : Sl w w.heap.size A (ucells xs) := Sl.of_own h
 obtain ⟨b, o, hA, _, hc⟩ := Sl.at_ hs (fun e => hne (by have := congrArg List.length e; rw [ucells_length] at this; simp at this; exact this))
 exact ⟨b, o, hA, fun j hj => hc j _ (by unfold ucells; rw [List.getElem?_map, List.getElem?_eq_getElem hj, List.getD_eq_getElem?_getD, List.getElem?_eq_getElem hj]; rfl)⟩
end
end Go.Proofs.YtnfndapgcpdcpaaGreatDoor
