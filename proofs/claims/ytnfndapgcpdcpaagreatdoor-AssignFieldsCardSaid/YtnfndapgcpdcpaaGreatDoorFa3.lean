/- Texts that all the claims need. Conditions: those that each states. -/
import Derived.ChangeKeysEq
import Derived.Deep.MidRow
import Derived.Deep.RegionHeld3
import Derived.Deep.WholeRow
import Derived.Laws.CopyOwn
import Derived.Laws.StructEq
import Derived.Lib.SlicesCompact
import Derived.Outline
import Derived.Sort.AssemblyPlain
import Derived.StillTailTactics
import Derived.Test.YtnfndapgcpdcpaaGreatDoorFa0
set_option linter.unusedSimpArgs false
set_option linter.unusedVariables false
set_option maxRecDepth 100000
set_option maxHeartbeats 40000000
namespace Go.Proofs.YtnfndapgcpdcpaaGreatDoor
namespace RM
open Go.Proofs.YtnfndapgcpdcpaaGreatDoor
def pts (n : Int) : Nat := if n < 0 then 0 else if 64 < n then 64 else n.toNat
theorem pts_neg {n : Int} (h : n < 0) : pts n = 0 := by simp [pts, h]
theorem pts_big {n : Int} (h : 64 < n) : pts n = 64 := by unfold pts; rw [if_neg (by omega), if_pos h]
theorem pts_in {n : Int} (h : 0 ≤ n) (h2 : n ≤ 64) : ((pts n : Nat) : Int) = n := by unfold pts; rw [if_neg (by omega), if_neg (by omega)]; omega
theorem pts_le (n : Int) : pts n ≤ 64 := by unfold pts; split <;> (try split) <;> omega
theorem pts_pts (n : Int) : pts ((pts n : Nat) : Int) = pts n := by have := pts_le n; generalize pts n = k at *; unfold pts; split <;> (try split) <;> omega
def RW (l : List Nat) : Prop := l.length = 64 ∧ ∀ x ∈ l, x < 18446744073709551616
def zs : List Nat := List.replicate 64 0
theorem RW.zs : RW zs := ⟨by simp [Go.Proofs.YtnfndapgcpdcpaaGreatDoor.RM.zs], fun x hx => by simp [Go.Proofs.YtnfndapgcpdcpaaGreatDoor.RM.zs] at hx; omega⟩
theorem RW.lt {l : List Nat} (h : RW l) (i : Nat) : l.getD i 0 < 18446744073709551616 := by
 rw [List.getD_eq_getElem?_getD]
 cases hx : l[i]? with
 | none => simp
 | some x => exact h.2 x (List.mem_of_getElem? hx)
theorem RW.set {l : List Nat} (h : RW l) (i x : Nat) (hx : x < 18446744073709551616) : RW (l.set i x) :=
 ⟨by simp [h.1], fun y hy => by
  rcases List.mem_or_eq_of_mem_set hy with h1 | h1
  ·exact h.2 y h1
  ·omega⟩
def bt (l : List Nat) (i j : Nat) : Bool := (l.getD i 0).testBit j
theorem bt_zs (i j : Nat) : bt zs i j = false := by
 unfold bt zs
 rw [List.getD_eq_getElem?_getD]
 by_cases h : i < 64
 ·rw [List.getElem?_eq_getElem (by simpa using h), List.getElem_replicate]; simp
 ·rw [List.getElem?_eq_none (by simp; omega)]; simp
theorem bt_high {l : List Nat} (h : RW l) (i j : Nat) (hj : 64 ≤ j) : bt l i j = false := by
 unfold bt
 exact Nat.testBit_lt_two_pow (zT (h.lt i) (Nat.pow_le_pow_right (show 0 < 2 by omega) hj))
theorem bt_far {l : List Nat} (h : RW l) (i j : Nat) (hi : 64 ≤ i) : bt l i j = false := by
 unfold bt
 rw [List.getD_eq_getElem?_getD, List.getElem?_eq_none (by rw [h.1]; exact hi)]
 simp
theorem getD_set {l : List Nat} (h : RW l) (i x a : Nat) (hi : i < 64) : (l.set i x).getD a 0 = if a = i then x else l.getD a 0 := by
 rw [List.getD_eq_getElem?_getD, List.getD_eq_getElem?_getD, List.getElem?_set]
 by_cases e : i = a
 ·subst e
  rw [if_pos rfl, if_pos (by rw [h.1]; exact hi), if_pos rfl]; rfl
 ·rw [if_neg e, if_neg (fun e' => e e'.symm)]
theorem bt_set {l : List Nat} (h : RW l) (i x a b : Nat) (hi : i < 64) : bt (l.set i x) a b = if a = i then x.testBit b else bt l a b := by
 unfold bt
 rw [getD_set h i x a hi]
 split <;> rfl
theorem rext {l m : List Nat} (h : RW l) (h2 : RW m) (he : ∀ i j, i < 64 → j < 64 → bt l i j = bt m i j) : l = m := by
 refine List.ext_getElem (by rw [h.1, h2.1]) fun i h1 h3 => ?_
 have hi : i < 64 := by rw [h.1] at h1; exact h1
 have e1 : l.getD i 0 = l[i] := by rw [List.getD_eq_getElem?_getD, List.getElem?_eq_getElem h1]; rfl
 have e2 : m.getD i 0 = m[i] := by rw [List.getD_eq_getElem?_getD, List.getElem?_eq_getElem h3]; rfl
 rw [← e1, ← e2]
 exact MM.ext64 (h.lt i) (h2.lt i) fun j hj => he i j hi hj
def mkR (p : Nat) (R : Nat → Nat → Bool) : List Nat := (List.range 64).map fun i => MM.ofP (fun j => decide (i < p) && decide (j < p) && R i j) 64
theorem RW.mk (p : Nat) (R : Nat → Nat → Bool) : RW (mkR p R) := ⟨by simp [mkR], fun x hx => by
 simp only [mkR, List.mem_map] at hx
 obtain ⟨i, _, rfl⟩ := hx
 exact MM.ofP_lt _ _⟩
theorem bt_mk (p : Nat) (R : Nat → Nat → Bool) (i j : Nat) (hp : p ≤ 64) : bt (mkR p R) i j = (decide (i < p) && decide (j < p) && R i j) := by
 unfold bt mkR
 rw [List.getD_eq_getElem?_getD, List.getElem?_map]
 by_cases hi : i < 64
 ·rw [List.getElem?_range hi]
  simp only [Option.map_some, Option.getD_some, MM.ofP_bit]
  by_cases hj : j < 64
  ·simp [hj]
  ·simp [hj, show ¬ j < p by omega]
 ·rw [List.getElem?_eq_none (by simp; omega)]
  simp [show ¬ i < p by omega]
theorem mk_ext (p : Nat) (R S : Nat → Nat → Bool) (hp : p ≤ 64) (h : ∀ i j, i < p → j < p → R i j = S i j) : mkR p R = mkR p S :=
 rext (RW.mk _ _) (RW.mk _ _) fun i j _ _ => by
  rw [bt_mk _ _ _ _ hp, bt_mk _ _ _ _ hp]
  by_cases h1 : i < p
  ·by_cases h2 : j < p
   ·rw [h i j h1 h2]
   ·simp [h2]
  ·simp [h1]
theorem eq_mk {l : List Nat} (h : RW l) (p : Nat) (R : Nat → Nat → Bool) (hp : p ≤ 64) (he : ∀ i j, i < 64 → j < 64 → bt l i j = (decide (i < p) && decide (j < p) && R i j)) : l = mkR p R :=
 rext h (RW.mk _ _) fun i j hi hj => by rw [he i j hi hj, bt_mk _ _ _ _ hp]
inductive Path (p : Nat) (R : Nat → Nat → Bool) : Nat → Nat → Prop where
 | refl (i : Nat) (h : i < p) : Path p R i i
 | step (i k j : Nat) (h : Path p R i k) (hr : R k j = true) (hj : j < p) : Path p R i j
theorem Path.lt_right {p : Nat} {R : Nat → Nat → Bool} {i j : Nat} (h : Path p R i j) : j < p := by cases h <;> assumption
theorem Path.lt_left {p : Nat} {R : Nat → Nat → Bool} {i j : Nat} (h : Path p R i j) : i < p := by induction h <;> assumption
theorem Path.trans {p : Nat} {R : Nat → Nat → Bool} {i j k : Nat} (h : Path p R i j) (h2 : Path p R j k) : Path p R i k := by
 induction h2 with
 | refl => exact h
 | step k j _ hr hj ih => exact Path.step _ k j ih hr hj
theorem Path.one {p : Nat} {R : Nat → Nat → Bool} {i j : Nat} (hi : i < p) (hr : R i j = true) (hj : j < p) : Path p R i j := Path.step i i j (Path.refl i hi) hr hj
theorem Path.within {p : Nat} {R S : Nat → Nat → Bool} {i j : Nat} (h : Path p R i j) (hre : ∀ a, a < p → S a a = true) (htr : ∀ a b c, a < p → b < p → c < p → S a b = true → S b c = true → S a c = true)
 (hsub : ∀ a b, a < p → b < p → R a b = true → S a b = true) : S i j = true := by
 induction h with
 | refl h => exact hre _ h
 | step k j hp hr hj ih => exact htr _ k j hp.lt_left hp.lt_right hj ih (hsub k j hp.lt_right hj hr)
def war (R : Nat → Nat → Bool) : Nat → Nat → Nat → Bool
 | 0, i, j => R i j || decide (i = j)
 | k + 1, i, j => war R k i j || (war R k i k && war R k k j)
theorem war_zero (R : Nat → Nat → Bool) (i j : Nat) : war R 0 i j = (R i j || decide (i = j)) := rfl
theorem war_succ (R : Nat → Nat → Bool) (k i j : Nat) : war R (k + 1) i j = (war R k i j || (war R k i k && war R k k j)) := rfl
theorem war_at (R : Nat → Nat → Bool) (k j : Nat) : war R (k + 1) k j = war R k k j := by rw [war_succ]; cases war R k k j <;> simp
theorem war_to (R : Nat → Nat → Bool) (k i : Nat) : war R (k + 1) i k = war R k i k := by rw [war_succ]; cases war R k i k <;> simp
theorem war_path {p : Nat} {R : Nat → Nat → Bool} : ∀ (k i j : Nat), k ≤ p → i < p → j < p → war R k i j = true → Path p R i j
 | 0, i, j, _, hi, hj, h => by
   rw [war_zero, Bool.or_eq_true, decide_eq_true_eq] at h
   rcases h with h | rfl
   ·exact Path.one hi h hj
   ·exact Path.refl _ hi
 | k + 1, i, j, hk, hi, hj, h => by
   rw [war_succ, Bool.or_eq_true, Bool.and_eq_true] at h
   rcases h with h | ⟨h1, h2⟩
   ·exact war_path k i j (by omega) hi hj h
   ·exact (war_path k i k (by omega) hi (by omega) h1).trans (war_path k k j (by omega) (by omega) hj h2)
theorem war_trans {R : Nat → Nat → Bool} : ∀ (k i m j : Nat), m < k → war R k i m = true → war R k m j = true → war R k i j = true
 | 0, _, _, _, hm, _, _ => by omega
 | k + 1, i, m, j, hm, h1, h2 => by
   by_cases e : m = k
   ·subst e
    rw [war_to] at h1
    rw [war_at] at h2
    rw [war_succ, h1, h2]; simp
   ·have hlt : m < k := by omega
    rw [war_succ, Bool.or_eq_true, Bool.and_eq_true] at h1 h2 ⊢
    rcases h1 with h1 | ⟨h1, h3⟩ <;> rcases h2 with h2 | ⟨h2, h4⟩
    ·exact .inl (war_trans k i m j hlt h1 h2)
    ·exact .inr ⟨war_trans k i m k hlt h1 h2, h4⟩
    ·exact .inr ⟨h1, war_trans k k m j hlt h3 h2⟩
    ·exact .inr ⟨h1, h4⟩
theorem war_mono {R : Nat → Nat → Bool} {i j : Nat} (h : war R 0 i j = true) : ∀ k, war R k i j = true
 | 0 => h
 | k + 1 => by rw [war_succ, war_mono h k]; rfl
theorem path_war {p : Nat} {R : Nat → Nat → Bool} {i j : Nat} (h : Path p R i j) : war R p i j = true :=
 h.within (fun a _ => war_mono (by rw [war_zero]; simp) p) (fun _ _ _ _ hb _ => war_trans p _ _ _ hb) (fun a b _ _ hr => war_mono (by rw [war_zero, hr]; rfl) p)
def clo (p : Nat) (R : Nat → Nat → Bool) (i j : Nat) : Bool := decide (i < p) && decide (j < p) && war R p i j
theorem clo_iff {p : Nat} {R : Nat → Nat → Bool} {i j : Nat} : clo p R i j = true ↔ Path p R i j := by
 unfold clo
 simp only [Bool.and_eq_true, decide_eq_true_eq]
 exact ⟨fun ⟨⟨h1, h2⟩, h3⟩ => war_path p i j (zL _) h1 h2 h3, fun h => ⟨⟨h.lt_left, h.lt_right⟩, path_war h⟩⟩
def Closed (p : Nat) (R : Nat → Nat → Bool) : Prop := (∀ a, a < p → R a a = true) ∧ ∀ a b c, a < p → b < p → c < p → R a b = true → R b c = true → R a c = true
theorem clo_closed (p : Nat) (R : Nat → Nat → Bool) : Closed p (clo p R) :=
 ⟨fun a ha => clo_iff.2 (Path.refl a ha), fun _ _ _ _ _ _ h1 h2 => clo_iff.2 ((clo_iff.1 h1).trans (clo_iff.1 h2))⟩
theorem clo_has {p : Nat} {R : Nat → Nat → Bool} {i j : Nat} (hi : i < p) (hj : j < p) (h : R i j = true) : clo p R i j = true := clo_iff.2 (Path.one hi h hj)
theorem clo_least {p : Nat} {R S : Nat → Nat → Bool} (hS : Closed p S) (hsub : ∀ a b, a < p → b < p → R a b = true → S a b = true) {i j : Nat} (h : clo p R i j = true) : S i j = true :=
 (clo_iff.1 h).within hS.1 hS.2 hsub
theorem clo_self {p : Nat} {R : Nat → Nat → Bool} (h : Closed p R) {i j : Nat} (hi : i < p) (hj : j < p) : clo p R i j = R i j := by
 rw [Bool.eq_iff_iff]
 exact ⟨clo_least h fun _ _ _ _ h => h, clo_has hi hj⟩
def cl (n : Int) (l : List Nat) : List Nat := mkR (pts n) (bt l)
def cz (n : Int) (l : List Nat) : List Nat := mkR (pts n) (clo (pts n) (bt l))
theorem bt_cl (n : Int) (l : List Nat) (i j : Nat) : bt (cl n l) i j = (decide (i < pts n) && decide (j < pts n) && bt l i j) := bt_mk _ _ _ _ (pts_le n)
theorem bt_cz (n : Int) (l : List Nat) (i j : Nat) : bt (cz n l) i j = clo (pts n) (bt l) i j := by
 unfold cz
 rw [bt_mk _ _ _ _ (pts_le n)]
 unfold clo
 cases decide (i < pts n) <;> cases decide (j < pts n) <;> simp
theorem closed_iff (n : Int) (l : List Nat) : cl n l = cz n l ↔ Closed (pts n) (bt l) := by
 constructor
 ·intro h
  have hb : ∀ i j, i < pts n → j < pts n → bt l i j = clo (pts n) (bt l) i j := fun i j hi hj => by
   rw [← bt_cz, ← h, bt_cl]; simp [hi, hj]
  refine ⟨fun a ha => by rw [hb a a ha ha]; exact (clo_closed _ _).1 a ha, fun a b c ha hb' hc h1 h2 => ?_⟩
  rw [hb _ _ ha hb'] at h1
  rw [hb _ _ hb' hc] at h2
  rw [hb _ _ ha hc]
  exact (clo_closed _ _).2 a b c ha hb' hc h1 h2
 ·intro h
  exact mk_ext _ _ _ (pts_le n) fun i j hi hj => (clo_self h hi hj).symm
end RM
section
open Go.RowKit RM
def rv (n : Int) (l : List Nat) : Array Value := (Value.int .i64 n :: l.map fun x : Nat => Value.int .u64 (x : Int)).toArray
def uv (l : List Nat) : Array Value := (l.map fun x : Nat => Value.int .u64 (x : Int)).toArray
theorem rv_size (n : Int) {l : List Nat} (h : RW l) : (rv n l).size = 65 := by simp [rv, h.1]
theorem rv_0 (n : Int) (l : List Nat) : (rv n l)[0]? = some (.int .i64 n) := by simp [rv]
theorem rv_succ (n : Int) {l : List Nat} (h : RW l) (i : Nat) (hi : i < 64) : (rv n l)[1 + i]? = some (.int .u64 ((l.getD i 0 : Nat) : Int)) := by
 have : i < l.length := by rw [h.1]; exact hi
 rw [Nat.add_comm]
 simp [rv, List.getD_eq_getElem?_getD, List.getElem?_eq_getElem this]
theorem uv_at {l : List Nat} (h : RW l) (i : Nat) (hi : i < 64) : (uv l)[i]? = some (.int .u64 ((l.getD i 0 : Nat) : Int)) := by
 have : i < l.length := by rw [h.1]; exact hi
 simp [uv, List.getD_eq_getElem?_getD, List.getElem?_eq_getElem this]
theorem rv_one (n : Int) (l : List Nat) : (rv n l).all (·.oneCell') = true := by
 rw [Array.all_eq_true_iff_forall_mem]
 intro v hv
 simp only [rv, List.mem_toArray, List.mem_cons, List.mem_map] at hv
 rcases hv with rfl | ⟨x, _, rfl⟩ <;> rfl
theorem uv_one (l : List Nat) : (uv l).all (·.oneCell') = true := by
 rw [Array.all_eq_true_iff_forall_mem]
 intro v hv
 simp only [uv, List.mem_toArray, List.mem_map] at hv
 rcases hv with ⟨x, _, rfl⟩; rfl
theorem rv_set (n : Int) (l : List Nat) (i x : Nat) : (rv n l).setIfInBounds (1 + i) (.int .u64 (x : Int)) = rv n (l.set i x) := by
 rw [Nat.add_comm]
 simp [rv, List.map_set]
theorem uv_set (l : List Nat) (i x : Nat) : (uv l).setIfInBounds i (.int .u64 (x : Int)) = uv (l.set i x) := by
 simp [uv, List.map_set]
theorem rv_setN (n m : Int) (l : List Nat) : (rv n l).setIfInBounds 0 (.int .i64 m) = rv m l := by simp [rv]
theorem rv_rows (n : Int) {l : List Nat} (h : RW l) : (rv n l).extract 1 65 = uv l := by
 have := h.1
 simp only [rv, uv, List.extract_toArray, List.extract_eq_take_drop, List.drop_succ_cons, List.drop_zero]
 rw [List.take_of_length_le (by simp [this])]
theorem zero_rel : Tryz.zeroCells62 = rv 0 zs := by kernel_rfl
theorem rinfo (n : Int) {l : List Nat} (h : RW l) : (Tryz.prog.info? 62).map (·.size) = some (rv n l).size := by rw [rv_size n h]; kernel_rfl
def RelAt (w : World) (g : Nat) (n : Int) (l : List Nat) : Prop := w.heap[g]? = some (.cells (rv n l) 62 (0, 0))
def RowsAt (w : World) (g : Nat) (l : List Nat) : Prop := w.heap[g]? = some (.cells (uv l) 60 (0, 0))
section
variable {w w' : World} {g : Nat} {n : Int} {l : List Nat}
theorem RelAt.lt (h : RelAt w g n l) : g < w.heap.size := (Array.getElem?_eq_some_iff.1 h).1
theorem RelAt.cell0 (h : RelAt w g n l) : w.cell? ⟨g, 0, none⟩ = some (.int .i64 n) := by rw [cell_of_row w g 0 _ 62 (0, 0) h, rv_0]
theorem RelAt.cell (h : RelAt w g n l) (hl : RW l) (i : Nat) (hi : i < 64) : w.cell? ⟨g, 1 + i, none⟩ = some (.int .u64 ((l.getD i 0 : Nat) : Int)) := by rw [cell_of_row w g (1 + i) _ 62 (0, 0) h, rv_succ n hl i hi]
theorem RelAt.free (h : RelAt w g n l) (o : Nat) : w.frozen? ⟨g, o, none⟩ = false := by unfold RelAt at h; simp [World.frozen?, h]
theorem RelAt.new (w : World) (n : Int) (l : List Nat) : RelAt (w.alloc (.cells (rv n l) 62)) w.heap.size n l := heap_alloc_new w _
theorem RelAt.alloc (h : RelAt w g n l) (o : Obj) : RelAt (w.alloc o) g n l := (heap_alloc_old w o h.lt).trans h
theorem RelAt.drewN (h : RelAt w g n l) (k : Nat) : RelAt (w.drewN k) g n l := h
theorem RelAt.below {B : Nat} (h : RelAt w g n l) (hb : Below B w w') (hg : g < B) : RelAt w' g n l := (hb.block g hg).trans h
theorem RelAt.put (h : RelAt w g n l) (i x : Nat) : RelAt (w.setCell ⟨g, 1 + i, none⟩ (.int .u64 (x : Int))) g n (l.set i x) := by
 unfold RelAt at h ⊢
 simp [World.setCell, Array.getElem?_modify, h, rv_set]
theorem RelAt.far (h : RelAt w g n l) {p : Addr} (hp : p.block ≠ g) (u : Value) : RelAt (w.setCell p u) g n l := by
 unfold RelAt at h ⊢
 simp only [World.setCell, Array.getElem?_modify, if_neg hp]
 exact h
theorem RelAt.setRow (h : RelAt w g n l) (m : Int) (k : List Nat) : RelAt (w.setRow g (rv m k)) g m k := setRow_heap w g _ _ _ _ h
theorem RowsAt.lt (h : RowsAt w g l) : g < w.heap.size := (Array.getElem?_eq_some_iff.1 h).1
theorem RowsAt.cell (h : RowsAt w g l) (hl : RW l) (i : Nat) (hi : i < 64) : w.cell? ⟨g, i, none⟩ = some (.int .u64 ((l.getD i 0 : Nat) : Int)) := by rw [cell_of_row w g i _ 60 (0, 0) h, uv_at hl i hi]
theorem RowsAt.free (h : RowsAt w g l) (o : Nat) : w.frozen? ⟨g, o, none⟩ = false := by unfold RowsAt at h; simp [World.frozen?, h]
theorem RowsAt.new (w : World) (l : List Nat) : RowsAt (w.alloc (.cells (uv l) 60)) w.heap.size l := heap_alloc_new w _
theorem RowsAt.alloc (h : RowsAt w g l) (o : Obj) : RowsAt (w.alloc o) g l := (heap_alloc_old w o h.lt).trans h
theorem RowsAt.drewN (h : RowsAt w g l) (k : Nat) : RowsAt (w.drewN k) g l := h
theorem RowsAt.below {B : Nat} (h : RowsAt w g l) (hb : Below B w w') (hg : g < B) : RowsAt w' g l := (hb.block g hg).trans h
theorem RowsAt.put (h : RowsAt w g l) (i x : Nat) : RowsAt (w.setCell ⟨g, i, none⟩ (.int .u64 (x : Int))) g (l.set i x) := by
 unfold RowsAt at h ⊢
 simp [World.setCell, Array.getElem?_modify, h, uv_set]
theorem RowsAt.far (h : RowsAt w g l) {p : Addr} (hp : p.block ≠ g) (u : Value) : RowsAt (w.setCell p u) g l := by
 unfold RowsAt at h ⊢
 simp only [World.setCell, Array.getElem?_modify, if_neg hp]
 exact h
theorem RowsAt.setRow (h : RowsAt w g l) (k : List Nat) : RowsAt (w.setRow g (uv k)) g k := setRow_heap w g _ _ _ _ h
end
structure Else (g : Nat) (w w' : World) : Prop where
 os : w'.os = w.os
 tape : w'.tape = w.tape
 output : w'.output = w.output
 size : w'.heap.size = w.heap.size
 block : ∀ k, k ≠ g → w'.heap[k]? = w.heap[k]?
section
variable {w w' : World} {g q B : Nat} {n : Int} {l : List Nat}
theorem Else.setRow (w : World) (g : Nat) (cs : Array Value) : Else g w (w.setRow g cs) := ⟨rfl, rfl, rfl, by simp, fun k hk => setRow_other w g k cs hk⟩
theorem Else.setCell (w : World) (p : Addr) (u : Value) : Else p.block w (w.setCell p u) :=
 ⟨rfl, rfl, rfl, by simp [World.setCell], fun k hk => by simp only [World.setCell, Array.getElem?_modify, if_neg (show p.block ≠ k from fun e => hk e.symm)]⟩
theorem Else.below (h : Else g w w') (hB : B ≤ g) : Below B w w' := ⟨h.os, h.tape, h.output, by rw [h.size]; exact zL _, fun k hk => h.block k (by omega)⟩
theorem RelAt.other (hr : RelAt w q n l) (h : Else g w w') (hq : q ≠ g) : RelAt w' q n l := (h.block q hq).trans hr
theorem RowsAt.other (hr : RowsAt w q l) (h : Else g w w') (hq : q ≠ g) : RowsAt w' q l := (h.block q hq).trans hr
theorem Box.other {t : TypeId} {v : Value} (hr : Box w q t v) (h : Else g w w') (hq : q ≠ g) : Box w' q t v := (h.block q hq).trans hr
end
structure Mut (g : Nat) (w w' : World) : Prop where
 os : w'.os = w.os
 tape : w'.tape = w.tape
 output : w'.output = w.output
 size : w.heap.size ≤ w'.heap.size
 block : ∀ k, k < w.heap.size → k ≠ g → w'.heap[k]? = w.heap[k]?
section
variable {w w' w2 : World} {g q B : Nat} {n : Int} {l : List Nat}
theorem Mut.refl (g : Nat) (w : World) : Mut g w w := ⟨rfl, rfl, rfl, zL _, fun _ _ _ => rfl⟩
theorem Mut.of_below (h : Below w.heap.size w w') (g : Nat) : Mut g w w' := ⟨h.os, h.tape, h.output, h.size, fun k hk _ => h.block k hk⟩
theorem Mut.of_else (h : Else g w w') : Mut g w w' := ⟨h.os, h.tape, h.output, by rw [h.size]; exact zL _, fun k _ hk => h.block k hk⟩
theorem Mut.of_set (w : World) (g o : Nat) (u : Value) : Mut g w (w.setCell ⟨g, o, none⟩ u) := Mut.of_else (Else.setCell w ⟨g, o, none⟩ u)
theorem Mut.drewN (h : Mut g w w') (k : Nat) : Mut g w (w'.drewN k) := ⟨h.os, h.tape, h.output, h.size, h.block⟩
theorem Mut.drew (h : Mut g w w') : Mut g w w'.drew := ⟨h.os, h.tape, h.output, h.size, h.block⟩
theorem Mut.trans (h : Mut g w w') (h2 : Mut g w' w2) : Mut g w w2 := ⟨h2.os.trans h.os, h2.tape.trans h.tape, h2.output.trans h.output, zM h.size h2.size, fun k hk hg => (h2.block k (zT hk h.size) hg).trans (h.block k hk hg)⟩
theorem Mut.below (h : Mut g w w') (hB : B ≤ g) (hs : B ≤ w.heap.size) : Below B w w' := ⟨h.os, h.tape, h.output, h.size, fun k hk => h.block k (by omega) (by omega)⟩
theorem RelAt.mut (hr : RelAt w q n l) (h : Mut g w w') (hq : q ≠ g) : RelAt w' q n l := (h.block q hr.lt hq).trans hr
theorem RowsAt.mut (hr : RowsAt w q l) (h : Mut g w w') (hq : q ≠ g) : RowsAt w' q l := (h.block q hr.lt hq).trans hr
theorem Box.mut {t : TypeId} {v : Value} (hr : Box w q t v) (h : Mut g w w') (hq : q ≠ g) : Box w' q t v := (h.block q hr.lt hq).trans hr
theorem cell_mut {p : Addr} {v : Value} (hc : w.cell? p = some v) (h : Mut g w w') (hp : p.block ≠ g) : w'.cell? p = some v := by
 have := h.block p.block (World.block_lt_of_cell? w p hc) hp
 rw [← hc]
 unfold World.cell?
 rw [this]
end
theorem still_of {P : Program} {f : FuncId} {args : Array Value} {w : World} {v : Value} (h : Calls P f args w fun e w' => e = .returned v ∧ w = w') : Calls P f args w fun e w'' => e = .returned v ∧ w'' = w := h.mono fun _ _ ⟨he, hw⟩ => ⟨he, hw.symm⟩
section
variable {ops : Array Oper} {rest : List Oper} {o : Oper} {a : Act} {w : World} {Q : Exit → Act → World → Prop}
theorem wpList_wanted {P : Program} (hw : Region.wanted o (yielded ops a.tmps) = true) (h : ∀ K : Act → World → Prop, (∀ a w, wpList P ops Q rest a w → K a w) → o.wp P a w K Q) : wpList P ops Q (o :: rest) a w :=
 wpList_step fun K hK => by simp only [hw, if_true]; exact h K hK
theorem wpList_loadRel (hgd : Region.wanted o (yielded ops a.tmps) = true) (x : Operand) (ho : o.op = .load 62 x) (g : Nat) (hx : a.eval x = .pointer (some ⟨g, 0, none⟩))
 (n : Int) (l : List Nat) (hl : RW l) (hg : RelAt w g n l) (h : wpList Tryz.prog ops Q rest (a.put o.dst (.agg (rv n l))) w) : wpList Tryz.prog ops Q (o :: rest) a w :=
 wpList_wanted hgd fun _ hK => wp_load_row _ x ho g hx _ _ (0, 0) _ hg Tryz.underlying62 rfl (rinfo n hl) (hK _ _ h)
theorem wpList_storeRel (hgd : Region.wanted o (yielded ops a.tmps) = true) (x y : Operand) (ho : o.op = .store 62 x y) (g : Nat) (hx : a.eval x = .pointer (some ⟨g, 0, none⟩))
 (n : Int) (l : List Nat) (hy : a.eval y = .agg (rv n l)) (m : Int) (k : List Nat) (hk : RW k) (hl : RW l) (hg : RelAt w g m k)
 (h : ∀ w', RelAt w' g n l → Else g w w' → wpList Tryz.prog ops Q rest (a.put o.dst undef) w') : wpList Tryz.prog ops Q (o :: rest) a w :=
 wpList_wanted hgd fun _ hK => wp_store_row _ x y ho g _ hx hy _ _ hg (rinfo n hl) (by rw [rv_size n hl, rv_size m hk]) (rv_one n l) (hK _ _ (h _ (hg.setRow n l) (Else.setRow w g _)))
end
theorem run_part_one {cs : Array Value} {off : Nat} {v : Value} (h : cs[off]? = some v) (w : World) : (part 3 cs off).run Tryz.prog w = .ok v w := by
 unfold part
 rw [Sem.run_bind, Tryz.isAgg3]
 simp [h]
theorem run_part_word {cs : Array Value} {off : Nat} {v : Value} (h : cs[off]? = some v) (w : World) : (part 39 cs off).run Tryz.prog w = .ok v w := by
 unfold part
 rw [Sem.run_bind, Tryz.isAgg39]
 simp [h]
theorem run_part_rows (cs : Array Value) (off : Nat) (w : World) : (part 60 cs off).run Tryz.prog w = .ok (.agg (cs.extract off (off + 64))) w := by
 unfold part
 rw [Sem.run_bind, Tryz.isAgg60]
 simp [Tryz.sizeOf60]
theorem run_field0 (n : Int) (l : List Nat) (w : World) : (Instr.field 62 (.agg (rv n l)) 0).run Tryz.prog w = .ok (.int .i64 n) w := by
 unfold Instr.field
 rw [Sem.run_bind, Tryz.runUnderlying62]
 simp only [Result.andThen_ok, zA1, zA3, Sem.run_bind, asAgg, Sem.run_pure]
 exact run_part_one (rv_0 n l) w
theorem run_field1 (n : Int) {l : List Nat} (hl : RW l) (w : World) : (Instr.field 62 (.agg (rv n l)) 1).run Tryz.prog w = .ok (.agg (uv l)) w := by
 unfold Instr.field
 rw [Sem.run_bind, Tryz.runUnderlying62]
 simp only [Result.andThen_ok, zA1, zA3, zA2, Sem.run_bind, asAgg, Sem.run_pure]
 rw [run_part_rows]
 rw [show 1 + 64 = 65 from rfl, rv_rows n hl]
theorem run_eqItems_rows (d : Nat) {l k : List Nat} (hl : RW l) (hk : RW k) (w : World) : ∀ (is : List Nat), (∀ i ∈ is, i < 64) →
 (Op.eqItems (d + 1) 39 1 (uv l) (uv k) is).run Tryz.prog w = .ok (is.all fun i => decide (l.getD i 0 = k.getD i 0)) w
 | [], _ => by simp [Op.eqItems]
 | i :: is, h => by
   have hi := h i (by simp)
   have hx := uv_at hl i hi
   have hy := uv_at hk i hi
   generalize hx' : l.getD i 0 = x at *
   generalize hy' : k.getD i 0 = y at *
   have e : ((x : Int) == (y : Int)) = decide (x = y) := by rw [Bool.eq_iff_iff]; simp; omega
   have ih := run_eqItems_rows d hl hk w is fun j hj => h j (by simp [hj])
   simp only [Op.eqItems, Sem.run_bind, Nat.mul_one, run_part_word hx, run_part_word hy, Result.andThen_ok, run_equalIn_int w d _ .u64 .u64 _ _ Tryz.underlying39, e, List.all_cons, hx', hy']
   by_cases hxy : x = y
   ·simp [hxy, ih]
   ·simp [hxy]
theorem run_equalIn_rows (d : Nat) {l k : List Nat} (hl : RW l) (hk : RW k) (w : World) : (Op.equalIn (d + 2) 60 (.agg (uv l)) (.agg (uv k))).run Tryz.prog w = .ok (decide (l = k)) w := by
 obtain ⟨i, hi⟩ : ∃ i, Tryz.prog.info? 39 = some i := Option.isSome_iff_exists.1 (by kernel_rfl)
 rw [run_equalIn_array w (d + 1) (uv l) (uv k) Tryz.underlying60 hi, show Tryz.prog.cellsOf 39 = 1 by kernel_rfl, run_eqItems_rows d hl hk w _ fun j hj => by simpa using hj]
 congr 1
 rw [Bool.eq_iff_iff]
 simp only [List.all_eq_true, decide_eq_true_eq, List.mem_range]
 constructor
 ·intro h
  refine List.ext_getElem (by rw [hl.1, hk.1]) fun j h1 h2 => ?_
  have := h j (by rw [hl.1] at h1; exact h1)
  rw [List.getD_eq_getElem?_getD, List.getD_eq_getElem?_getD, List.getElem?_eq_getElem h1, List.getElem?_eq_getElem h2] at this
  simpa using this
 ·rintro rfl j _; rfl
def eqRel (n m : Int) (l k : List Nat) : Bool := decide (n = m) && decide (l = k)
theorem run_equalIn_rel (n m : Int) {l k : List Nat} (hl : RW l) (hk : RW k) (w : World) : (Op.equalIn 10000 62 (.agg (rv n l)) (.agg (rv m k))).run Tryz.prog w = .ok (eqRel n m l k) w := by
 rw [run_equalIn_agg w 9999 _ _ _ (by simp only [Program.fieldsOf, Tryz.underlying62]) Tryz.stoodInHeld62]
 have e : (n == m) = decide (n = m) := by rw [Bool.eq_iff_iff]; simp
 simp only [Program.fieldsOf, Tryz.underlying62, Op.eqFields, ne_eq, String.reduceEq, not_false_eq_true, if_true, Sem.run_bind,
  run_part_one (rv_0 n l), run_part_one (rv_0 m k), Result.andThen_ok, run_equalIn_int w 9998 _ .i64 .i64 _ _ Tryz.underlying3, e]
 unfold eqRel
 by_cases h1 : n = m
 ·simp only [h1, decide_true, Bool.not_true, Bool.false_eq_true, if_false, Bool.true_and, run_part_rows, Nat.reduceAdd, rv_rows m hl, rv_rows m hk, Sem.run_bind, Result.andThen_ok, run_equalIn_rows 9997 hl hk]
  by_cases h2 : l = k <;> simp [h2]
 ·simp [h1]
theorem run_eql_rel (n m : Int) {l k : List Nat} (hl : RW l) (hk : RW k) (w : World) : (binOp .eql 62 (.agg (rv n l)) (.agg (rv m k))).run Tryz.prog w = .ok (.bool (eqRel n m l k)) w := by
 rw [run_eql_struct, run_equalIn_rel n m hl hk w]; rfl
theorem ret_rel {fn : Func} {p : Tmp} (hf : fn.results = #[.cell p 62]) (tmps : Array Value) (w : World) (g : Nat) (n : Int) (l : List Nat) (hl : RW l)
 (hp : tmps.getD p undef = .pointer (some ⟨g, 0, none⟩)) (hg : RelAt w g n l) : (results fn tmps).run Tryz.prog w = .ok (.agg (rv n l)) w :=
 results_cell_row hf tmps w g _ _ (0, 0) _ hp hg Tryz.underlying62 rfl (rinfo n hl)
end
section
open Go.RowKit
def RowAt (w : World) (g : Nat) (t : TypeId) (cs : Array Value) : Prop := w.heap[g]? = some (.cells cs t (0, 0))
section
variable {w w' : World} {g q B : Nat} {t : TypeId} {cs : Array Value}
theorem RowAt.lt (h : RowAt w g t cs) : g < w.heap.size := (Array.getElem?_eq_some_iff.1 h).1
theorem RowAt.cell (h : RowAt w g t cs) (j : Nat) : w.cell? ⟨g, j, none⟩ = cs[j]? := cell_of_row w g j cs t (0, 0) h
theorem RowAt.free (h : RowAt w g t cs) (o : Nat) : w.frozen? ⟨g, o, none⟩ = false := by unfold RowAt at h; simp [World.frozen?, h]
theorem RowAt.new (w : World) (t : TypeId) (cs : Array Value) : RowAt (w.alloc (.cells cs t)) w.heap.size t cs := heap_alloc_new w _
theorem RowAt.alloc (h : RowAt w g t cs) (o : Obj) : RowAt (w.alloc o) g t cs := (heap_alloc_old w o h.lt).trans h
theorem RowAt.drewN (h : RowAt w g t cs) (k : Nat) : RowAt (w.drewN k) g t cs := h
theorem RowAt.drew (h : RowAt w g t cs) : RowAt w.drew g t cs := h
theorem RowAt.below (h : RowAt w g t cs) (hb : Below B w w') (hg : g < B) : RowAt w' g t cs := (hb.block g hg).trans h
theorem RowAt.grown {row : Option Nat} (h : RowAt w g t cs) (hb : w.grownBy w' row) (hg : row ≠ some g) : RowAt w' g t cs := (hb.block g h.lt (fun e => hg e.symm)).trans h
theorem RowAt.other (h : RowAt w q t cs) (he : Else g w w') (hq : q ≠ g) : RowAt w' q t cs := (he.block q hq).trans h
theorem RowAt.mut (h : RowAt w q t cs) (hm : Mut g w w') (hq : q ≠ g) : RowAt w' q t cs := (hm.block q h.lt hq).trans h
theorem RowAt.put (h : RowAt w g t cs) (i : Nat) (u : Value) : RowAt (w.setCell ⟨g, i, none⟩ u) g t (cs.setIfInBounds i u) := by
 unfold RowAt at h ⊢
 simp [World.setCell, Array.getElem?_modify, h]
theorem RowAt.far (h : RowAt w g t cs) {p : Addr} (hp : p.block ≠ g) (u : Value) : RowAt (w.setCell p u) g t cs := by
 unfold RowAt at h ⊢
 simp only [World.setCell, Array.getElem?_modify, if_neg hp]
 exact h
theorem RowAt.setRow (h : RowAt w g t cs) (ds : Array Value) : RowAt (w.setRow g ds) g t ds := setRow_heap w g _ _ _ _ h
theorem RowAt.range (h : RowAt w g t cs) (o : Nat) (ds : List Value) (hd : ∀ j u, ds[j]? = some u → cs[o + j]? = some u) : w.rangeAt g o ds := fun j v hv => (h.cell (o + j)).trans (hd j v hv)
theorem range_below {b o : Nat} {ds : List Value} (h : w.rangeAt b o ds) (hb : Below B w w') (hg : b < B) : w'.rangeAt b o ds := fun j v hv => (hb.cell (p := ⟨b, o + j, none⟩) hg).trans (h j v hv)
end
end
section
open Go.RowKit RM
theorem new_any (n : Int) (w : World) :
 Calls Tryz.prog 124 #[.int .i64 n] w fun e w' => e = .returned (.agg (rv ((pts n : Nat) : Int) zs)) ∧ Below w.heap.size w w' := by
 rcases Int.lt_or_le n 0 with h0 | h0
 ·rw [pts_neg h0]
  go_enter Tryz.func124, Tryz.ntmps124
  go_wp2_with (refine wpList_storeRel rfl _ _ rfl w.heap.size rfl 0 zs ?c1 0 zs RW.zs RW.zs ?c2 ?_; (case c1 => exact congrArg Value.agg (by rw [zero_rel, rv_setN])); (case c2 => rw [zero_rel]; exact RelAt.new _ _ _); intro w2 hr he)
  exact bodyPost_ret (ret_rel rfl _ _ w.heap.size _ _ RW.zs rfl hr) rfl ⟨rfl, ((zB _ _).alloc (zL _) _).trans (he.below (zL _))⟩
 ·rcases Int.lt_or_le 64 n with h1 | h1
  ·rw [pts_big h1]
   go_enter Tryz.func124, Tryz.ntmps124
   go_wp2_with (refine wpList_storeRel rfl _ _ rfl w.heap.size rfl 64 zs ?c1 0 zs RW.zs RW.zs ?c2 ?_; (case c1 => exact congrArg Value.agg (by rw [zero_rel, rv_setN])); (case c2 => rw [zero_rel]; exact RelAt.new _ _ _); intro w2 hr he)
   exact bodyPost_ret (ret_rel rfl _ _ w.heap.size _ _ RW.zs rfl hr) rfl ⟨rfl, ((zB _ _).alloc (zL _) _).trans (he.below (zL _))⟩
  ·have hn := pts_in h0 h1
   generalize pts n = p at *
   subst hn
   go_enter Tryz.func124, Tryz.ntmps124
   go_wp2_with (refine wpList_storeRel rfl _ _ rfl w.heap.size rfl (p : Int) zs ?c1 0 zs RW.zs RW.zs ?c2 ?_; (case c1 => exact congrArg Value.agg (by rw [zero_rel, rv_setN])); (case c2 => rw [zero_rel]; exact RelAt.new _ _ _); intro w2 hr he)
   exact bodyPost_ret (ret_rel rfl _ _ w.heap.size _ _ RW.zs rfl hr) rfl ⟨rfl, ((zB _ _).alloc (zL _) _).trans (he.below (zL _))⟩
def isPt (n i : Int) : Bool := decide (0 ≤ i) && decide (i < (pts n : Int))
theorem point_any (n : Int) (l : List Nat) (i : Int) (w : World) :
 Calls Tryz.prog 194 #[.agg (rv n l), .int .i64 i] w fun e w' => e = .returned (.bool (isPt n i)) ∧ Below w.heap.size w w' := by
 have h0 := rv_0 n l
 have h1 := run_field0 (pts n) zs
 generalize hr : rv n l = r at *
 generalize hr2 : rv (pts n) zs = r2 at *
 have H2 := zh hr2
 clear hr hr2
 rcases Int.lt_or_le i 0 with hi | hi
 ·have hf : isPt n i = false := by unfold isPt; rw [zF (show ¬ 0 ≤ i by omega)]; rfl
  rw [hf]
  go_enter Tryz.func194, Tryz.ntmps194
  go_wp2_with fail
  go_ret
  exact ⟨rfl, (zB _ _).alloc (zL _) _⟩
 ·have hf : isPt n i = decide (i < (pts n : Int)) := by unfold isPt; rw [zE hi]; rfl
  rw [hf]
  generalize hp : pts n = p at *
  have HP := zh hp; clear hp
  go_enter Tryz.func194, Tryz.ntmps194
  go_wp2_with (go_at_call 124; refine (new_any _ _).mono ?_; rintro e w' ⟨rfl, hb⟩; rw [HP.out, H2.out])
  go_ret
  exact ⟨rfl, ((zB _ _).alloc (zL _) _).trans (hb.mono (by simp))⟩
end
section
open Go.RowKit RM
theorem isPt_iff {n i : Int} : isPt n i = true ↔ 0 ≤ i ∧ i < (pts n : Int) := by simp [isPt]
theorem isPt_nat (n : Int) (i : Nat) : isPt n (i : Int) = decide (i < pts n) := by rw [Bool.eq_iff_iff, isPt_iff]; simp
def hasR (n : Int) (l : List Nat) (i j : Int) : Bool := isPt n i && isPt n j && bt l i.toNat j.toNat
def addR (n : Int) (l : List Nat) (i j : Int) : List Nat := if isPt n i && isPt n j then l.set i.toNat (MM.withN (l.getD i.toNat 0) j) else l
theorem addR_no {n : Int} {l : List Nat} {i j : Int} (h : (isPt n i && isPt n j) = false) : addR n l i j = l := by unfold addR; rw [h]; simp
theorem rw_addR {l : List Nat} (h : RW l) (n i j : Int) : RW (addR n l i j) := by
 unfold addR
 split
 ·exact h.set _ _ (MM.withN_lt (h.lt _) _)
 ·exact h
theorem bt_addR {l : List Nat} (h : RW l) (n i j : Int) (a b : Nat) : bt (addR n l i j) a b = (bt l a b || (isPt n i && isPt n j && decide (i = (a : Int)) && decide (j = (b : Int)))) := by
 unfold addR
 have hp := pts_le n
 cases hi : isPt n i with
 | false => simp
 | true =>
   cases hj : isPt n j with
   | false => simp
   | true =>
     obtain ⟨h0, h1⟩ := isPt_iff.1 hi
     obtain ⟨h2, h3⟩ := isPt_iff.1 hj
     simp only [Bool.and_self, if_true, Bool.true_and]
     rw [bt_set h _ _ _ _ (by omega), MM.withN_bit]
     by_cases e : a = i.toNat
     ·subst e
      rw [if_pos rfl]
      have : decide (i = (i.toNat : Int)) = true := by simp; omega
      rw [this]
      unfold bt
      congr 1
      rw [Bool.eq_iff_iff]
      simp; omega
     ·rw [if_neg e]
      have : decide (i = (a : Int)) = false := by simp; omega
      rw [this]; simp
theorem radd_any (g : Nat) (n : Int) (l : List Nat) (hl : RW l) (i j : Int) (w : World) (hg : RelAt w g n l) :
 Calls Tryz.prog 190 #[.pointer (some ⟨g, 0, none⟩), .int .i64 i, .int .i64 j] w fun e w' => e = .returned (.tuple #[]) ∧ RelAt w' g n (addR n l i j) ∧ Mut g w w' := by
 have hp := pts_le n
 cases hi : isPt n i with
 | false =>
   rw [addR_no (show (isPt n i && isPt n j) = false by rw [hi]; rfl)]
   have HI := zh hi; clear hi
   go_enter Tryz.func190, Tryz.ntmps190
   go_wp2_with (first | (refine wpList_loadRel rfl _ rfl g rfl n l hl hg ?_) | (go_at_call 194; refine (point_any _ _ _ _).mono ?_; rintro e w' ⟨rfl, hb⟩; rw [HI.out]))
   go_end0
   exact ⟨rfl, hg.below hb hg.lt, Mut.of_below hb g⟩
 | true =>
   obtain ⟨h0, h1⟩ := isPt_iff.1 hi
   obtain ⟨a, rfl⟩ := Int.eq_ofNat_of_zero_le h0
   have ha : a < 64 := by omega
   have HI := zh hi; clear hi h0 h1
   cases hj : isPt n j with
   | false =>
     rw [addR_no (show (isPt n a && isPt n j) = false by rw [hj]; simp)]
     have HJ := zh hj; clear hj
     go_enter Tryz.func190, Tryz.ntmps190
     go_wp2_with (refine wpList_loadRel rfl _ rfl g rfl n l hl hg ?_)
     refine (point_any _ _ _ _).mono ?_; rintro e w1 ⟨rfl, hb1⟩; rw [HI.out]
     have hr1 := hg.below hb1 hg.lt
     have HB1 := zh hb1; clear hb1
     go_wp2_with (refine wpList_loadRel rfl _ rfl g rfl n l hl hr1 ?_)
     refine (point_any _ _ _ _).mono ?_; rintro e w2 ⟨rfl, hb2⟩; rw [HJ.out]
     have hr2 := hr1.below hb2 hr1.lt
     have HB2 := zh hb2; clear hb2
     go_wp2_with fail
     go_end0
     exact ⟨rfl, hr2, (Mut.of_below HB1.out g).trans (Mut.of_below HB2.out g)⟩
   | true =>
     have HR : Hid (addR n l a j = l.set a (MM.withN (l.getD a 0) j)) := by unfold addR; rw [HI.out, hj]; rfl
     have HJ := zh hj; clear hj
     have hx := hl.lt a
     obtain ⟨x, he⟩ : ∃ x, x = l.getD a 0 := ⟨_, rfl⟩
     rw [← he] at hx
     have HE := zh he; clear he
     go_enter Tryz.func190, Tryz.ntmps190
     go_wp2_with (refine wpList_loadRel rfl _ rfl g rfl n l hl hg ?_)
     refine (point_any _ _ _ _).mono ?_; rintro e w1 ⟨rfl, hb1⟩; rw [HI.out]
     have hr1 := hg.below hb1 hg.lt
     have HB1 := zh hb1; clear hb1
     go_wp2_with (refine wpList_loadRel rfl _ rfl g rfl n l hl hr1 ?_)
     refine (point_any _ _ _ _).mono ?_; rintro e w2 ⟨rfl, hb2⟩; rw [HJ.out]
     have hr2 := hr1.below hb2 hr1.lt
     have HB2 := zh hb2; clear hb2
     have hc := hr2.cell hl a ha
     have hf := hr2.free (1 + a)
     rw [← HE.out] at hc
     have ha' : (a : Int) < 64 := by omega
     go_wp2_with fail
     refine wp_region_still_tail 13 (by kernel_rfl) (by kernel_rfl) ?_
     simp only [List.take_succ_cons, List.take_zero, List.drop_succ_cons, List.drop_zero]
     repeat still_step
     still_call (still_of (with_any x hx _ _))
     repeat still_step
     refine wpStill_nil ?_
     go_wp2_with fail
     go_end0
     refine ⟨rfl, ?_, ?_⟩
     ·rw [HR.out, ← HE.out]
      exact (hr2.drewN 1).put a _
     ·exact (((Mut.of_below HB1.out g).trans (Mut.of_below HB2.out g)).drew).trans (Mut.of_set _ g _ _)
end
section
open Go.RowKit RM
theorem belowN_bit (n : Int) (j : Nat) : (MM.belowN n).testBit j = (decide (j < 64) && decide ((j : Int) < n)) := MM.ofP_bit _ _ _
theorem belowN_lt (n : Int) : MM.belowN n < 18446744073709551616 := MM.ofP_lt _ _
theorem clean_step {l m : List Nat} (hm : RW m) (k p : Nat) (hk : k < p) (hp : p ≤ 64) (x : Nat) (hx : x = l.getD k 0)
 (h : ∀ i j, bt m i j = (decide (i < k) && decide (j < p) && bt l i j)) : ∀ i j, bt (m.set k (x &&& MM.belowN (p : Int))) i j = (decide (i < k + 1) && decide (j < p) && bt l i j) := by
 intro i j
 rw [bt_set hm _ _ _ _ (by omega), Nat.testBit_and, belowN_bit]
 by_cases e : i = k
 ·subst e
  rw [if_pos rfl, hx]
  show (bt l i j && _) = _
  by_cases hj : j < p
  ·simp [hj, show j < 64 by omega]
  ·simp [hj]
 ·rw [if_neg e, h]
  have : decide (i < k + 1) = decide (i < k) := by rw [Bool.eq_iff_iff]; simp; omega
  rw [this]
theorem clean_end {l m : List Nat} (n : Int) (hm : RW m) (h : ∀ i j, bt m i j = (decide (i < pts n) && decide (j < pts n) && bt l i j)) : m = cl n l :=
 eq_mk hm _ _ (pts_le n) fun i j _ _ => h i j
theorem rclean_any (n : Int) (l : List Nat) (hl : RW l) (w : World) :
 Calls Tryz.prog 174 #[.agg (rv n l)] w fun e w' => e = .returned (.agg (rv ((pts n : Nat) : Int) (cl n l))) ∧ Below w.heap.size w w' := by
 have hp := pts_le n
 have hend : ∀ m, RW m → (∀ i j, bt m i j = (decide (i < pts n) && decide (j < pts n) && bt l i j)) → m = cl n l := fun m hm h => clean_end n hm h
 have HEND := zh hend; clear hend
 have hnew := fun w => new_any n w
 have HNEW := zh hnew; clear hnew
 generalize hcl : cl n l = lc at *
 clear hcl
 generalize pts n = p at *
 have h0 := rv_0 n l
 go_enter Tryz.func174, Tryz.ntmps174
 go_wp2_with fail
 clear h0
 refine (HNEW.out _).mono ?_
 rintro e w1 ⟨rfl, hb1⟩
 have hr1 : RelAt w1 w.heap.size n l := ((RelAt.new w n l).alloc _).below hb1 (by simp; omega)
 have hr2 : RelAt w1 (w.heap.size + 1) 0 zs := by
  refine RelAt.below ?_ hb1 (by simp)
  have := RelAt.new (w.alloc (.cells (rv n l) 62)) 0 zs
  rw [zero_rel]
  simpa using this
 have hb : Below w.heap.size w w1 := (((zB _ _).alloc (zL _) _).alloc (by simp) _).trans (hb1.mono (by simp; omega))
 have hs1 : w.heap.size + 1 < w1.heap.size := by have := hb1.size; simp at this; omega
 have HB1 := zh hb; clear hb1 hb
 go_wp2_with (refine wpList_storeRel rfl _ _ rfl w1.heap.size rfl (p : Int) zs rfl 0 zs RW.zs RW.zs ?c2 ?_; (case c2 => rw [zero_rel]; exact RelAt.new _ _ _); intro w2 hr3 he; have hc3 := hr3.cell0)
 have k1 : RelAt w2 w.heap.size n l := (hr1.alloc _).other he (by omega)
 have k2 : RelAt w2 (w.heap.size + 1) 0 zs := (hr2.alloc _).other he (by omega)
 have kb : Below w.heap.size w w2 := (HB1.out.alloc (by omega) _).trans (he.below (by omega))
 clear hr1 hr2 he hc3 HB1
 have KB := zh kb; clear kb
 have hg1 : w.heap.size ≠ w1.heap.size := by omega
 have hg2 : w.heap.size + 1 ≠ w1.heap.size := by omega
 have hg0 : w.heap.size ≤ w1.heap.size := by omega
 generalize w1.heap.size = g3 at *
 clear hs1
 go_loopw [4, 10] (fun _ kv wr => ∃ (k : Nat) (m : List Nat), k ≤ p ∧ kv = .int .i64 k ∧ RW m ∧ RelAt wr w.heap.size n l ∧ RelAt wr (w.heap.size + 1) 0 zs ∧ RelAt wr g3 (p : Int) m ∧ Hid (Below w.heap.size w wr) ∧ Hid (∀ i j, bt m i j = (decide (i < k) && decide (j < p) && bt l i j))) (fun _ kv _ => p - (intOf kv).toNat)
 case atStart => exact ⟨0, zs, by omega, rfl, RW.zs, k1, k2, hr3, KB, fun i j => by rw [bt_zs]; simp⟩
 case round =>
  obtain ⟨k, m, hk, rfl, hm, r1, r2, r3, HB, HM⟩ := hrel
  clear k1 k2 hr3 KB
  by_cases hlt : k < p
  ·have hc1 := r1.cell hl k (by omega)
   have hc3 := r3.cell0
   have hf := r3.free (1 + k)
   have hc4 := r3.cell hm k (by omega)
   have hx := hl.lt k
   obtain ⟨x, hxe⟩ : ∃ x, x = l.getD k 0 := ⟨_, rfl⟩
   rw [← hxe] at hc1 hx
   have HX := zh hxe; clear hxe
   have hy := belowN_lt (p : Int)
   obtain ⟨y, hye⟩ : ∃ y, y = MM.belowN (p : Int) := ⟨_, rfl⟩
   rw [← hye] at hy
   have HY := zh hye; clear hye
   have e1 : bits BinOp.and IntKind.u64 (x : Int) (y : Int) = ((x &&& y : Nat) : Int) := u64_and_nat x y hx hy
   have hk' : (k : Int) < 64 := by omega
   go_wp2_with fail
   refine wp_region_still_tail 11 (by kernel_rfl) (by kernel_rfl) ?_
   simp only [List.take_succ_cons, List.take_zero, List.drop_succ_cons, List.drop_zero]
   repeat still_step
   still_call (still_of (below_any _ _))
   rw [← HY.out]
   repeat still_step
   refine wpStill_nil ?_
   go_wp2_with fail
   go_roundw
   case rel =>
        refine ⟨k + 1, m.set k (x &&& y), by omega, by go_num, hm.set _ _ (Nat.lt_of_le_of_lt Nat.and_le_left hx), ?_, ?_, ?_, ?_, ?_⟩
        ·exact (r1.drewN 1).far (p := ⟨g3, 1 + k, none⟩) (fun e => hg1 e.symm) _
        ·exact (r2.drewN 1).far (p := ⟨g3, 1 + k, none⟩) (fun e => hg2 e.symm) _
        ·exact (r3.drewN 1).put k _
        ·exact (HB.out.drew).setCell hg0 _
        ·rw [HY.out]
         exact clean_step hm k p hlt hp x HX.out HM.out
   case measure => simp [intOf]; omega
  ·have e : k = p := by omega
   subst e
   have hme := HEND.out m hm HM.out
   subst hme
   go_wp2_with (first | (refine wpList_loadRel rfl _ rfl g3 rfl (k : Int) m hm r3 ?_) | (refine wpList_storeRel rfl _ _ rfl (w.heap.size + 1) rfl (k : Int) m rfl 0 zs RW.zs hm r2 ?_; intro w3 hr he))
   exact bodyPost_ret (ret_rel rfl _ _ (w.heap.size + 1) _ _ hm rfl hr) rfl ⟨rfl, HB.out.trans (he.below (by omega))⟩
end
section
section
variable {P : Program} {ops : Array Oper} {Q : Exit → Act → World → Prop} {S : World → Prop}
def ordB (ops : Array Oper) : List (Nat × Bool) → Array Bool → Bool
 | [], listed => decide (Region.ready .any ops listed = [])
 | (i, true) :: r, listed => (Region.ready .any ops listed).contains i && Region.free .any ops listed i && ordB ops r (listed.setIfInBounds i true)
 | (i, false) :: r, listed => decide (Region.ready .any ops listed = [i]) && ordB ops r (listed.setIfInBounds i true)
def wpOrd (P : Program) (ops : Array Oper) (Q : Exit → Act → World → Prop) (S : World → Prop) : List (Nat × Bool) → Act → World → Prop
 | [], a, w => Q .normal a w
 | (i, true) :: r, a, w => ∃ o v, ops[i]? = some o ∧ YieldsIf P ops S o v a ∧ wpOrd P ops Q S r (a.put o.dst v) w
 | (i, false) :: r, a, w => wpOp P ops Q i (fun a' w' => S w' ∧ wpOrd P ops Q S r a' w') a w
theorem wpAnyH_of_ord (hsel : Region.noSelect ops = true) (hQ : ∀ c (a : Act) d v w, Q (.panic c) (a.put d v) w → Q (.panic c) a w) :
 ∀ (r : List (Nat × Bool)) (listed : Array Bool) (a : Act) (w : World), ordB ops r listed = true → S w → wpOrd P ops Q S r a w → wpAnyH P .any ops Q S r.length listed a w
 | [], listed, a, w, hB, _, h => wpAnyH_done (by simpa [ordB] using hB) h _
 | (i, true) :: r, listed, a, w, hB, hS, h => by
   simp only [ordB, Bool.and_eq_true] at hB
   obtain ⟨o, v, ho, hy, hr⟩ := h
   exact wpAnyH_take ho hsel hB.1.2 hB.1.1 (fun c a w => hQ c a _ _ w) hy hS (wpAnyH_of_ord hsel hQ r _ _ _ hB.2 hS hr)
 | (i, false) :: r, listed, a, w, hB, hS, h => by
   simp only [ordB, Bool.and_eq_true, decide_eq_true_eq] at hB
   refine wpAnyH_all hB.1 (by simp) fun j hj => ?_
   have hji : j = i := by simpa using hj
   subst hji
   exact wpOp_mono (fun a' w' h' => ⟨h'.1, wpAnyH_of_ord hsel hQ r _ _ _ hB.2 h'.1 h'.2⟩) h
theorem wp_region_ord {id : Nat} {a : Act} {w : World} (S : World → Prop) (r : List (Nat × Bool)) (hm : P.follows .mixedOrders = true) (hsel : Region.noSelect ops = true) (hl : r.length = ops.size)
 (hB : ordB ops r (Array.replicate ops.size false) = true)
 (hS : S w.drew) (h : wpOrd P ops (NoPanic Q) S r a w.drew) : (Code.region id ops true).wp P Q a w := by
 have h2 := wpAnyH_of_ord (Q := NoPanic Q) hsel (fun _ _ _ _ _ h => h) r _ a _ hB hS h
 rw [hl] at h2
 exact wp_region_noPanic (wp_region_held hm h2)
theorem wpOrd_done {a : Act} {w : World} (h : Q .normal a w) : wpOrd P ops (NoPanic Q) S [] a w := h
theorem wpOrd_step {i : Nat} {r : List (Nat × Bool)} {o : Oper} {a : Act} {w : World} (ho : ops[i]? = some o)
 (h : (Region.wanted o (yielded ops a.tmps) = false ∧ wpOrd P ops Q S r (a.put o.dst undef) w) ∨
  (Region.wanted o (yielded ops a.tmps) = true ∧ ∃ v, (∀ w, S w → (execOp a.eval o).run P w = .ok (.value v) w) ∧ wpOrd P ops Q S r (a.put o.dst v) w)) : wpOrd P ops Q S ((i, true) :: r) a w := by
 rcases h with ⟨h1, h2⟩ | ⟨h1, v, h2, h3⟩
 ·exact ⟨o, undef, ho, .inr ⟨h1, rfl⟩, h2⟩
 ·exact ⟨o, v, ho, .inl ⟨h1, h2⟩, h3⟩
theorem wpOrd_skip {r : List (Nat × Bool)} {o : Oper} {a : Act} {w : World} {p : Prop} (hw : Region.wanted o (yielded ops a.tmps) = false)
 (h : wpOrd P ops Q S r (a.put o.dst undef) w) : (Region.wanted o (yielded ops a.tmps) = false ∧ wpOrd P ops Q S r (a.put o.dst undef) w) ∨ p := .inl ⟨hw, h⟩
theorem wpOrd_take {r : List (Nat × Bool)} {o : Oper} {v : Value} {a : Act} {w : World} {p : Prop} (hw : Region.wanted o (yielded ops a.tmps) = true)
 (hy : ∀ w, S w → (execOp a.eval o).run P w = .ok (.value v) w) (h : wpOrd P ops Q S r (a.put o.dst v) w) :
 p ∨ (Region.wanted o (yielded ops a.tmps) = true ∧ ∃ v, (∀ w, S w → (execOp a.eval o).run P w = .ok (.value v) w) ∧ wpOrd P ops Q S r (a.put o.dst v) w) := .inr ⟨hw, v, hy, h⟩
theorem wpOrd_solo {i : Nat} {r : List (Nat × Bool)} {o : Oper} {a : Act} {w : World} (ho : ops[i]? = some o)
 (h : ∀ K' : Act → World → Prop, Shut (∀ a w, S w → wpOrd P ops Q S r a w → K' a w) → if Region.wanted o (yielded ops a.tmps) = true then Oper.wp P o a w K' Q else K' (a.put o.dst undef) w) :
 wpOrd P ops Q S ((i, false) :: r) a w := wpOp_step ho fun K' hK => h K' fun a w hS hW => hK a w ⟨hS, hW⟩
end
end
section
open Go.RowKit RM
section
variable {o : Oper} {a : Act} {S : World → Prop}
theorem take_loadRel (x : Operand) (ho : o.op = .load 62 x) (g : Nat) (hx : a.eval x = .pointer (some ⟨g, 0, none⟩)) (n : Int) (l : List Nat) (hl : RW l) (hS : ∀ w, S w → RelAt w g n l) :
 ∀ w, S w → (execOp a.eval o).run Tryz.prog w = .ok (.value (.agg (rv n l))) w := by
 intro w h
 unfold execOp
 simp only [ho, hx, Instr.loadAt, Instr.sureAddr, Sem.run_bind, Sem.run_pure, Result.andThen_ok, run_loadVar_row w g _ _ _ (0, 0) _ (hS w h) Tryz.underlying62 rfl (rinfo n hl)]
theorem take_eqRel (x y : Operand) (t : TypeId) (ho : o.op = .binOp .eql 62 x y t) (n m : Int) (l k : List Nat) (hx : a.eval x = .agg (rv n l)) (hy : a.eval y = .agg (rv m k)) (hl : RW l) (hk : RW k) :
 ∀ w, S w → (execOp a.eval o).run Tryz.prog w = .ok (.value (.bool (eqRel n m l k))) w := by
 intro w _
 unfold execOp
 simp only [ho, hx, hy, Sem.run_bind, Sem.run_pure, run_eqGuard_agg w _ _ _ _ _ _ Tryz.eqGuardType62, Result.andThen_ok, run_eql_rel n m hl hk w]
theorem take_field0 (x : Operand) (ho : o.op = .field 62 x 0) (n : Int) (l : List Nat) (hx : a.eval x = .agg (rv n l)) :
 ∀ w, S w → (execOp a.eval o).run Tryz.prog w = .ok (.value (.int .i64 n)) w := by
 intro w _
 unfold execOp
 simp only [ho, hx, Sem.run_bind, Sem.run_pure, Result.andThen_ok, run_field0]
end
theorem ex_one (B g : Nat) (n : Int) (l : List Nat) (w0 w : World) (h1 : RelAt w g n l) (hb : Below B w0 w) :
 ∃ S : World → Prop, Hid (S w.drew) ∧ (∀ w', S w' → RelAt w' g n l) ∧ Hid (∀ w', S w' → Below B w0 w') ∧ Hid (B ≤ w.heap.size → ∀ wa wb, S wa → Below wa.heap.size wa wb → S wb) :=
 ⟨fun w' => RelAt w' g n l ∧ Below B w0 w' ∧ w.heap.size ≤ w'.heap.size, ⟨h1, hb.drew, zL _⟩, fun _ h => h.1, fun _ h => h.2.1,
  fun hB _ _ h hb => ⟨h.1.below hb h.1.lt, h.2.1.trans (hb.mono (zM hB h.2.2)), zM h.2.2 hb.size⟩⟩
end
section
open Go.RowKit RM
theorem two_new (w : World) (n : Int) (l : List Nat) : RelAt ((w.alloc (.cells (rv n l) 62)).alloc (.cells Tryz.zeroCells62 62)) w.heap.size n l ∧
 RelAt ((w.alloc (.cells (rv n l) 62)).alloc (.cells Tryz.zeroCells62 62)) (w.heap.size + 1) 0 zs ∧
 Below w.heap.size w ((w.alloc (.cells (rv n l) 62)).alloc (.cells Tryz.zeroCells62 62)) := by
 refine ⟨(RelAt.new w n l).alloc _, ?_, ((zB _ _).alloc (zL _) _).alloc (by simp) _⟩
 rw [zero_rel]
 have := RelAt.new (w.alloc (.cells (rv n l) 62)) 0 zs
 simpa using this
def warB (R : Nat → Nat → Bool) (p k i : Nat) (a b : Nat) : Bool := decide (a < p) && decide (b < p) && (if a < i then war R (k + 1) a b else war R k a b)
theorem warB_zero (R : Nat → Nat → Bool) (p k a b : Nat) : warB R p k 0 a b = (decide (a < p) && decide (b < p) && war R k a b) := by simp [warB]
theorem warB_end (R : Nat → Nat → Bool) (p k a b : Nat) : warB R p k p a b = (decide (a < p) && decide (b < p) && war R (k + 1) a b) := by
 unfold warB
 by_cases h : a < p
 ·simp [h]
 ·simp [h]
theorem warB_keep {R : Nat → Nat → Bool} {p k i : Nat} {m : List Nat} (h : ∀ a b, bt m a b = warB R p k i a b) (hi : i < p) (hk : k < p) (hf : (m.getD i 0).testBit k = false) : ∀ a b, bt m a b = warB R p k (i + 1) a b := by
 intro a b
 rw [h]
 unfold warB
 by_cases e : a = i
 ·subst e
  have h1 : bt m a k = false := hf
  rw [h] at h1
  unfold warB at h1
  simp only [hi, hk, decide_true, Bool.true_and, Nat.lt_irrefl, if_false] at h1
  rw [if_neg (Nat.lt_irrefl _), if_pos (zS _), war_succ, h1]
  simp
 ·by_cases h2 : a < i
  ·rw [if_pos h2, if_pos (by omega)]
  ·rw [if_neg h2, if_neg (by omega)]
theorem warB_or {R : Nat → Nat → Bool} {p k i : Nat} {m : List Nat} (hm : RW m) (h : ∀ a b, bt m a b = warB R p k i a b) (hi : i < p) (hk : k < p) (hp : p ≤ 64) (hf : (m.getD i 0).testBit k = true) :
 ∀ a b, bt (m.set i (m.getD i 0 ||| m.getD k 0)) a b = warB R p k (i + 1) a b := by
 intro a b
 rw [bt_set hm _ _ _ _ (by omega), Nat.testBit_or]
 have h1 : bt m i k = true := hf
 rw [h] at h1
 unfold warB at h1
 simp only [hi, hk, decide_true, Bool.true_and, Nat.lt_irrefl, if_false] at h1
 by_cases e : a = i
 ·subst e
  rw [if_pos rfl]
  show (bt m a b || bt m k b) = _
  rw [h, h]
  unfold warB
  rw [if_neg (Nat.lt_irrefl _), if_pos (zS _)]
  have h3 : (if k < a then war R (k + 1) k b else war R k k b) = war R k k b := by split <;> simp [war_at]
  rw [h3, war_succ, h1]
  simp only [hi, hk, decide_true, Bool.true_and]
  cases decide (b < p) <;> simp
 ·rw [if_neg e, h]
  unfold warB
  by_cases h2 : a < i
  ·rw [if_pos h2, if_pos (by omega)]
  ·rw [if_neg h2, if_neg (by omega)]
theorem refl_start {n : Int} {l m : List Nat} (k : Nat) (hm : RW m) (hk : k < pts n) (h : ∀ a b, bt m a b = (decide (a < pts n) && decide (b < pts n) && (bt l a b || decide (a < k ∧ a = b)))) :
 ∀ a b, bt (addR (pts n : Nat) m k k) a b = (decide (a < pts n) && decide (b < pts n) && (bt l a b || decide (a < k + 1 ∧ a = b))) := by
 intro a b
 rw [bt_addR hm, h, isPt_nat, pts_pts]
 simp only [hk, decide_true, Bool.true_and]
 by_cases h1 : a < pts n
 ·by_cases h2 : b < pts n
  ·simp only [h1, h2, decide_true, Bool.true_and, Bool.or_assoc]
   congr 1
   rw [Bool.eq_iff_iff]
   simp
   omega
  ·simp only [h1, h2, decide_true, decide_false, Bool.and_false, Bool.false_and, Bool.false_or]
   rw [Bool.eq_iff_iff]
   simp
   omega
 ·simp only [h1, decide_false, Bool.false_and, Bool.false_or]
  rw [Bool.eq_iff_iff]
  simp
  omega
end
section
open Go.RowKit RM
theorem war_start {R : Nat → Nat → Bool} {p : Nat} {m : List Nat} (h : ∀ a b, bt m a b = (decide (a < p) && decide (b < p) && (R a b || decide (a < p ∧ a = b)))) : ∀ a b, bt m a b = (decide (a < p) && decide (b < p) && war R 0 a b) := by
 intro a b
 rw [h, war_zero]
 by_cases h1 : a < p <;> simp [h1]
theorem cz_end {n : Int} {l m : List Nat} (hm : RW m) (h : ∀ a b, bt m a b = (decide (a < pts n) && decide (b < pts n) && war (bt l) (pts n) a b)) : m = cz n l :=
 eq_mk hm _ _ (pts_le n) fun i j _ _ => by rw [h]; unfold clo; cases decide (i < pts n) <;> cases decide (j < pts n) <;> simp
theorem rclosure_any (n : Int) (l : List Nat) (hl : RW l) (w : World) :
 Calls Tryz.prog 184 #[.agg (rv n l)] w fun e w' => e = .returned (.agg (rv ((pts n : Nat) : Int) (cz n l))) ∧ Below w.heap.size w w' := by
 have hc : RW (cl n l) := RW.mk _ _
 have hp := pts_le n
 obtain ⟨h1, h2, hb⟩ := two_new w n l
 have hsz : ((w.alloc (.cells (rv n l) 62)).alloc (.cells Tryz.zeroCells62 62)).heap.size = w.heap.size + 2 := by simp
 have HSZ := zh hsz; clear hsz
 have HB := zh hb; clear hb
 have HEND : Hid (∀ m, RW m → (∀ a b, bt m a b = (decide (a < pts n) && decide (b < pts n) && war (bt l) (pts n) a b)) → m = cz n l) := fun m hm h => cz_end hm h
 have HST : Hid (∀ k m, RW m → k < pts n → (∀ a b, bt m a b = (decide (a < pts n) && decide (b < pts n) && (bt l a b || decide (a < k ∧ a = b)))) → ∀ a b, bt (addR (pts n : Nat) m k k) a b = (decide (a < pts n) && decide (b < pts n) && (bt l a b || decide (a < k + 1 ∧ a = b)))) := fun k m hm hk h => refl_start k hm hk h
 have HCL : Hid (∀ a b, bt (cl n l) a b = (decide (a < pts n) && decide (b < pts n) && (bt l a b || decide (a < 0 ∧ a = b)))) := fun a b => by rw [bt_cl]; simp
 have HCLN : Hid (∀ w, Calls Tryz.prog 174 #[.agg (rv n l)] w fun e w' => e = .returned (.agg (rv ((pts n : Nat) : Int) (cl n l))) ∧ Below w.heap.size w w') := rclean_any n l hl
 generalize hcle : cl n l = lc at *
 generalize hcze : cz n l = lz at *
 generalize pts n = p at *
 clear hcle hcze
 go_enter Tryz.func184, Tryz.ntmps184
 go_wp2_with (refine wpList_loadRel rfl _ rfl w.heap.size rfl n l hl h1 ?_)
 refine (HCLN.out _).mono ?_
 rintro e w1 ⟨rfl, hb1⟩
 have r1 := h1.below hb1 (by rw [HSZ.out]; omega)
 have r2 := h2.below hb1 (by rw [HSZ.out]; omega)
 have hbb := HB.out.trans (hb1.mono (by rw [HSZ.out]; omega))
 have hs1 : w.heap.size + 1 < w1.heap.size := by have := hb1.size; rw [HSZ.out] at this; omega
 clear HB HSZ h1 h2 hb1
 have HB := zh hbb; clear hbb
 go_wp2_with (refine wpList_storeRel rfl _ _ rfl w.heap.size rfl _ _ rfl n l hl hc r1 ?_; intro w2 q1 he; have q2 := r2.other he (by omega); have HB2 := zh (HB.out.trans (he.below (zL _))); have hs2 : w.heap.size + 1 < w2.heap.size := (by have := he.size; omega); clear he HB r1 r2 hs1; have hc0 := q1.cell0)
 clear hc0
 go_loopw [3, 10] (fun _ kv wr => ∃ (k : Nat) (m : List Nat), k ≤ p ∧ kv = .int .i64 k ∧ RW m ∧ RelAt wr w.heap.size (p : Int) m ∧ RelAt wr (w.heap.size + 1) 0 zs ∧ Hid (Below w.heap.size w wr) ∧ Hid (w.heap.size + 1 < wr.heap.size) ∧ Hid (∀ a b, bt m a b = (decide (a < p) && decide (b < p) && (bt l a b || decide (a < k ∧ a = b))))) (fun _ kv _ => p - (intOf kv).toNat)
 case atStart => exact ⟨0, lc, by omega, rfl, hc, q1, q2, HB2, hs2, HCL⟩
 case round =>
  clear q1 q2 HB2 hs2 HCL hc
  obtain ⟨k, m, hk, rfl, hm, r1, r2, HB, HS, HM⟩ := hrel
  by_cases hlt : k < p
  ·go_wp2_with fail
   refine (radd_any _ _ _ hm (k : Int) (k : Int) _ r1).mono ?_
   rintro e w3 ⟨rfl, k1, hmu⟩
   have k2 := r2.mut hmu (by omega)
   have HB3 := zh (HB.out.trans (hmu.below (zL _) (by have := HS.out; omega)))
   have HS3 : Hid (w.heap.size + 1 < w3.heap.size) := zT HS.out hmu.size
   clear hmu r1 r2
   go_wp2_with fail
   go_roundw
   case rel => exact ⟨k + 1, _, by omega, by go_num, rw_addR hm _ _ _, k1, k2, HB3, HS3, HST.out k m hm hlt HM.out⟩
   case measure => simp [intOf]; omega
  ·have e : k = p := by omega
   subst e
   have HM0 : Hid (∀ a b, bt m a b = (decide (a < k) && decide (b < k) && war (bt l) 0 a b)) := war_start HM.out
   clear HM HST
   have hc0 := r1.cell0
   go_wp2_with fail
   clear hc0
   obtain ⟨wo, rfl⟩ : ∃ wo : World, wo = wr := ⟨_, rfl⟩
   obtain ⟨p, rfl⟩ : ∃ p : Nat, p = k := ⟨_, rfl⟩
   go_loopw [4, 5, 19, 23, 24] (fun _ _ kv _ _ wr => ∃ (k : Nat) (m : List Nat), k ≤ p ∧ kv = .int .i64 k ∧ RW m ∧ RelAt wr w.heap.size (p : Int) m ∧ RelAt wr (w.heap.size + 1) 0 zs ∧ Hid (Below w.heap.size w wr) ∧ Hid (w.heap.size + 1 < wr.heap.size) ∧ Hid (∀ a b, bt m a b = (decide (a < p) && decide (b < p) && war (bt l) k a b))) (fun _ _ kv _ _ _ => p - (intOf kv).toNat)
   case atStart => exact ⟨0, m, by omega, rfl, hm, r1, r2, HB, HS, HM0⟩
   case round =>
        clear r1 r2 HB HS HM0 hm
        obtain ⟨k, m, hk, rfl, hm, r1, r2, HB, HS, HM⟩ := hrel
        by_cases hlt : k < p
        ·have hc0 := r1.cell0
         go_wp2_with fail
         clear hc0
         obtain ⟨wo2, rfl⟩ : ∃ wo2 : World, wo2 = wr := ⟨_, rfl⟩
         have HM0 : Hid (∀ a b, bt m a b = warB (bt l) p k 0 a b) := fun a b => by rw [warB_zero]; exact HM.out a b
         go_loopw [5, 24] (fun _ iv wr => ∃ (i : Nat) (m : List Nat), i ≤ p ∧ iv = .int .i64 i ∧ RW m ∧ RelAt wr w.heap.size (p : Int) m ∧ RelAt wr (w.heap.size + 1) 0 zs ∧ Hid (Below w.heap.size w wr) ∧ Hid (w.heap.size + 1 < wr.heap.size) ∧ Hid (∀ a b, bt m a b = warB (bt l) p k i a b)) (fun _ iv _ => p - (intOf iv).toNat)
         case atStart => exact ⟨0, m, by omega, rfl, hm, r1, r2, HB, HS, HM0⟩
         case round =>
          clear r1 r2 HB HS HM0 HM hm
          obtain ⟨i, m, hi, rfl, hm, r1, r2, HB, HS, HM⟩ := hrel
          by_cases hlt2 : i < p
          ·have hc1 := r1.cell hm i (by omega)
           have hc2 := r1.cell hm k (by omega)
           have hx := hm.lt i
           have hy := hm.lt k
           obtain ⟨x, hxe⟩ : ∃ x, x = m.getD i 0 := ⟨_, rfl⟩
           obtain ⟨y, hye⟩ : ∃ y, y = m.getD k 0 := ⟨_, rfl⟩
           rw [← hxe] at hc1 hx
           rw [← hye] at hc2 hy
           have HX := zh hxe; clear hxe
           have HY := zh hye; clear hye
           have hh := MM.hasN_in x k (by omega)
           cases ht : x.testBit k with
           | false =>
             rw [ht] at hh
             have HM2 : Hid (∀ a b, bt m a b = warB (bt l) p k (i + 1) a b) := warB_keep HM.out hlt2 hlt (by rw [← HX.out]; exact ht)
             clear ht
             go_wp2_with (go_at_call 166; refine (has_any x hx _ _).mono ?_; rintro e w' ⟨rfl, rfl⟩)
             go_roundw
             case rel => exact ⟨i + 1, m, by omega, by go_num, hm, r1, r2, HB, HS, HM2⟩
             case measure => simp [intOf]; omega
           | true =>
             rw [ht] at hh
             have HM2 : Hid (∀ a b, bt (m.set i (x ||| y)) a b = warB (bt l) p k (i + 1) a b) := by rw [HX.out, HY.out]; exact warB_or hm HM.out hlt2 hlt hp (by rw [← HX.out]; exact ht)
             clear ht
             have hf := r1.free (1 + i)
             have e1 : bits BinOp.or IntKind.u64 (x : Int) (y : Int) = ((x ||| y : Nat) : Int) := u64_or_nat x y hx hy
             have hi' : (i : Int) < 64 := by omega
             have hk' : (k : Int) < 64 := by omega
             go_wp2_with (go_at_call 166; refine (has_any x hx _ _).mono ?_; rintro e w' ⟨rfl, rfl⟩)
             refine wp_region_still_tail 11 (by kernel_rfl) (by kernel_rfl) ?_
             simp only [List.take_succ_cons, List.take_zero, List.drop_succ_cons, List.drop_zero]
             repeat still_step
             refine wpStill_nil ?_
             go_wp2_with fail
             go_roundw
             case rel =>
              refine ⟨i + 1, m.set i (x ||| y), by omega, by go_num, hm.set _ _ (Nat.or_lt_two_pow (n := 64) hx hy), (r1.drewN 1).put i _, (r2.drewN 1).far (p := ⟨w.heap.size, 1 + i, none⟩) (by simp) _, (HB.out.drew).setCell (zL _) _, ?_, HM2⟩
              show w.heap.size + 1 < _
              have := HS.out
              simp [World.setCell]; omega
             case measure => simp [intOf]; omega
          ·have e : i = p := by omega
           subst e
           have HM2 : Hid (∀ a b, bt m a b = (decide (a < i) && decide (b < i) && war (bt l) (k + 1) a b)) := fun a b => by rw [HM.out, warB_end]
           go_wp2_with fail
           go_roundw
           case rel => exact ⟨k + 1, m, by omega, by go_num, hm, r1, r2, HB, HS, HM2⟩
           case measure => simp [intOf]; omega
        ·have e : k = p := by omega
         subst e
         have hme := HEND.out m hm HM.out
         have HME := zh hme; clear hme
         go_wp2_with (first | (refine wpList_loadRel rfl _ rfl w.heap.size rfl _ _ hm r1 ?_) | (refine wpList_storeRel rfl _ _ rfl (w.heap.size + 1) rfl _ _ rfl 0 zs RW.zs hm r2 ?_; intro w4 hr he))
         rw [HME.out] at hr
         exact bodyPost_ret (ret_rel rfl _ _ (w.heap.size + 1) _ _ (HME.out ▸ hm) rfl hr) rfl ⟨rfl, HB.out.trans (he.below (by omega))⟩
end
section
open Go.RowKit RM
def closedB (n : Int) (l : List Nat) : Bool := decide (cl n l = cz n l)
theorem closedB_iff (n : Int) (l : List Nat) : closedB n l = true ↔ Closed (pts n) (bt l) := by unfold closedB; rw [decide_eq_true_eq, closed_iff]
theorem rclosed_any (n : Int) (l : List Nat) (hl : RW l) (w : World) :
 Calls Tryz.prog 163 #[.agg (rv n l)] w fun e w' => e = .returned (.bool (closedB n l)) ∧ Below w.heap.size w w' := by
 have he : closedB n l = eqRel (pts n : Nat) (pts n : Nat) (cl n l) (cz n l) := by unfold closedB eqRel; simp
 rw [he]
 clear he
 go_enter Tryz.func163, Tryz.ntmps163
 go_wp2_with fail
 have hr1 := RelAt.new w n l
 have hb : Below w.heap.size w (w.alloc (.cells (rv n l) 62)) := (zB _ _).alloc (zL _) _
 obtain ⟨S, HS, p1, PB, keep⟩ := ex_one _ _ _ _ _ _ hr1 hb
 have keepS := keep.out (by simp)
 clear keep hr1 hb
 refine wp_region_ord S [(0, true), (2, true), (1, false), (3, false), (4, true), (5, true)] (by kernel_rfl) (by kernel_rfl) rfl (by kernel_rfl) HS.out ?_
 iterate 2
  (refine wpOrd_step (zO rfl) ?_)
  (first
        | (refine wpOrd_skip (by rfl) ?_)
        | (refine wpOrd_take (by rfl) (take_loadRel _ rfl _ rfl n l hl p1) ?_)
        | (refine wpOrd_take (v := ?_) (by rfl) ?_ ?_; rotate_left 1; (intro wx hSx; go_simp; try with_reducible rfl)))
  (try simp only [Act.put, zA4, zA5, zA6])
 (refine wpOrd_solo (zO rfl) ?_)
 intro K hK
 go_simp
 go_at_call 174
 refine (rclean_any _ _ hl _).mono ?_
 rintro e w2 ⟨rfl, hb⟩
 have hS := keepS _ _ HS.out hb
 clear HS
 have HS := zh hS; clear hS hb
 refine hK.out _ _ HS.out ?_
 clear hK K
 (try simp only [Act.put, zA4, zA5, zA6])
 (refine wpOrd_solo (zO rfl) ?_)
 intro K hK
 go_simp
 go_at_call 184
 refine (rclosure_any _ _ hl _).mono ?_
 rintro e w3 ⟨rfl, hb⟩
 have hS := keepS _ _ HS.out hb
 clear HS
 have HS := zh hS; clear hS hb
 refine hK.out _ _ HS.out ?_
 clear hK K
 (try simp only [Act.put, zA4, zA5, zA6])
 iterate 2
  (refine wpOrd_step (zO rfl) ?_)
  (first
        | (refine wpOrd_skip (by rfl) ?_)
        | (refine wpOrd_take (by rfl) (take_eqRel _ _ _ rfl _ _ _ _ rfl rfl (RW.mk _ _) (RW.mk _ _)) ?_)
        | (refine wpOrd_take (v := ?_) (by rfl) ?_ ?_; rotate_left 1; (intro wx hSx; go_simp; try with_reducible rfl)))
  (try simp only [Act.put, zA4, zA5, zA6])
 refine wpOrd_done ?_
 go_wp2_with fail
 go_ret
 exact ⟨rfl, PB.out _ HS.out⟩
def orl (l : List Nat) (xs : List Nat) : Nat := xs.foldl (fun a i => a ||| l.getD i 0) 0
theorem orl_snoc (l : List Nat) (xs : List Nat) (i : Nat) : orl l (xs ++ [i]) = orl l xs ||| l.getD i 0 := by simp [orl]
theorem orl_lt {l : List Nat} (h : RW l) (xs : List Nat) : orl l xs < 18446744073709551616 := by
 suffices ∀ (xs : List Nat) (a : Nat), a < 2 ^ 64 → xs.foldl (fun a i => a ||| l.getD i 0) a < 2 ^ 64 from this xs 0 (by omega)
 intro xs
 induction xs with
 | nil => intro a ha; exact ha
 | cons i xs ih => intro a ha; exact ih _ (Nat.or_lt_two_pow ha (h.lt i))
theorem orl_bit (l : List Nat) (xs : List Nat) (j : Nat) : (orl l xs).testBit j = xs.any fun i => bt l i j := by
 suffices ∀ (xs : List Nat) (a : Nat), (xs.foldl (fun a i => a ||| l.getD i 0) a).testBit j = (a.testBit j || xs.any fun i => bt l i j) by
  have := this xs 0
  simpa [orl] using this
 intro xs
 induction xs with
 | nil => intro a; simp
 | cons i xs ih => intro a; rw [List.foldl_cons, ih, Nat.testBit_or, List.any_cons, Bool.or_assoc]; rfl
def abv (l : List Nat) (s : Nat) : Nat := orl l (MM.els s)
theorem abv_lt {l : List Nat} (h : RW l) (s : Nat) : abv l s < 18446744073709551616 := orl_lt h _
theorem abv_bit (l : List Nat) (s j : Nat) : (abv l s).testBit j = true ↔ ∃ i, i < 64 ∧ s.testBit i = true ∧ bt l i j = true := by
 unfold abv
 rw [orl_bit, List.any_eq_true]
 simp only [MM.mem_els]
 exact ⟨fun ⟨i, ⟨h1, h2⟩, h3⟩ => ⟨i, h1, h2, h3⟩, fun ⟨i, h1, h2, h3⟩ => ⟨i, ⟨h1, h2⟩, h3⟩⟩
theorem rabove1_any (ga gr i q : Nat) (l : List Nat) (hl : RW l) (hi : i < 64) (hq : q < 18446744073709551616) (w : World) (ha : Box w ga 39 (.int .u64 (q : Int))) (hr : RowsAt w gr l) (hne : ga ≠ gr) :
 Calls Tryz.prog 187 #[.int .i64 (i : Int), .pointer (some ⟨ga, 0, none⟩), .pointer (some ⟨gr, 0, none⟩)] w fun e w' => e = .returned (.bool true) ∧ Box w' ga 39 (.int .u64 ((q ||| l.getD i 0 : Nat) : Int)) ∧ RowsAt w' gr l ∧ Else ga w w' := by
 have hca := ha.cell
 have hfa := ha.free
 have hcr := hr.cell hl i hi
 have hx := hl.lt i
 obtain ⟨x, hxe⟩ : ∃ x, x = l.getD i 0 := ⟨_, rfl⟩
 rw [← hxe] at hcr hx ⊢
 have HX := zh hxe; clear hxe
 have e1 : bits BinOp.or IntKind.u64 (q : Int) (x : Int) = ((q ||| x : Nat) : Int) := u64_or_nat q x hq hx
 have hi' : (i : Int) < 64 := by omega
 go_enter Tryz.func187, Tryz.ntmps187
 go_wp2_with fail
 refine wp_region_still_tail 5 (by kernel_rfl) (by kernel_rfl) ?_
 simp only [List.take_succ_cons, List.take_zero, List.drop_succ_cons, List.drop_zero]
 repeat still_step
 refine wpStill_nil ?_
 go_wp2_with fail
 go_ret
 have he := Else.setCell w ⟨ga, 0, none⟩ (.int .u64 ((q ||| x : Nat) : Int))
 exact ⟨rfl, (ha.drewN 1).put _, (hr.drewN 1).far (p := ⟨ga, 0, none⟩) hne _, ⟨he.os, he.tape, he.output, he.size, he.block⟩⟩
def AbvInv (B ga gr : Nat) (l : List Nat) (els : List Nat) (w : World) (j : Nat) (W : World) : Prop := Box W ga 39 (.int .u64 ((orl l (els.take j) : Nat) : Int)) ∧ RowsAt W gr l ∧ Below B w W
theorem rabove_any (l : List Nat) (hl : RW l) (s : Nat) (hs : s < 18446744073709551616) (w : World) (hT : Tab w) :
 Calls Tryz.prog 173 #[.agg (uv l), .int .u64 (s : Int)] w fun e w' => e = .returned (.int .u64 ((abv l s : Nat) : Int)) ∧ Below w.heap.size w w' := by
 have hmf : ∀ (fn : Fn) (first cap : Array Value) (w : World), (Instr.makeFunc fn first cap).run Tryz.prog w = .ok (.func fn first cap) w := fun _ _ _ _ => rfl
 have h64 := MM.els_length s
 have h1 : RowsAt ((w.alloc (.cells (uv l) 60)).alloc (.cells #[.int .u64 0] 39)) w.heap.size l := (RowsAt.new w l).alloc _
 have h2 : Box ((w.alloc (.cells (uv l) 60)).alloc (.cells #[.int .u64 0] 39)) (w.heap.size + 1) 39 (.int .u64 ((orl l ((MM.els s).take 0) : Nat) : Int)) := by
  have := Box.new (w.alloc (.cells (uv l) 60)) 39 (.int .u64 0)
  simpa [orl] using this
 have hb : Below w.heap.size w ((w.alloc (.cells (uv l) 60)).alloc (.cells #[.int .u64 0] 39)) := ((zB _ _).alloc (zL _) _).alloc (by simp) _
 have hcall := each_any s hs 187 #[.pointer (some ⟨w.heap.size + 1, 0, none⟩), .pointer (some ⟨w.heap.size, 0, none⟩)] _ (fun _ _ => by kernel_rfl) (AbvInv w.heap.size (w.heap.size + 1) w.heap.size l (MM.els s) w) (AbvInv w.heap.size (w.heap.size + 1) w.heap.size l (MM.els s) w (MM.els s).length)
  (fun j W h => hT.below h.2.2) ⟨h2, h1, hb⟩ (fun W h => h) (fun j W hj ⟨i1, i2, i3⟩ => by
   refine (rabove1_any (w.heap.size + 1) w.heap.size ((MM.els s).getD j 0) _ l hl (MM.els_getD_lt s j) (orl_lt hl _) W i1 i2 (by omega)).mono ?_
   rintro e W' ⟨rfl, k1, k2, k3⟩
   refine .inl ⟨rfl, ?_, k2, i3.trans (k3.below (by omega))⟩
   rw [List.take_succ_eq_append_getElem hj, orl_snoc]
   have e : (MM.els s).getD j 0 = (MM.els s)[j] := by rw [List.getD_eq_getElem?_getD, List.getElem?_eq_getElem hj]; rfl
   rw [e] at k1
   exact k1)
 have HC := zh hcall
 clear hcall h1 h2 hb
 go_enter Tryz.func173, Tryz.ntmps173
 go_wp2_with fail
 refine HC.out.mono ?_
 rintro e W ⟨rfl, i1, i2, i3⟩
 have hc := i1.cell
 rw [List.take_of_length_le (zL _)] at hc
 have HI := zh i3; clear i3 i1 i2
 have hab : orl l (MM.els s) = abv l s := rfl
 rw [hab] at hc
 clear hab
 go_wp2_with fail
 go_ret
 exact ⟨rfl, HI.out⟩
end
section
open Go.RowKit RM
theorem rup_any (n : Int) (l : List Nat) (hl : RW l) (s : Nat) (hs : s < 18446744073709551616) (w : World) (hT : Tab w) :
 Calls Tryz.prog 138 #[.agg (rv n l), .int .u64 (s : Int)] w fun e w' => e = .returned (.int .u64 ((abv (cl n l) s : Nat) : Int)) ∧ Below w.heap.size w w' := by
 have hf := fun (w : World) => run_field1 (pts n : Nat) (RW.mk (pts n) (bt l)) w
 have hcl := rclean_any n l hl
 have ha := fun (w : World) (h : Tab w) => rabove_any (cl n l) (RW.mk _ _) s hs w h
 have HCL := zh hcl; clear hcl
 have HA := zh ha; clear ha
 have HT := zh hT; clear hT
 change ∀ w, (Instr.field 62 (.agg (rv ((pts n : Nat) : Int) (cl n l))) 1).run Tryz.prog w = .ok (.agg (uv (cl n l))) w at hf
 generalize abv (cl n l) s = q at *
 generalize uv (cl n l) = u at *
 generalize rv ((pts n : Nat) : Int) (cl n l) = r at *
 go_enter Tryz.func138, Tryz.ntmps138
 go_wp2_with (refine wpList_loadRel rfl _ rfl w.heap.size rfl n l hl (RelAt.new _ _ _) ?_)
 refine (HCL.out _).mono ?_
 rintro e w1 ⟨rfl, hb1⟩
 have hb : Below w.heap.size w w1 := ((zB _ _).alloc (zL _) _).trans (hb1.mono (by simp))
 have HB := zh hb; clear hb hb1
 go_wp2_with fail
 refine (HA.out _ (HT.out.below HB.out)).mono ?_
 rintro e w2 ⟨rfl, hb2⟩
 have HB2 := zh (HB.out.trans (hb2.mono HB.out.size)); clear hb2
 go_wp2_with fail
 go_ret
 exact ⟨rfl, HB2.out⟩
def strL (l : List Nat) : List Nat := (List.range 64).map fun i => MM.lessN (l.getD i 0) i
theorem RW.strL {l : List Nat} (h : RW l) : RW (strL l) := ⟨by simp [Go.Proofs.YtnfndapgcpdcpaaGreatDoor.strL], fun x hx => by
 simp only [Go.Proofs.YtnfndapgcpdcpaaGreatDoor.strL, List.mem_map] at hx
 obtain ⟨i, _, rfl⟩ := hx
 exact MM.lessN_lt (h.lt i) _⟩
theorem bt_strL {l : List Nat} (h : RW l) (i j : Nat) : bt (strL l) i j = (bt l i j && decide (i ≠ j)) := by
 by_cases hi : i < 64
 ·unfold bt strL
  rw [List.getD_eq_getElem?_getD, List.getElem?_map, List.getElem?_range hi]
  simp only [Option.map_some, Option.getD_some, MM.lessN_bit]
  by_cases hj : j < 64
  ·congr 1
   rw [Bool.eq_iff_iff]
   simp [hj]
   omega
  ·have : (l.getD i 0).testBit j = false := bt_high h i j (by omega)
   rw [this]; simp
 ·rw [bt_far (RW.strL h) i j (by omega), bt_far h i j (by omega)]; simp
def blw (l : List Nat) (s k : Nat) : Nat := MM.ofP (fun i => decide (i < k) && (l.getD i 0 &&& s != 0)) 64
theorem blw_lt (l : List Nat) (s k : Nat) : blw l s k < 18446744073709551616 := MM.ofP_lt _ _
theorem blw_bit (l : List Nat) (s k i : Nat) : (blw l s k).testBit i = (decide (i < 64) && (decide (i < k) && (l.getD i 0 &&& s != 0))) := MM.ofP_bit _ _ _
theorem blw_zero (l : List Nat) (s : Nat) : blw l s 0 = 0 := MM.ext64 (blw_lt _ _ _) (by omega) fun i _ => by rw [blw_bit]; simp
theorem blw_yes {l : List Nat} {s k : Nat} (hk : k < 64) (h : (l.getD k 0 &&& s != 0) = true) : MM.withN (blw l s k) k = blw l s (k + 1) :=
 MM.ext64 (MM.withN_lt (blw_lt _ _ _) _) (blw_lt _ _ _) fun i hi => by
  rw [MM.withN_bit, blw_bit, blw_bit]
  by_cases e : i = k
  ·subst e
   rw [h]
   simp [hi]
  ·have h1 : decide ((k : Int) = (i : Int) ∧ i < 64) = false := by simp; omega
   have h2 : decide (i < k + 1) = decide (i < k) := by rw [Bool.eq_iff_iff]; simp; omega
   rw [h1, h2]; simp
theorem blw_no {l : List Nat} {s k : Nat} (h : (l.getD k 0 &&& s != 0) = false) : blw l s k = blw l s (k + 1) :=
 MM.ext64 (blw_lt _ _ _) (blw_lt _ _ _) fun i hi => by
  rw [blw_bit, blw_bit]
  by_cases e : i = k
  ·subst e
   rw [h]; simp
  ·have h2 : decide (i < k + 1) = decide (i < k) := by rw [Bool.eq_iff_iff]; simp; omega
   rw [h2]
theorem and_ne {x s : Nat} (hx : x < 2 ^ 64) : (x &&& s != 0) = true ↔ ∃ j, j < 64 ∧ x.testBit j = true ∧ s.testBit j = true := by
 constructor
 ·intro h
  apply Decidable.byContradiction
  intro hn
  have : x &&& s = 0 := MM.ext64 (Nat.lt_of_le_of_lt Nat.and_le_left hx) (by omega) fun i hi => by
   rw [Nat.testBit_and]
   cases h1 : x.testBit i with
   | false => simp
   | true =>
     cases h2 : s.testBit i with
     | false => simp
     | true => exact absurd ⟨i, hi, h1, h2⟩ hn
  rw [this] at h
  simp at h
 ·rintro ⟨j, _, h1, h2⟩
  rw [bne_iff_ne]
  intro h0
  have := congrArg (·.testBit j) h0
  simp [h1, h2] at this
theorem rdown_any (n : Int) (l : List Nat) (hl : RW l) (s : Nat) (hs : s < 18446744073709551616) (w : World) :
 Calls Tryz.prog 139 #[.agg (rv n l), .int .u64 (s : Int)] w fun e w' => e = .returned (.int .u64 ((blw (cl n l) s (pts n) : Nat) : Int)) ∧ Below w.heap.size w w' := by
 have hcl := rclean_any n l hl
 have hc : RW (cl n l) := RW.mk _ _
 have HCL := zh hcl; clear hcl
 have hp := pts_le n
 generalize cl n l = lc at *
 generalize pts n = p at *
 go_enter Tryz.func139, Tryz.ntmps139
 go_wp2_with (refine wpList_loadRel rfl _ rfl w.heap.size rfl n l hl (RelAt.new _ _ _) ?_)
 refine (HCL.out _).mono ?_
 rintro e w1 ⟨rfl, hb1⟩
 have h1 := (RelAt.new w n l).below hb1 (by simp)
 have hb : Below w.heap.size w w1 := ((zB _ _).alloc (zL _) _).trans (hb1.mono (by simp))
 have HB := zh hb; clear hb hb1
 go_wp2_with (refine wpList_storeRel rfl _ _ rfl w.heap.size rfl _ _ rfl n l hl hc h1 ?_; intro w2 q1 he; have HB2 := zh (HB.out.trans (he.below (zL _))); clear he HB h1; have hc0 := q1.cell0)
 clear hc0
 go_loop [5, 6, 11] (fun qv _ kv => ∃ k : Nat, k ≤ p ∧ kv = .int .i64 k ∧ qv = .int .u64 ((blw lc s k : Nat) : Int)) (fun _ _ kv => p - (intOf kv).toNat)
 case atStart => exact ⟨0, by omega, rfl, by rw [blw_zero]; rfl⟩
 case round =>
  obtain ⟨k, hk, rfl, rfl⟩ := hrel
  by_cases hlt : k < p
  ·have hc1 := q1.cell hc k (by omega)
   have hx := hc.lt k
   have hq := blw_lt lc s k
   have hyes := fun h => blw_yes (l := lc) (s := s) (k := k) (by omega) h
   have hno := fun h => blw_no (l := lc) (s := s) (k := k) h
   have HY := zh hyes; clear hyes
   have HN := zh hno; clear hno
   generalize blw lc s k = q at *
   generalize lc.getD k 0 = x at *
   have e1 : bits BinOp.and IntKind.u64 (x : Int) (s : Int) = ((x &&& s : Nat) : Int) := u64_and_nat x s hx hs
   cases hz : (x &&& s != 0) with
   | true =>
     have hz2 : (((x &&& s : Nat) : Int) != 0) = true := by rw [bne_iff_ne] at hz ⊢; omega
     have HW := zh (HY.out hz); clear hz HY HN
     go_wp2_with (go_at_call 175; refine (with_any q hq _ _).mono ?_; rintro e w' ⟨rfl, rfl⟩)
     go_round
     case rel => exact ⟨k + 1, by omega, by go_num, by rw [HW.out]⟩
     case measure => simp [intOf]; omega
   | false =>
     have hz2 : (((x &&& s : Nat) : Int) != 0) = false := by
      have : x &&& s = 0 := by simpa using hz
      rw [this]; rfl
     have HW := zh (HN.out hz); clear hz HY HN
     go_wp2_with fail
     go_round
     case rel => exact ⟨k + 1, by omega, by go_num, by rw [HW.out]⟩
     case measure => simp [intOf]; omega
  ·have e : k = p := by omega
   subst e
   go_wp2_with fail
   go_ret
   exact ⟨rfl, HB2.out⟩
end
section
open Go.RowKit RM
def pcells : List (Int × Int) → List Value
 | [] => []
 | q :: l => .int .i64 q.1 :: .int .i64 q.2 :: pcells l
theorem pcells_length : ∀ l, (pcells l).length = 2 * l.length
 | [] => rfl
 | q :: l => by simp [pcells, pcells_length l]; omega
theorem pcells_at : ∀ (l : List (Int × Int)) (k : Nat), k < l.length → (pcells l)[k * 2]? = some (.int .i64 (l.getD k (0, 0)).1) ∧ (pcells l)[k * 2 + 1]? = some (.int .i64 (l.getD k (0, 0)).2)
 | [], k, h => by simp at h
 | q :: l, 0, _ => by simp [pcells]
 | q :: l, k + 1, h => by
   obtain ⟨h1, h2⟩ := pcells_at l k (by simpa using h)
   have e : (k + 1) * 2 = k * 2 + 1 + 1 := by omega
   rw [e]
   simp only [pcells, zA2, List.getD_cons_succ]
   exact ⟨h1, h2⟩
def Prs (w : World) (A : Option Addr) (xs : List (Int × Int)) : Prop := Sl w w.heap.size A (pcells xs)
theorem Prs.below {w w' : World} {A : Option Addr} {xs : List (Int × Int)} (h : Prs w A xs) (hb : Below w.heap.size w w') : Prs w' A xs := (Sl.below h hb).mono hb.size
theorem Prs.cell {w : World} {A : Option Addr} {xs : List (Int × Int)} (h : Prs w A xs) (hne : xs ≠ []) : ∃ b o, A = some ⟨b, o, none⟩ ∧ b < w.heap.size ∧ ∀ j, j < xs.length → w.cell? ⟨b, o + j * 2, none⟩ = some (.int .i64 (xs.getD j (0, 0)).1) ∧ w.cell? ⟨b, o + j * 2 + 1, none⟩ = some (.int .i64 (xs.getD j (0, 0)).2) := by
 obtain ⟨b, o, hA, hb, hc⟩ := Sl.at_ h (fun e => hne (by have := congrArg List.length e; rw [pcells_length] at this; simp at this; exact List.eq_nil_of_length_eq_zero (by omega)))
 exact ⟨b, o, hA, hb, fun j hj => ⟨hc _ _ (pcells_at xs j hj).1, by rw [Nat.add_assoc]; exact hc _ _ (pcells_at xs j hj).2⟩⟩
end
section
inductive OT where
 | nil
 | take (i : Nat) (r : OT)
 | solo (i : Nat) (r : OT)
 | two (i : Nat) (r : OT) (j : Nat) (s : OT)
def OT.len : OT → Nat
 | .nil => 0
 | .take _ r => r.len + 1
 | .solo _ r => r.len + 1
 | .two _ r _ _ => r.len + 1
section
variable {P : Program} {ops : Array Oper} {Q : Exit → Act → World → Prop} {S : World → Prop}
def otB (ops : Array Oper) : OT → Array Bool → Bool
 | .nil, listed => decide (Region.ready .any ops listed = [])
 | .take i r, listed => (Region.ready .any ops listed).contains i && Region.free .any ops listed i && otB ops r (listed.setIfInBounds i true)
 | .solo i r, listed => decide (Region.ready .any ops listed = [i]) && otB ops r (listed.setIfInBounds i true)
 | .two i r j s, listed => decide (Region.ready .any ops listed = [i, j]) && decide (r.len = s.len) && decide (i ≠ j) && otB ops r (listed.setIfInBounds i true) && otB ops s (listed.setIfInBounds j true)
def wpOT (P : Program) (ops : Array Oper) (Q : Exit → Act → World → Prop) (S : World → Prop) : OT → Act → World → Prop
 | .nil, a, w => Q .normal a w
 | .take i r, a, w => ∃ o v, ops[i]? = some o ∧ YieldsIf P ops S o v a ∧ wpOT P ops Q S r (a.put o.dst v) w
 | .solo i r, a, w => wpOp P ops Q i (fun a' w' => S w' ∧ wpOT P ops Q S r a' w') a w
 | .two i r j s, a, w => wpOp P ops Q i (fun a' w' => S w' ∧ wpOT P ops Q S r a' w') a w ∧ wpOp P ops Q j (fun a' w' => S w' ∧ wpOT P ops Q S s a' w') a w
theorem wpAnyH_of_ot (hsel : Region.noSelect ops = true) (hQ : ∀ c (a : Act) d v w, Q (.panic c) (a.put d v) w → Q (.panic c) a w) :
 ∀ (r : OT) (listed : Array Bool) (a : Act) (w : World), otB ops r listed = true → S w → wpOT P ops Q S r a w → wpAnyH P .any ops Q S r.len listed a w
 | .nil, listed, a, w, hB, _, h => wpAnyH_done (by simpa [otB] using hB) h _
 | .take i r, listed, a, w, hB, hS, h => by
   simp only [otB, Bool.and_eq_true] at hB
   obtain ⟨o, v, ho, hy, hr⟩ := h
   exact wpAnyH_take ho hsel hB.1.2 hB.1.1 (fun c a w => hQ c a _ _ w) hy hS (wpAnyH_of_ot hsel hQ r _ _ _ hB.2 hS hr)
 | .solo i r, listed, a, w, hB, hS, h => by
   simp only [otB, Bool.and_eq_true, decide_eq_true_eq] at hB
   refine wpAnyH_all hB.1 (by simp) fun j hj => ?_
   have hji : j = i := by simpa using hj
   subst hji
   exact wpOp_mono (fun a' w' h' => ⟨h'.1, wpAnyH_of_ot hsel hQ r _ _ _ hB.2 h'.1 h'.2⟩) h
 | .two i r j s, listed, a, w, hB, hS, h => by
   simp only [otB, Bool.and_eq_true, decide_eq_true_eq] at hB
   obtain ⟨⟨⟨⟨h1, h2⟩, h3⟩, h4⟩, h5⟩ := hB
   refine wpAnyH_all h1 (by simp) fun k hk => ?_
   have hkk : k = i ∨ k = j := by simpa using hk
   rcases hkk with rfl | rfl
   ·exact wpOp_mono (fun a' w' h' => ⟨h'.1, wpAnyH_of_ot hsel hQ r _ _ _ h4 h'.1 h'.2⟩) h.1
   ·refine wpOp_mono (fun a' w' h' => ⟨h'.1, ?_⟩) h.2
    show wpAnyH P .any ops Q S r.len _ _ _
    rw [h2]
    exact wpAnyH_of_ot hsel hQ s _ _ _ h5 h'.1 h'.2
theorem wp_region_ot {id : Nat} {a : Act} {w : World} (S : World → Prop) (r : OT) (hm : P.follows .mixedOrders = true) (hsel : Region.noSelect ops = true) (hl : r.len = ops.size)
 (hB : otB ops r (Array.replicate ops.size false) = true)
 (hS : S w.drew) (h : wpOT P ops (NoPanic Q) S r a w.drew) : (Code.region id ops true).wp P Q a w := by
 have h2 := wpAnyH_of_ot (Q := NoPanic Q) hsel (fun _ _ _ _ _ h => h) r _ a _ hB hS h
 rw [hl] at h2
 exact wp_region_noPanic (wp_region_held hm h2)
theorem wpOT_done {a : Act} {w : World} (h : Q .normal a w) : wpOT P ops (NoPanic Q) S .nil a w := h
theorem wpOT_step {i : Nat} {r : OT} {o : Oper} {a : Act} {w : World} (ho : ops[i]? = some o)
 (h : (Region.wanted o (yielded ops a.tmps) = false ∧ wpOT P ops Q S r (a.put o.dst undef) w) ∨
  (Region.wanted o (yielded ops a.tmps) = true ∧ ∃ v, (∀ w, S w → (execOp a.eval o).run P w = .ok (.value v) w) ∧ wpOT P ops Q S r (a.put o.dst v) w)) : wpOT P ops Q S (.take i r) a w := by
 rcases h with ⟨h1, h2⟩ | ⟨h1, v, h2, h3⟩
 ·exact ⟨o, undef, ho, .inr ⟨h1, rfl⟩, h2⟩
 ·exact ⟨o, v, ho, .inl ⟨h1, h2⟩, h3⟩
theorem wpOT_skip {r : OT} {o : Oper} {a : Act} {w : World} {p : Prop} (hw : Region.wanted o (yielded ops a.tmps) = false)
 (h : wpOT P ops Q S r (a.put o.dst undef) w) : (Region.wanted o (yielded ops a.tmps) = false ∧ wpOT P ops Q S r (a.put o.dst undef) w) ∨ p := .inl ⟨hw, h⟩
theorem wpOT_take {r : OT} {o : Oper} {v : Value} {a : Act} {w : World} {p : Prop} (hw : Region.wanted o (yielded ops a.tmps) = true)
 (hy : ∀ w, S w → (execOp a.eval o).run P w = .ok (.value v) w) (h : wpOT P ops Q S r (a.put o.dst v) w) :
 p ∨ (Region.wanted o (yielded ops a.tmps) = true ∧ ∃ v, (∀ w, S w → (execOp a.eval o).run P w = .ok (.value v) w) ∧ wpOT P ops Q S r (a.put o.dst v) w) := .inr ⟨hw, v, hy, h⟩
theorem wpOT_solo {i : Nat} {r : OT} {o : Oper} {a : Act} {w : World} (ho : ops[i]? = some o)
 (h : ∀ K' : Act → World → Prop, Shut (∀ a w, S w → wpOT P ops Q S r a w → K' a w) → if Region.wanted o (yielded ops a.tmps) = true then Oper.wp P o a w K' Q else K' (a.put o.dst undef) w) :
 wpOT P ops Q S (.solo i r) a w := wpOp_step ho fun K' hK => h K' fun a w hS hW => hK a w ⟨hS, hW⟩
theorem wpOT_two {i j : Nat} {r s : OT} {a : Act} {w : World} (h1 : wpOT P ops Q S (.solo i r) a w) (h2 : wpOT P ops Q S (.solo j s) a w) : wpOT P ops Q S (.two i r j s) a w := ⟨h1, h2⟩
end
end
section
inductive OU where
 | nil
 | take (i : Nat) (r : OU)
 | solo (i : Nat) (r : OU)
 | two (i : Nat) (r : OU) (j : Nat) (s : OU)
 | three (i : Nat) (r : OU) (j : Nat) (s : OU) (k : Nat) (t : OU)
def OU.len : OU → Nat
 | .nil => 0
 | .take _ r => r.len + 1
 | .solo _ r => r.len + 1
 | .two _ r _ _ => r.len + 1
 | .three _ r _ _ _ _ => r.len + 1
section
variable {P : Program} {ops : Array Oper} {Q : Exit → Act → World → Prop} {S : World → Prop}
def ouB (ops : Array Oper) : OU → Array Bool → Bool
 | .nil, listed => decide (Region.ready .any ops listed = [])
 | .take i r, listed => (Region.ready .any ops listed).contains i && Region.free .any ops listed i && ouB ops r (listed.setIfInBounds i true)
 | .solo i r, listed => decide (Region.ready .any ops listed = [i]) && ouB ops r (listed.setIfInBounds i true)
 | .two i r j s, listed => decide (Region.ready .any ops listed = [i, j]) && decide (r.len = s.len) && decide (i ≠ j) && ouB ops r (listed.setIfInBounds i true) && ouB ops s (listed.setIfInBounds j true)
 | .three i r j s k t, listed => decide (Region.ready .any ops listed = [i, j, k]) && decide (r.len = s.len) && decide (r.len = t.len) && decide (i ≠ j) && decide (i ≠ k) && decide (j ≠ k) && ouB ops r (listed.setIfInBounds i true) && ouB ops s (listed.setIfInBounds j true) && ouB ops t (listed.setIfInBounds k true)
def wpOU (P : Program) (ops : Array Oper) (Q : Exit → Act → World → Prop) (S : World → Prop) : OU → Act → World → Prop
 | .nil, a, w => Q .normal a w
 | .take i r, a, w => ∃ o v, ops[i]? = some o ∧ YieldsIf P ops S o v a ∧ wpOU P ops Q S r (a.put o.dst v) w
 | .solo i r, a, w => wpOp P ops Q i (fun a' w' => S w' ∧ wpOU P ops Q S r a' w') a w
 | .two i r j s, a, w => wpOp P ops Q i (fun a' w' => S w' ∧ wpOU P ops Q S r a' w') a w ∧ wpOp P ops Q j (fun a' w' => S w' ∧ wpOU P ops Q S s a' w') a w
 | .three i r j s k t, a, w => wpOp P ops Q i (fun a' w' => S w' ∧ wpOU P ops Q S r a' w') a w ∧ wpOp P ops Q j (fun a' w' => S w' ∧ wpOU P ops Q S s a' w') a w ∧ wpOp P ops Q k (fun a' w' => S w' ∧ wpOU P ops Q S t a' w') a w
theorem wpAnyH_of_ou (hsel : Region.noSelect ops = true) (hQ : ∀ c (a : Act) d v w, Q (.panic c) (a.put d v) w → Q (.panic c) a w) :
 ∀ (r : OU) (listed : Array Bool) (a : Act) (w : World), ouB ops r listed = true → S w → wpOU P ops Q S r a w → wpAnyH P .any ops Q S r.len listed a w
 | .nil, listed, a, w, hB, _, h => wpAnyH_done (by simpa [ouB] using hB) h _
 | .take i r, listed, a, w, hB, hS, h => by
   simp only [ouB, Bool.and_eq_true] at hB
   obtain ⟨o, v, ho, hy, hr⟩ := h
   exact wpAnyH_take ho hsel hB.1.2 hB.1.1 (fun c a w => hQ c a _ _ w) hy hS (wpAnyH_of_ou hsel hQ r _ _ _ hB.2 hS hr)
 | .solo i r, listed, a, w, hB, hS, h => by
   simp only [ouB, Bool.and_eq_true, decide_eq_true_eq] at hB
   refine wpAnyH_all hB.1 (by simp) fun j hj => ?_
   have hji : j = i := by simpa using hj
   subst hji
   exact wpOp_mono (fun a' w' h' => ⟨h'.1, wpAnyH_of_ou hsel hQ r _ _ _ hB.2 h'.1 h'.2⟩) h
 | .two i r j s, listed, a, w, hB, hS, h => by
   simp only [ouB, Bool.and_eq_true, decide_eq_true_eq] at hB
   obtain ⟨⟨⟨⟨h1, h2⟩, h3⟩, h4⟩, h5⟩ := hB
   refine wpAnyH_all h1 (by simp) fun k hk => ?_
   have hkk : k = i ∨ k = j := by simpa using hk
   rcases hkk with rfl | rfl
   ·exact wpOp_mono (fun a' w' h' => ⟨h'.1, wpAnyH_of_ou hsel hQ r _ _ _ h4 h'.1 h'.2⟩) h.1
   ·refine wpOp_mono (fun a' w' h' => ⟨h'.1, ?_⟩) h.2
    show wpAnyH P .any ops Q S r.len _ _ _
    rw [h2]
    exact wpAnyH_of_ou hsel hQ s _ _ _ h5 h'.1 h'.2
 | .three i r j s k t, listed, a, w, hB, hS, h => by
   simp only [ouB, Bool.and_eq_true, decide_eq_true_eq] at hB
   obtain ⟨⟨⟨⟨⟨⟨⟨⟨h1, h2⟩, h2t⟩, h3⟩, h3b⟩, h3c⟩, h4⟩, h5⟩, h6⟩ := hB
   refine wpAnyH_all h1 (by simp) fun l hl => ?_
   have hkk : l = i ∨ l = j ∨ l = k := by simpa using hl
   rcases hkk with rfl | rfl | rfl
   ·exact wpOp_mono (fun a' w' h' => ⟨h'.1, wpAnyH_of_ou hsel hQ r _ _ _ h4 h'.1 h'.2⟩) h.1
   ·refine wpOp_mono (fun a' w' h' => ⟨h'.1, ?_⟩) h.2.1
    show wpAnyH P .any ops Q S r.len _ _ _
    rw [h2]
    exact wpAnyH_of_ou hsel hQ s _ _ _ h5 h'.1 h'.2
   ·refine wpOp_mono (fun a' w' h' => ⟨h'.1, ?_⟩) h.2.2
    show wpAnyH P .any ops Q S r.len _ _ _
    rw [h2t]
    exact wpAnyH_of_ou hsel hQ t _ _ _ h6 h'.1 h'.2
theorem wp_region_ou {id : Nat} {a : Act} {w : World} (S : World → Prop) (r : OU) (hm : P.follows .mixedOrders = true) (hsel : Region.noSelect ops = true) (hl : r.len = ops.size)
 (hB : ouB ops r (Array.replicate ops.size false) = true)
 (hS : S w.drew) (h : wpOU P ops (NoPanic Q) S r a w.drew) : (Code.region id ops true).wp P Q a w := by
 have h2 := wpAnyH_of_ou (Q := NoPanic Q) hsel (fun _ _ _ _ _ h => h) r _ a _ hB hS h
 rw [hl] at h2
 exact wp_region_noPanic (wp_region_held hm h2)
theorem wpOU_done {a : Act} {w : World} (h : Q .normal a w) : wpOU P ops (NoPanic Q) S .nil a w := h
theorem wpOU_step {i : Nat} {r : OU} {o : Oper} {a : Act} {w : World} (ho : ops[i]? = some o)
 (h : (Region.wanted o (yielded ops a.tmps) = false ∧ wpOU P ops Q S r (a.put o.dst undef) w) ∨
  (Region.wanted o (yielded ops a.tmps) = true ∧ ∃ v, (∀ w, S w → (execOp a.eval o).run P w = .ok (.value v) w) ∧ wpOU P ops Q S r (a.put o.dst v) w)) : wpOU P ops Q S (.take i r) a w := by
 rcases h with ⟨h1, h2⟩ | ⟨h1, v, h2, h3⟩
 ·exact ⟨o, undef, ho, .inr ⟨h1, rfl⟩, h2⟩
 ·exact ⟨o, v, ho, .inl ⟨h1, h2⟩, h3⟩
theorem wpOU_skip {r : OU} {o : Oper} {a : Act} {w : World} {p : Prop} (hw : Region.wanted o (yielded ops a.tmps) = false)
 (h : wpOU P ops Q S r (a.put o.dst undef) w) : (Region.wanted o (yielded ops a.tmps) = false ∧ wpOU P ops Q S r (a.put o.dst undef) w) ∨ p := .inl ⟨hw, h⟩
theorem wpOU_take {r : OU} {o : Oper} {v : Value} {a : Act} {w : World} {p : Prop} (hw : Region.wanted o (yielded ops a.tmps) = true)
 (hy : ∀ w, S w → (execOp a.eval o).run P w = .ok (.value v) w) (h : wpOU P ops Q S r (a.put o.dst v) w) :
 p ∨ (Region.wanted o (yielded ops a.tmps) = true ∧ ∃ v, (∀ w, S w → (execOp a.eval o).run P w = .ok (.value v) w) ∧ wpOU P ops Q S r (a.put o.dst v) w) := .inr ⟨hw, v, hy, h⟩
theorem wpOU_solo {i : Nat} {r : OU} {o : Oper} {a : Act} {w : World} (ho : ops[i]? = some o)
 (h : ∀ K' : Act → World → Prop, Shut (∀ a w, S w → wpOU P ops Q S r a w → K' a w) → if Region.wanted o (yielded ops a.tmps) = true then Oper.wp P o a w K' Q else K' (a.put o.dst undef) w) :
 wpOU P ops Q S (.solo i r) a w := wpOp_step ho fun K' hK => h K' fun a w hS hW => hK a w ⟨hS, hW⟩
theorem wpOU_three {i j k : Nat} {r s t : OU} {a : Act} {w : World} (h1 : wpOU P ops Q S (.solo i r) a w) (h2 : wpOU P ops Q S (.solo j s) a w) (h3 : wpOU P ops Q S (.solo k t) a w) : wpOU P ops Q S (.three i r j s k t) a w := ⟨h1, h2, h3⟩
theorem wpOU_two {i j : Nat} {r s : OU} {a : Act} {w : World} (h1 : wpOU P ops Q S (.solo i r) a w) (h2 : wpOU P ops Q S (.solo j s) a w) : wpOU P ops Q S (.two i r j s) a w := ⟨h1, h2⟩
end
end
namespace RM
open Go.Proofs.YtnfndapgcpdcpaaGreatDoor
def fstB (S : Nat → Nat → Bool) (i : Nat) : Bool := (List.range i).all fun j => !(S i j && S j i)
def nCls (p : Nat) (S : Nat → Nat → Bool) : Nat := ((List.range p).filter (fstB S)).length
def antiB (p : Nat) (S : Nat → Nat → Bool) : Bool := (List.range p).all (fstB S)
theorem nCls_all (p : Nat) (S : Nat → Nat → Bool) : nCls p S = p ↔ antiB p S = true := by
 unfold nCls antiB
 have h := List.length_filter_eq_length_iff (p := fstB S) (l := List.range p)
 rw [List.length_range] at h
 rw [h, List.all_eq_true]
theorem row_eq {p : Nat} {S : Nat → Nat → Bool} {L : List Nat} (hL : RW L) (hS : Closed p S) (hb : ∀ i j, bt L i j = (decide (i < p) && decide (j < p) && S i j)) {i j : Nat} (hi : i < p) (hj : j < p) :
 L.getD i 0 = L.getD j 0 ↔ (S i j && S j i) = true := by
 rw [Bool.and_eq_true]
 constructor
 ·intro h
  have e1 : bt L i i = bt L j i := by unfold bt; rw [h]
  have e2 : bt L i j = bt L j j := by unfold bt; rw [h]
  rw [hb, hb] at e1 e2
  simp only [hi, hj, decide_true, Bool.true_and] at e1 e2
  exact ⟨by rw [e2]; exact hS.1 j hj, by rw [← e1]; exact hS.1 i hi⟩
 ·rintro ⟨h1, h2⟩
  refine MM.ext64 (hL.lt i) (hL.lt j) fun b _ => ?_
  show bt L i b = bt L j b
  rw [hb, hb]
  simp only [hi, hj, decide_true, Bool.true_and]
  by_cases hp : b < p
  ·simp only [hp, decide_true, Bool.true_and]
   rw [Bool.eq_iff_iff]
   exact ⟨fun h => hS.2 _ _ _ hj hi hp h2 h, fun h => hS.2 _ _ _ hi hj hp h1 h⟩
  ·simp [hp]
theorem fst_iff {p : Nat} {S : Nat → Nat → Bool} {L : List Nat} (hL : RW L) (hS : Closed p S) (hb : ∀ i j, bt L i j = (decide (i < p) && decide (j < p) && S i j)) {i : Nat} (hi : i < p) :
 fstB S i = true ↔ ∀ j, j < i → L.getD j 0 ≠ L.getD i 0 := by
 unfold fstB
 rw [List.all_eq_true]
 simp only [List.mem_range]
 constructor
 ·intro h j hj e
  have := h j hj
  rw [(row_eq hL hS hb hi (show j < p by omega)).1 e.symm] at this
  cases this
 ·intro h j hj
  cases hc : (S i j && S j i) with
  | false => rfl
  | true => exact absurd ((row_eq hL hS hb hi (show j < p by omega)).2 hc).symm (h j hj)
theorem firsts {p : Nat} {S : Nat → Nat → Bool} {L : List Nat} (hL : RW L) (hS : Closed p S) (hb : ∀ i j, bt L i j = (decide (i < p) && decide (j < p) && S i j)) : ∀ m, m ≤ p →
 (((List.range m).filter (fstB S)).map fun i => L.getD i 0).Nodup ∧ ∀ x, x ∈ (((List.range m).filter (fstB S)).map fun i => L.getD i 0) ↔ ∃ i, i < m ∧ L.getD i 0 = x
 | 0, _ => by simp
 | m + 1, hm => by
   obtain ⟨h1, h2⟩ := firsts hL hS hb m (by omega)
   rw [List.range_succ, List.filter_append, List.map_append]
   have hf := fst_iff hL hS hb (show m < p by omega)
   cases hc : fstB S m with
   | true =>
     have hn := hf.1 hc
     have e : (List.filter (fstB S) [m]).map (fun i => L.getD i 0) = [L.getD m 0] := by simp [hc]
     rw [e]
     refine ⟨?_, fun x => ?_⟩
     ·rw [List.nodup_append]
      refine ⟨h1, by simp, fun a ha b hb2 => ?_⟩
      obtain ⟨j, hj, rfl⟩ := (h2 a).1 ha
      rw [List.mem_singleton] at hb2
      subst hb2
      exact hn j hj
     ·rw [List.mem_append, List.mem_singleton, h2]
      constructor
      ·rintro (⟨i, hi, rfl⟩ | rfl)
       ·exact ⟨i, by omega, rfl⟩
       ·exact ⟨m, by omega, rfl⟩
      ·rintro ⟨i, hi, rfl⟩
       by_cases e : i = m
       ·subst e; exact .inr rfl
       ·exact .inl ⟨i, by omega, rfl⟩
   | false =>
     have e : (List.filter (fstB S) [m]).map (fun i => L.getD i 0) = [] := by simp [hc]
     rw [e, List.append_nil]
     refine ⟨h1, fun x => ?_⟩
     rw [h2]
     constructor
     ·rintro ⟨i, hi, rfl⟩; exact ⟨i, by omega, rfl⟩
     ·rintro ⟨i, hi, rfl⟩
      by_cases e : i = m
      ·subst e
       have hne : ¬ ∀ j, j < i → L.getD j 0 ≠ L.getD i 0 := fun h => by rw [hf.2 h] at hc; cases hc
       apply Decidable.byContradiction
       intro hx
       exact hne fun j hj e2 => hx ⟨j, hj, e2⟩
      ·exact ⟨i, by omega, rfl⟩
theorem compacts (d : Array Nat) (hs : ∀ i j, i < j → j < d.size → d[i]! ≤ d[j]!) : ∀ m, m ≤ d.size →
 (Lib.compactUpTo d m).Nodup ∧ ∀ x, x ∈ Lib.compactUpTo d m ↔ ∃ i, i < m ∧ d[i]! = x
 | 0, _ => by simp [Lib.compactUpTo]
 | m + 1, hm => by
   obtain ⟨h1, h2⟩ := compacts d hs m (by omega)
   rw [Lib.compactUpTo_succ]
   cases hk : Lib.keeps d m with
   | true =>
     rw [if_pos rfl]
     refine ⟨?_, fun x => ?_⟩
     ·rw [List.nodup_append]
      refine ⟨h1, by simp, fun a ha b hb => ?_⟩
      obtain ⟨i, hi, rfl⟩ := (h2 a).1 ha
      rw [List.mem_singleton] at hb
      subst hb
      unfold Lib.keeps at hk
      rw [decide_eq_true_eq] at hk
      have hne : d[m]! ≠ d[m - 1]! := by rcases hk with hk | hk; omega; exact hk
      have h4 := hs (m - 1) m (by omega) (by omega)
      by_cases e : i = m - 1
      ·subst e; exact fun e => hne e.symm
      ·have h5 := hs i (m - 1) (by omega) (by omega)
       omega
     ·rw [List.mem_append, List.mem_singleton, h2]
      constructor
      ·rintro (⟨i, hi, rfl⟩ | rfl)
       ·exact ⟨i, by omega, rfl⟩
       ·exact ⟨m, by omega, rfl⟩
      ·rintro ⟨i, hi, rfl⟩
       by_cases e : i = m
       ·subst e; exact .inr rfl
       ·exact .inl ⟨i, by omega, rfl⟩
   | false =>
     rw [if_neg (by simp), List.append_nil]
     refine ⟨h1, fun x => ?_⟩
     rw [h2]
     constructor
     ·rintro ⟨i, hi, rfl⟩; exact ⟨i, by omega, rfl⟩
     ·rintro ⟨i, hi, rfl⟩
      by_cases e : i = m
      ·subst e
       have hne : ¬ (i = 0 ∨ d[i]! ≠ d[i - 1]!) := fun h => by
           have : Lib.keeps d i = true := by unfold Lib.keeps; rw [decide_eq_true_eq]; exact h
           rw [this] at hk; cases hk
       have h0 : i ≠ 0 := fun h => hne (.inl h)
       exact ⟨i - 1, by omega, (Decidable.byContradiction fun h => hne (.inr fun e => h e.symm))⟩
      ·exact ⟨i, by omega, rfl⟩
theorem compact_cls {p : Nat} {S : Nat → Nat → Bool} {L : List Nat} (hL : RW L) (hp : p ≤ 64) (hS : Closed p S) (hb : ∀ i j, bt L i j = (decide (i < p) && decide (j < p) && S i j))
 (d' : Array Nat) (hperm : d'.toList.Perm (L.take p)) (hs : ∀ i j, i < j → j < d'.size → d'[i]! ≤ d'[j]!) : (Lib.compactUpTo d' d'.size).length = nCls p S := by
 obtain ⟨h1, h2⟩ := firsts hL hS hb p (zL _)
 obtain ⟨h3, h4⟩ := compacts d' hs d'.size (zL _)
 have hmem : ∀ x, x ∈ Lib.compactUpTo d' d'.size ↔ x ∈ (((List.range p).filter (fstB S)).map fun i => L.getD i 0) := by
  intro x
  rw [h4, h2]
  have ha : (∃ i, i < d'.size ∧ d'[i]! = x) ↔ x ∈ d'.toList := by
   rw [List.mem_iff_getElem]
   constructor
   ·rintro ⟨i, hi, rfl⟩; exact ⟨i, by simpa using hi, by simp [hi]⟩
   ·rintro ⟨i, hi, rfl⟩; exact ⟨i, by simpa using hi, by simp at hi; simp [hi]⟩
  have hb2 : (∃ i, i < p ∧ L.getD i 0 = x) ↔ x ∈ L.take p := by
   rw [List.mem_iff_getElem]
   constructor
   ·rintro ⟨i, hi, rfl⟩
    have hl : i < L.length := by rw [hL.1]; omega
    exact ⟨i, by rw [List.length_take]; omega, by rw [List.getElem_take, List.getD_eq_getElem?_getD, List.getElem?_eq_getElem hl]; rfl⟩
   ·rintro ⟨i, hi, rfl⟩
    rw [List.length_take] at hi
    exact ⟨i, by omega, by rw [List.getElem_take, List.getD_eq_getElem?_getD, List.getElem?_eq_getElem (show i < L.length by omega)]; rfl⟩
  rw [ha, hb2, hperm.mem_iff]
 have := ((List.perm_ext_iff_of_nodup h3 h1).2 hmem).length_eq
 rw [this, List.length_map]; rfl
end RM
end Go.Proofs.YtnfndapgcpdcpaaGreatDoor
