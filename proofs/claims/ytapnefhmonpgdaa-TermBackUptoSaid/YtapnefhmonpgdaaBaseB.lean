/-
  The plain mathematics of relations on at most 64 points: rows of bits, paths, and the closure reached point by point. Conditions: none.
-/
import Derived.Test.YtapnefhmonpgdaaBaseA
import Derived.Laws.StructEq
import Derived.Deep.WholeRow
import Derived.Laws.CopyOwn
import Derived.StillTailTactics
import Derived.ChangeKeysEq
import Derived.Deep.MidRow
import Derived.Outline
import Derived.Deep.LoopGhost
import Derived.LoopTactic
import Derived.Deep.RegionHeld3
import Derived.Lib.SlicesCompact
import Derived.Sort.AssemblyPlain
set_option linter.unusedSimpArgs false
set_option linter.unusedVariables false
namespace Go.Proofs.Ytapnefhmonpgdaa.RM
open Go.Proofs.Ytapnefhmonpgdaa

/-- How many points there are. -/
def pts (n : Int) : Nat := if n < 0 then 0 else if 64 < n then 64 else n.toNat
set_option maxRecDepth 8000 in
theorem pts_neg {n : Int} (h : n < 0) : pts n = 0 := by simp [pts, h]
set_option maxRecDepth 8000 in
theorem pts_big {n : Int} (h : 64 < n) : pts n = 64 := by unfold pts; rw [if_neg (by omega), if_pos h]
set_option maxRecDepth 8000 in
theorem pts_in {n : Int} (h : 0 ≤ n) (h2 : n ≤ 64) : ((pts n : Nat) : Int) = n := by unfold pts; rw [if_neg (by omega), if_neg (by omega)]; omega
set_option maxRecDepth 8000 in
theorem pts_le (n : Int) : pts n ≤ 64 := by unfold pts; split <;> (try split) <;> omega
set_option maxRecDepth 8000 in
theorem pts_pts (n : Int) : pts ((pts n : Nat) : Int) = pts n := by have := pts_le n; generalize pts n = k at *; unfold pts; split <;> (try split) <;> omega
/-- 64 words. -/
def RW (l : List Nat) : Prop := l.length = 64 ∧ ∀ x ∈ l, x < 18446744073709551616
def zs : List Nat := List.replicate 64 0
set_option maxRecDepth 8000 in
theorem RW.zs : RW zs := ⟨by simp [Go.Proofs.Ytapnefhmonpgdaa.RM.zs], fun x hx => by simp [Go.Proofs.Ytapnefhmonpgdaa.RM.zs] at hx; omega⟩
set_option maxRecDepth 8000 in
theorem RW.lt {l : List Nat} (h : RW l) (i : Nat) : l.getD i 0 < 18446744073709551616 := by
  rw [List.getD_eq_getElem?_getD]
  cases hx : l[i]? with
  | none => simp
  | some x => exact h.2 x (List.mem_of_getElem? hx)
set_option maxRecDepth 8000 in
theorem RW.set {l : List Nat} (h : RW l) (i x : Nat) (hx : x < 18446744073709551616) : RW (l.set i x) :=
  ⟨by simp [h.1], fun y hy => by
    rcases List.mem_or_eq_of_mem_set hy with h1 | h1
    · exact h.2 y h1
    · omega⟩
/-- Bit j of row i. -/
def bt (l : List Nat) (i j : Nat) : Bool := (l.getD i 0).testBit j
set_option maxRecDepth 8000 in
theorem bt_zs (i j : Nat) : bt zs i j = false := by
  unfold bt zs
  rw [List.getD_eq_getElem?_getD]
  by_cases h : i < 64
  · rw [List.getElem?_eq_getElem (by simpa using h), List.getElem_replicate]; simp
  · rw [List.getElem?_eq_none (by simp; omega)]; simp
set_option maxRecDepth 8000 in
theorem bt_high {l : List Nat} (h : RW l) (i j : Nat) (hj : 64 ≤ j) : bt l i j = false := by
  unfold bt
  exact Nat.testBit_lt_two_pow (Nat.lt_of_lt_of_le (h.lt i) (Nat.pow_le_pow_right (show 0 < 2 by omega) hj))
set_option maxRecDepth 8000 in
theorem bt_far {l : List Nat} (h : RW l) (i j : Nat) (hi : 64 ≤ i) : bt l i j = false := by
  unfold bt
  rw [List.getD_eq_getElem?_getD, List.getElem?_eq_none (by rw [h.1]; exact hi)]
  simp
set_option maxRecDepth 8000 in
theorem getD_set {l : List Nat} (h : RW l) (i x a : Nat) (hi : i < 64) : (l.set i x).getD a 0 = if a = i then x else l.getD a 0 := by
  rw [List.getD_eq_getElem?_getD, List.getD_eq_getElem?_getD, List.getElem?_set]
  by_cases e : i = a
  · subst e
    rw [if_pos rfl, if_pos (by rw [h.1]; exact hi), if_pos rfl]; rfl
  · rw [if_neg e, if_neg (fun e' => e e'.symm)]
set_option maxRecDepth 8000 in
theorem bt_set {l : List Nat} (h : RW l) (i x a b : Nat) (hi : i < 64) : bt (l.set i x) a b = if a = i then x.testBit b else bt l a b := by
  unfold bt
  rw [getD_set h i x a hi]
  split <;> rfl
set_option maxRecDepth 8000 in
theorem rext {l m : List Nat} (h : RW l) (h2 : RW m) (he : ∀ i j, i < 64 → j < 64 → bt l i j = bt m i j) : l = m := by
  refine List.ext_getElem (by rw [h.1, h2.1]) fun i h1 h3 => ?_
  have hi : i < 64 := by rw [h.1] at h1; exact h1
  have e1 : l.getD i 0 = l[i] := by rw [List.getD_eq_getElem?_getD, List.getElem?_eq_getElem h1]; rfl
  have e2 : m.getD i 0 = m[i] := by rw [List.getD_eq_getElem?_getD, List.getElem?_eq_getElem h3]; rfl
  rw [← e1, ← e2]
  exact MM.ext64 (h.lt i) (h2.lt i) fun j hj => he i j hi hj
/-- The relation of p points that a test tells, without other bits. -/
def mkR (p : Nat) (R : Nat → Nat → Bool) : List Nat := (List.range 64).map fun i => MM.ofP (fun j => decide (i < p) && decide (j < p) && R i j) 64
set_option maxRecDepth 8000 in
theorem RW.mk (p : Nat) (R : Nat → Nat → Bool) : RW (mkR p R) := ⟨by simp [mkR], fun x hx => by
  simp only [mkR, List.mem_map] at hx
  obtain ⟨i, _, rfl⟩ := hx
  exact MM.ofP_lt _ _⟩
set_option maxRecDepth 8000 in
theorem bt_mk (p : Nat) (R : Nat → Nat → Bool) (i j : Nat) (hp : p ≤ 64) : bt (mkR p R) i j = (decide (i < p) && decide (j < p) && R i j) := by
  unfold bt mkR
  rw [List.getD_eq_getElem?_getD, List.getElem?_map]
  by_cases hi : i < 64
  · rw [List.getElem?_range hi]
    simp only [Option.map_some, Option.getD_some, MM.ofP_bit]
    by_cases hj : j < 64
    · simp [hj]
    · simp [hj, show ¬ j < p by omega]
  · rw [List.getElem?_eq_none (by simp; omega)]
    simp [show ¬ i < p by omega]
set_option maxRecDepth 8000 in
theorem mk_ext (p : Nat) (R S : Nat → Nat → Bool) (hp : p ≤ 64) (h : ∀ i j, i < p → j < p → R i j = S i j) : mkR p R = mkR p S :=
  rext (RW.mk _ _) (RW.mk _ _) fun i j _ _ => by
    rw [bt_mk _ _ _ _ hp, bt_mk _ _ _ _ hp]
    by_cases h1 : i < p
    · by_cases h2 : j < p
      · rw [h i j h1 h2]
      · simp [h2]
    · simp [h1]
set_option maxRecDepth 8000 in
/-- A list of rows that has the bits of a test is that test's relation. -/
theorem eq_mk {l : List Nat} (h : RW l) (p : Nat) (R : Nat → Nat → Bool) (hp : p ≤ 64) (he : ∀ i j, i < 64 → j < 64 → bt l i j = (decide (i < p) && decide (j < p) && R i j)) : l = mkR p R :=
  rext h (RW.mk _ _) fun i j hi hj => by rw [he i j hi hj, bt_mk _ _ _ _ hp]

/-- A way from i to j, step by step, through points. -/
inductive Path (p : Nat) (R : Nat → Nat → Bool) : Nat → Nat → Prop where
  | refl (i : Nat) (h : i < p) : Path p R i i
  | step (i k j : Nat) (h : Path p R i k) (hr : R k j = true) (hj : j < p) : Path p R i j
set_option maxRecDepth 8000 in
theorem Path.lt_right {p : Nat} {R : Nat → Nat → Bool} {i j : Nat} (h : Path p R i j) : j < p := by cases h <;> assumption
set_option maxRecDepth 8000 in
theorem Path.lt_left {p : Nat} {R : Nat → Nat → Bool} {i j : Nat} (h : Path p R i j) : i < p := by induction h <;> assumption
set_option maxRecDepth 8000 in
theorem Path.trans {p : Nat} {R : Nat → Nat → Bool} {i j k : Nat} (h : Path p R i j) (h2 : Path p R j k) : Path p R i k := by
  induction h2 with
  | refl => exact h
  | step k j _ hr hj ih => exact Path.step _ k j ih hr hj
set_option maxRecDepth 8000 in
theorem Path.one {p : Nat} {R : Nat → Nat → Bool} {i j : Nat} (hi : i < p) (hr : R i j = true) (hj : j < p) : Path p R i j := Path.step i i j (Path.refl i hi) hr hj
set_option maxRecDepth 8000 in
theorem Path.within {p : Nat} {R S : Nat → Nat → Bool} {i j : Nat} (h : Path p R i j) (hre : ∀ a, a < p → S a a = true) (htr : ∀ a b c, a < p → b < p → c < p → S a b = true → S b c = true → S a c = true)
    (hsub : ∀ a b, a < p → b < p → R a b = true → S a b = true) : S i j = true := by
  induction h with
  | refl h => exact hre _ h
  | step k j hp hr hj ih => exact htr _ k j hp.lt_left hp.lt_right hj ih (hsub k j hp.lt_right hj hr)

/-- What is related by ways through the points below k. -/
def war (R : Nat → Nat → Bool) : Nat → Nat → Nat → Bool
  | 0, i, j => R i j || decide (i = j)
  | k + 1, i, j => war R k i j || (war R k i k && war R k k j)
set_option maxRecDepth 8000 in
theorem war_zero (R : Nat → Nat → Bool) (i j : Nat) : war R 0 i j = (R i j || decide (i = j)) := rfl
set_option maxRecDepth 8000 in
theorem war_succ (R : Nat → Nat → Bool) (k i j : Nat) : war R (k + 1) i j = (war R k i j || (war R k i k && war R k k j)) := rfl
set_option maxRecDepth 8000 in
theorem war_at (R : Nat → Nat → Bool) (k j : Nat) : war R (k + 1) k j = war R k k j := by rw [war_succ]; cases war R k k j <;> simp
set_option maxRecDepth 8000 in
theorem war_to (R : Nat → Nat → Bool) (k i : Nat) : war R (k + 1) i k = war R k i k := by rw [war_succ]; cases war R k i k <;> simp
set_option maxRecDepth 8000 in
theorem war_path {p : Nat} {R : Nat → Nat → Bool} : ∀ (k i j : Nat), k ≤ p → i < p → j < p → war R k i j = true → Path p R i j
  | 0, i, j, _, hi, hj, h => by
    rw [war_zero, Bool.or_eq_true, decide_eq_true_eq] at h
    rcases h with h | rfl
    · exact Path.one hi h hj
    · exact Path.refl _ hi
  | k + 1, i, j, hk, hi, hj, h => by
    rw [war_succ, Bool.or_eq_true, Bool.and_eq_true] at h
    rcases h with h | ⟨h1, h2⟩
    · exact war_path k i j (by omega) hi hj h
    · exact (war_path k i k (by omega) hi (by omega) h1).trans (war_path k k j (by omega) (by omega) hj h2)
set_option maxRecDepth 8000 in
theorem war_trans {R : Nat → Nat → Bool} : ∀ (k i m j : Nat), m < k → war R k i m = true → war R k m j = true → war R k i j = true
  | 0, _, _, _, hm, _, _ => by omega
  | k + 1, i, m, j, hm, h1, h2 => by
    by_cases e : m = k
    · subst e
      rw [war_to] at h1
      rw [war_at] at h2
      rw [war_succ, h1, h2]; simp
    · have hlt : m < k := by omega
      rw [war_succ, Bool.or_eq_true, Bool.and_eq_true] at h1 h2 ⊢
      rcases h1 with h1 | ⟨h1, h3⟩ <;> rcases h2 with h2 | ⟨h2, h4⟩
      · exact .inl (war_trans k i m j hlt h1 h2)
      · exact .inr ⟨war_trans k i m k hlt h1 h2, h4⟩
      · exact .inr ⟨h1, war_trans k k m j hlt h3 h2⟩
      · exact .inr ⟨h1, h4⟩
set_option maxRecDepth 8000 in
theorem war_mono {R : Nat → Nat → Bool} {i j : Nat} (h : war R 0 i j = true) : ∀ k, war R k i j = true
  | 0 => h
  | k + 1 => by rw [war_succ, war_mono h k]; rfl
set_option maxRecDepth 8000 in
theorem path_war {p : Nat} {R : Nat → Nat → Bool} {i j : Nat} (h : Path p R i j) : war R p i j = true :=
  h.within (fun a _ => war_mono (by rw [war_zero]; simp) p) (fun _ _ _ _ hb _ => war_trans p _ _ _ hb) (fun a b _ _ hr => war_mono (by rw [war_zero, hr]; rfl) p)
/-- The closure, as a test. -/
def clo (p : Nat) (R : Nat → Nat → Bool) (i j : Nat) : Bool := decide (i < p) && decide (j < p) && war R p i j
set_option maxRecDepth 8000 in
theorem clo_iff {p : Nat} {R : Nat → Nat → Bool} {i j : Nat} : clo p R i j = true ↔ Path p R i j := by
  unfold clo
  simp only [Bool.and_eq_true, decide_eq_true_eq]
  exact ⟨fun ⟨⟨h1, h2⟩, h3⟩ => war_path p i j (Nat.le_refl _) h1 h2 h3, fun h => ⟨⟨h.lt_left, h.lt_right⟩, path_war h⟩⟩
set_option maxRecDepth 8000 in
theorem path_congr {p : Nat} {R S : Nat → Nat → Bool} (h : ∀ i j, i < p → j < p → R i j = S i j) {i j : Nat} (hp : Path p R i j) : Path p S i j := by
  induction hp with
  | refl h => exact Path.refl _ h
  | step k j hk hr hj ih => exact Path.step _ k j ih (by rw [← h k j hk.lt_right hj]; exact hr) hj
set_option maxRecDepth 8000 in
theorem clo_congr {p : Nat} {R S : Nat → Nat → Bool} (h : ∀ i j, i < p → j < p → R i j = S i j) (i j : Nat) : clo p R i j = clo p S i j := by
  rw [Bool.eq_iff_iff, clo_iff, clo_iff]
  exact ⟨path_congr h, path_congr fun a b ha hb => (h a b ha hb).symm⟩
/-- Closed: reflexive and transitive. -/
def Closed (p : Nat) (R : Nat → Nat → Bool) : Prop := (∀ a, a < p → R a a = true) ∧ ∀ a b c, a < p → b < p → c < p → R a b = true → R b c = true → R a c = true
set_option maxRecDepth 8000 in
theorem clo_closed (p : Nat) (R : Nat → Nat → Bool) : Closed p (clo p R) :=
  ⟨fun a ha => clo_iff.2 (Path.refl a ha), fun _ _ _ _ _ _ h1 h2 => clo_iff.2 ((clo_iff.1 h1).trans (clo_iff.1 h2))⟩
set_option maxRecDepth 8000 in
theorem clo_has {p : Nat} {R : Nat → Nat → Bool} {i j : Nat} (hi : i < p) (hj : j < p) (h : R i j = true) : clo p R i j = true := clo_iff.2 (Path.one hi h hj)
set_option maxRecDepth 8000 in
theorem clo_least {p : Nat} {R S : Nat → Nat → Bool} (hS : Closed p S) (hsub : ∀ a b, a < p → b < p → R a b = true → S a b = true) {i j : Nat} (h : clo p R i j = true) : S i j = true :=
  (clo_iff.1 h).within hS.1 hS.2 hsub
set_option maxRecDepth 8000 in
theorem clo_self {p : Nat} {R : Nat → Nat → Bool} (h : Closed p R) {i j : Nat} (hi : i < p) (hj : j < p) : clo p R i j = R i j := by
  rw [Bool.eq_iff_iff]
  exact ⟨clo_least h fun _ _ _ _ h => h, clo_has hi hj⟩

/-- A relation without its other bits; its closure. -/
def cl (n : Int) (l : List Nat) : List Nat := mkR (pts n) (bt l)
def cz (n : Int) (l : List Nat) : List Nat := mkR (pts n) (clo (pts n) (bt l))
set_option maxRecDepth 8000 in
theorem bt_cl (n : Int) (l : List Nat) (i j : Nat) : bt (cl n l) i j = (decide (i < pts n) && decide (j < pts n) && bt l i j) := bt_mk _ _ _ _ (pts_le n)
set_option maxRecDepth 8000 in
theorem bt_cz (n : Int) (l : List Nat) (i j : Nat) : bt (cz n l) i j = clo (pts n) (bt l) i j := by
  unfold cz
  rw [bt_mk _ _ _ _ (pts_le n)]
  unfold clo
  cases decide (i < pts n) <;> cases decide (j < pts n) <;> simp
set_option maxRecDepth 8000 in
theorem cl_cl (n : Int) (l : List Nat) : cl (pts n) (cl n l) = cl n l := by
  unfold cl
  rw [pts_pts]
  exact mk_ext _ _ _ (pts_le n) fun i j hi hj => by rw [bt_mk _ _ _ _ (pts_le n)]; simp [hi, hj]
set_option maxRecDepth 8000 in
theorem cz_cl (n : Int) (l : List Nat) : cz (pts n) (cl n l) = cz n l := by
  unfold cz
  rw [pts_pts]
  exact mk_ext _ _ _ (pts_le n) fun i j _ _ => clo_congr (fun a b ha hb => by rw [bt_cl]; simp [ha, hb]) i j
set_option maxRecDepth 8000 in
theorem cl_cz (n : Int) (l : List Nat) : cl (pts n) (cz n l) = cz n l := by
  refine rext (RW.mk _ _) (RW.mk _ _) fun i j _ _ => ?_
  rw [bt_cl, pts_pts, bt_cz]
  unfold clo
  cases decide (i < pts n) <;> cases decide (j < pts n) <;> simp
set_option maxRecDepth 8000 in
theorem cz_cz (n : Int) (l : List Nat) : cz (pts n) (cz n l) = cz n l := by
  refine rext (RW.mk _ _) (RW.mk _ _) fun i j _ _ => ?_
  rw [bt_cz, pts_pts, bt_cz]
  by_cases hi : i < pts n
  · by_cases hj : j < pts n
    · rw [clo_congr (S := clo (pts n) (bt l)) (fun a b _ _ => bt_cz n l a b), clo_self (clo_closed _ _) hi hj]
    · simp [clo, hj]
  · simp [clo, hi]
set_option maxRecDepth 8000 in
/-- Closed, as a test: the relation is its closure. -/
theorem closed_iff (n : Int) (l : List Nat) : cl n l = cz n l ↔ Closed (pts n) (bt l) := by
  constructor
  · intro h
    have hb : ∀ i j, i < pts n → j < pts n → bt l i j = clo (pts n) (bt l) i j := fun i j hi hj => by
      rw [← bt_cz, ← h, bt_cl]; simp [hi, hj]
    refine ⟨fun a ha => by rw [hb a a ha ha]; exact (clo_closed _ _).1 a ha, fun a b c ha hb' hc h1 h2 => ?_⟩
    rw [hb _ _ ha hb'] at h1
    rw [hb _ _ hb' hc] at h2
    rw [hb _ _ ha hc]
    exact (clo_closed _ _).2 a b c ha hb' hc h1 h2
  · intro h
    exact mk_ext _ _ _ (pts_le n) fun i j hi hj => (clo_self h hi hj).symm
end Go.Proofs.Ytapnefhmonpgdaa.RM

/-
  Relations as values and in memory: a number and 64 words. Conditions: none.
-/
namespace Go.Proofs.Ytapnefhmonpgdaa
open Go.RowKit RM

/-- The cells of a relation: N, then the rows. -/
def rv (n : Int) (l : List Nat) : Array Value := (Value.int .i64 n :: l.map fun x : Nat => Value.int .u64 (x : Int)).toArray
/-- The cells of an array of rows. -/
def uv (l : List Nat) : Array Value := (l.map fun x : Nat => Value.int .u64 (x : Int)).toArray
set_option maxRecDepth 8000 in
theorem rv_size (n : Int) {l : List Nat} (h : RW l) : (rv n l).size = 65 := by simp [rv, h.1]
set_option maxRecDepth 8000 in
theorem uv_size {l : List Nat} (h : RW l) : (uv l).size = 64 := by simp [uv, h.1]
set_option maxRecDepth 8000 in
theorem rv_0 (n : Int) (l : List Nat) : (rv n l)[0]? = some (.int .i64 n) := by simp [rv]
set_option maxRecDepth 8000 in
theorem rv_succ (n : Int) {l : List Nat} (h : RW l) (i : Nat) (hi : i < 64) : (rv n l)[1 + i]? = some (.int .u64 ((l.getD i 0 : Nat) : Int)) := by
  have : i < l.length := by rw [h.1]; exact hi
  rw [Nat.add_comm]
  simp [rv, List.getD_eq_getElem?_getD, List.getElem?_eq_getElem this]
set_option maxRecDepth 8000 in
theorem uv_at {l : List Nat} (h : RW l) (i : Nat) (hi : i < 64) : (uv l)[i]? = some (.int .u64 ((l.getD i 0 : Nat) : Int)) := by
  have : i < l.length := by rw [h.1]; exact hi
  simp [uv, List.getD_eq_getElem?_getD, List.getElem?_eq_getElem this]
set_option maxRecDepth 8000 in
theorem rv_one (n : Int) (l : List Nat) : (rv n l).all (·.oneCell') = true := by
  rw [Array.all_eq_true_iff_forall_mem]
  intro v hv
  simp only [rv, List.mem_toArray, List.mem_cons, List.mem_map] at hv
  rcases hv with rfl | ⟨x, _, rfl⟩ <;> rfl
set_option maxRecDepth 8000 in
theorem uv_one (l : List Nat) : (uv l).all (·.oneCell') = true := by
  rw [Array.all_eq_true_iff_forall_mem]
  intro v hv
  simp only [uv, List.mem_toArray, List.mem_map] at hv
  rcases hv with ⟨x, _, rfl⟩; rfl
set_option maxRecDepth 8000 in
theorem rv_set (n : Int) (l : List Nat) (i x : Nat) : (rv n l).setIfInBounds (1 + i) (.int .u64 (x : Int)) = rv n (l.set i x) := by
  rw [Nat.add_comm]
  simp [rv, List.map_set]
set_option maxRecDepth 8000 in
theorem uv_set (l : List Nat) (i x : Nat) : (uv l).setIfInBounds i (.int .u64 (x : Int)) = uv (l.set i x) := by
  simp [uv, List.map_set]
set_option maxRecDepth 8000 in
theorem rv_setN (n m : Int) (l : List Nat) : (rv n l).setIfInBounds 0 (.int .i64 m) = rv m l := by simp [rv]
set_option maxRecDepth 8000 in
theorem rv_rows (n : Int) {l : List Nat} (h : RW l) : (rv n l).extract 1 65 = uv l := by
  have := h.1
  simp only [rv, uv, List.extract_toArray, List.extract_eq_take_drop, List.drop_succ_cons, List.drop_zero]
  rw [List.take_of_length_le (by simp [this])]
set_option maxRecDepth 8000 in
theorem rv_inj {n m : Int} {l k : List Nat} : rv n l = rv m k ↔ n = m ∧ l = k := by
  constructor
  · intro h
    have h2 : (Value.int .i64 n :: l.map fun x : Nat => Value.int .u64 (x : Int)) = (Value.int .i64 m :: k.map fun x : Nat => Value.int .u64 (x : Int)) := by
      simpa [rv] using h
    simp only [List.cons.injEq, Value.int.injEq, true_and] at h2
    refine ⟨h2.1, ?_⟩
    have h3 := h2.2
    exact (List.map_inj_right fun a b hab => by
      simp only [Value.int.injEq, true_and] at hab
      omega).1 h3
  · rintro ⟨rfl, rfl⟩; rfl
section
variable {w w' : World} {g : Nat} {n : Int} {l : List Nat}
end

/-- The world but for one block. -/
structure Else (g : Nat) (w w' : World) : Prop where
  os : w'.os = w.os
  tape : w'.tape = w.tape
  output : w'.output = w.output
  size : w'.heap.size = w.heap.size
  block : ∀ k, k ≠ g → w'.heap[k]? = w.heap[k]?
section
variable {w w' : World} {g q B : Nat} {n : Int} {l : List Nat}
set_option maxRecDepth 8000 in
theorem Else.setRow (w : World) (g : Nat) (cs : Array Value) : Else g w (w.setRow g cs) := ⟨rfl, rfl, rfl, by simp, fun k hk => setRow_other w g k cs hk⟩
set_option maxRecDepth 8000 in
theorem Else.setCell (w : World) (p : Addr) (u : Value) : Else p.block w (w.setCell p u) :=
  ⟨rfl, rfl, rfl, by simp [World.setCell], fun k hk => by simp only [World.setCell, Array.getElem?_modify, if_neg (show p.block ≠ k from fun e => hk e.symm)]⟩
set_option maxRecDepth 8000 in
theorem Else.below (h : Else g w w') (hB : B ≤ g) : Below B w w' := ⟨h.os, h.tape, h.output, by rw [h.size]; exact Nat.le_refl _, fun k hk => h.block k (by omega)⟩
set_option maxRecDepth 8000 in
theorem Box.other {t : TypeId} {v : Value} (hr : Box w q t v) (h : Else g w w') (hq : q ≠ g) : Box w' q t v := (h.block q hq).trans hr
end
/-- Old blocks but for one are as they were. -/
structure Mut (g : Nat) (w w' : World) : Prop where
  os : w'.os = w.os
  tape : w'.tape = w.tape
  output : w'.output = w.output
  size : w.heap.size ≤ w'.heap.size
  block : ∀ k, k < w.heap.size → k ≠ g → w'.heap[k]? = w.heap[k]?
section
variable {w w' w2 : World} {g q B : Nat} {n : Int} {l : List Nat}
set_option maxRecDepth 8000 in
theorem Mut.refl (g : Nat) (w : World) : Mut g w w := ⟨rfl, rfl, rfl, Nat.le_refl _, fun _ _ _ => rfl⟩
set_option maxRecDepth 8000 in
theorem Mut.of_below (h : Below w.heap.size w w') (g : Nat) : Mut g w w' := ⟨h.os, h.tape, h.output, h.size, fun k hk _ => h.block k hk⟩
set_option maxRecDepth 8000 in
theorem Mut.of_else (h : Else g w w') : Mut g w w' := ⟨h.os, h.tape, h.output, by rw [h.size]; exact Nat.le_refl _, fun k _ hk => h.block k hk⟩
set_option maxRecDepth 8000 in
theorem Mut.of_set (w : World) (g o : Nat) (u : Value) : Mut g w (w.setCell ⟨g, o, none⟩ u) := Mut.of_else (Else.setCell w ⟨g, o, none⟩ u)
set_option maxRecDepth 8000 in
theorem Mut.drewN (h : Mut g w w') (k : Nat) : Mut g w (w'.drewN k) := ⟨h.os, h.tape, h.output, h.size, h.block⟩
set_option maxRecDepth 8000 in
theorem Mut.drew (h : Mut g w w') : Mut g w w'.drew := ⟨h.os, h.tape, h.output, h.size, h.block⟩
set_option maxRecDepth 8000 in
theorem Mut.trans (h : Mut g w w') (h2 : Mut g w' w2) : Mut g w w2 := ⟨h2.os.trans h.os, h2.tape.trans h.tape, h2.output.trans h.output, Nat.le_trans h.size h2.size, fun k hk hg => (h2.block k (Nat.lt_of_lt_of_le hk h.size) hg).trans (h.block k hk hg)⟩
set_option maxRecDepth 8000 in
theorem Mut.below (h : Mut g w w') (hB : B ≤ g) (hs : B ≤ w.heap.size) : Below B w w' := ⟨h.os, h.tape, h.output, h.size, fun k hk => h.block k (by omega) (by omega)⟩
set_option maxRecDepth 8000 in
theorem Box.mut {t : TypeId} {v : Value} (hr : Box w q t v) (h : Mut g w w') (hq : q ≠ g) : Box w' q t v := (h.block q hr.lt hq).trans hr
set_option maxRecDepth 8000 in
theorem cell_mut {p : Addr} {v : Value} (hc : w.cell? p = some v) (h : Mut g w w') (hp : p.block ≠ g) : w'.cell? p = some v := by
  have := h.block p.block (World.block_lt_of_cell? w p hc) hp
  rw [← hc]
  unfold World.cell?
  rw [this]
end
set_option maxRecDepth 8000 in
theorem still_of {P : Program} {f : FuncId} {args : Array Value} {w : World} {v : Value} (h : Calls P f args w fun e w' => e = .returned v ∧ w = w') : Calls P f args w fun e w'' => e = .returned v ∧ w'' = w := h.mono fun _ _ ⟨he, hw⟩ => ⟨he, hw.symm⟩
set_option maxRecDepth 8000 in
theorem bcell {W w1 : World} {B : Nat} (hb : Below B W w1) : (∀ b o, b < B → w1.cell? ⟨b, o, none⟩ = W.cell? ⟨b, o, none⟩) ∧ (∀ b o, b < B → w1.frozen? ⟨b, o, none⟩ = W.frozen? ⟨b, o, none⟩) :=
  ⟨fun b o h => hb.cell (p := ⟨b, o, none⟩) h, fun b o h => hb.frozen (p := ⟨b, o, none⟩) h⟩

section
variable {ops : Array Oper} {rest : List Oper} {o : Oper} {a : Act} {w : World} {Q : Exit → Act → World → Prop}
set_option maxRecDepth 8000 in
theorem wpList_wanted {P : Program} (hw : Region.wanted o (yielded ops a.tmps) = true) (h : ∀ K : Act → World → Prop, (∀ a w, wpList P ops Q rest a w → K a w) → o.wp P a w K Q) : wpList P ops Q (o :: rest) a w :=
  wpList_step fun K hK => by simp only [hw, if_true]; exact h K hK
end
/-! Parts of a relation's value, and equality. -/
set_option maxRecDepth 8000 in
theorem run_part_one {cs : Array Value} {off : Nat} {v : Value} (h : cs[off]? = some v) (w : World) : (part 3 cs off).run Try.prog w = .ok v w := by
  unfold part
  rw [Sem.run_bind, Try.isAgg3]
  simp [h]
/-- Equality of two relations' values, as a test. -/
def eqRel (n m : Int) (l k : List Nat) : Bool := decide (n = m) && decide (l = k)
set_option maxRecDepth 8000 in
theorem eqRel_true {n m : Int} {l k : List Nat} (h : n = m) (h2 : l = k) : eqRel n m l k = true := by simp [eqRel, h, h2]
end Go.Proofs.Ytapnefhmonpgdaa

/-
  A block of the call's own with given cells. Conditions: none.
-/
namespace Go.Proofs.Ytapnefhmonpgdaa
open Go.RowKit

/-- A block whose cells are these. -/
def RowAt (w : World) (g : Nat) (t : TypeId) (cs : Array Value) : Prop := w.heap[g]? = some (.cells cs t (0, 0))
section
variable {w w' : World} {g q B : Nat} {t : TypeId} {cs : Array Value}
set_option maxRecDepth 8000 in
theorem RowAt.lt (h : RowAt w g t cs) : g < w.heap.size := (Array.getElem?_eq_some_iff.1 h).1
set_option maxRecDepth 8000 in
theorem RowAt.cell (h : RowAt w g t cs) (j : Nat) : w.cell? ⟨g, j, none⟩ = cs[j]? := cell_of_row w g j cs t (0, 0) h
set_option maxRecDepth 8000 in
theorem RowAt.free (h : RowAt w g t cs) (o : Nat) : w.frozen? ⟨g, o, none⟩ = false := by unfold RowAt at h; simp [World.frozen?, h]
set_option maxRecDepth 8000 in
theorem RowAt.new (w : World) (t : TypeId) (cs : Array Value) : RowAt (w.alloc (.cells cs t)) w.heap.size t cs := heap_alloc_new w _
set_option maxRecDepth 8000 in
theorem RowAt.alloc (h : RowAt w g t cs) (o : Obj) : RowAt (w.alloc o) g t cs := (heap_alloc_old w o h.lt).trans h
set_option maxRecDepth 8000 in
theorem RowAt.drewN (h : RowAt w g t cs) (k : Nat) : RowAt (w.drewN k) g t cs := h
set_option maxRecDepth 8000 in
theorem RowAt.drew (h : RowAt w g t cs) : RowAt w.drew g t cs := h
set_option maxRecDepth 8000 in
theorem RowAt.below (h : RowAt w g t cs) (hb : Below B w w') (hg : g < B) : RowAt w' g t cs := (hb.block g hg).trans h
set_option maxRecDepth 8000 in
theorem RowAt.grown {row : Option Nat} (h : RowAt w g t cs) (hb : w.grownBy w' row) (hg : row ≠ some g) : RowAt w' g t cs := (hb.block g h.lt (fun e => hg e.symm)).trans h
set_option maxRecDepth 8000 in
theorem RowAt.other (h : RowAt w q t cs) (he : Else g w w') (hq : q ≠ g) : RowAt w' q t cs := (he.block q hq).trans h
set_option maxRecDepth 8000 in
theorem RowAt.mut (h : RowAt w q t cs) (hm : Mut g w w') (hq : q ≠ g) : RowAt w' q t cs := (hm.block q h.lt hq).trans h
set_option maxRecDepth 8000 in
theorem RowAt.put (h : RowAt w g t cs) (i : Nat) (u : Value) : RowAt (w.setCell ⟨g, i, none⟩ u) g t (cs.setIfInBounds i u) := by
  unfold RowAt at h ⊢
  simp [World.setCell, Array.getElem?_modify, h]
set_option maxRecDepth 8000 in
theorem RowAt.far (h : RowAt w g t cs) {p : Addr} (hp : p.block ≠ g) (u : Value) : RowAt (w.setCell p u) g t cs := by
  unfold RowAt at h ⊢
  simp only [World.setCell, Array.getElem?_modify, if_neg hp]
  exact h
set_option maxRecDepth 8000 in
theorem RowAt.setRow (h : RowAt w g t cs) (ds : Array Value) : RowAt (w.setRow g ds) g t ds := setRow_heap w g _ _ _ _ h
set_option maxRecDepth 8000 in
theorem RowAt.range (h : RowAt w g t cs) (o : Nat) (ds : List Value) (hd : ∀ j u, ds[j]? = some u → cs[o + j]? = some u) : w.rangeAt g o ds := fun j v hv => (h.cell (o + j)).trans (hd j v hv)
set_option maxRecDepth 8000 in
theorem range_below {b o : Nat} {ds : List Value} (h : w.rangeAt b o ds) (hb : Below B w w') (hg : b < B) : w'.rangeAt b o ds := fun j v hv => (hb.cell (p := ⟨b, o + j, none⟩) hg).trans (h j v hv)
end
set_option maxRecDepth 8000 in
/-- What a region may be told of the worlds that come: a block with its cells, and that what was there before the call is as it was. -/
theorem ex_row (B g : Nat) (t : TypeId) (cs : Array Value) (w0 w : World) (h1 : RowAt w g t cs) (hb : Below B w0 w) :
    ∃ S : World → Prop, Hid (S w.drew) ∧ Hid (∀ w', S w' → RowAt w' g t cs) ∧ Hid (∀ w', S w' → Below B w0 w') ∧ Hid (B ≤ w.heap.size → ∀ wa wb, S wa → Below wa.heap.size wa wb → S wb) :=
  ⟨fun w' => RowAt w' g t cs ∧ Below B w0 w' ∧ w.heap.size ≤ w'.heap.size, ⟨h1, hb.drew, Nat.le_refl _⟩, fun _ h => h.1, fun _ h => h.2.1,
    fun hB _ _ h hb => ⟨h.1.below hb h.1.lt, h.2.1.trans (hb.mono (Nat.le_trans hB h.2.2)), Nat.le_trans h.2.2 hb.size⟩⟩
end Go.Proofs.Ytapnefhmonpgdaa

/-
  What New, point and Has of package relate return. Conditions: 64 words below 2^64.
-/
namespace Go.Proofs.Ytapnefhmonpgdaa
open Go.RowKit RM

/-- Is it a point? -/
def isPt (n i : Int) : Bool := decide (0 ≤ i) && decide (i < (pts n : Int))
set_option maxRecDepth 8000 in
theorem isPt_true {n i : Int} (h0 : 0 ≤ i) (h : i < (pts n : Int)) : isPt n i = true := by simp [isPt, h0, h]
end Go.Proofs.Ytapnefhmonpgdaa

/-
  What Has, add, clean and With of package relate return. Conditions: 64 words below 2^64.
-/
namespace Go.Proofs.Ytapnefhmonpgdaa
open Go.RowKit RM

set_option maxRecDepth 8000 in
theorem isPt_iff {n i : Int} : isPt n i = true ↔ 0 ≤ i ∧ i < (pts n : Int) := by simp [isPt]
set_option maxRecDepth 8000 in
theorem isPt_nat (n : Int) (i : Nat) : isPt n (i : Int) = decide (i < pts n) := by rw [Bool.eq_iff_iff, isPt_iff]; simp
/-- Is i below j? -/
def hasR (n : Int) (l : List Nat) (i j : Int) : Bool := isPt n i && isPt n j && bt l i.toNat j.toNat
/-- What add makes of the rows. -/
def addR (n : Int) (l : List Nat) (i j : Int) : List Nat := if isPt n i && isPt n j then l.set i.toNat (MM.withN (l.getD i.toNat 0) j) else l
set_option maxRecDepth 8000 in
theorem addR_no {n : Int} {l : List Nat} {i j : Int} (h : (isPt n i && isPt n j) = false) : addR n l i j = l := by unfold addR; rw [h]; simp
set_option maxRecDepth 8000 in
theorem rw_addR {l : List Nat} (h : RW l) (n i j : Int) : RW (addR n l i j) := by
  unfold addR
  split
  · exact h.set _ _ (MM.withN_lt (h.lt _) _)
  · exact h
set_option maxRecDepth 8000 in
theorem bt_addR {l : List Nat} (h : RW l) (n i j : Int) (a b : Nat) : bt (addR n l i j) a b = (bt l a b || (isPt n i && isPt n j && decide (i = (a : Int)) && decide (j = (b : Int)))) := by
  unfold addR
  have hp := pts_le n
  cases hi : isPt n i with
  | false => simp
  | true =>
    cases hj : isPt n j with
    | false => simp
    | true =>
      obtain ⟨h0, h1⟩ := isPt_iff.1 hi
      obtain ⟨h2, h3⟩ := isPt_iff.1 hj
      simp only [Bool.and_self, if_true, Bool.true_and]
      rw [bt_set h _ _ _ _ (by omega), MM.withN_bit]
      by_cases e : a = i.toNat
      · subst e
        rw [if_pos rfl]
        have : decide (i = (i.toNat : Int)) = true := by simp; omega
        rw [this]
        unfold bt
        congr 1
        rw [Bool.eq_iff_iff]
        simp; omega
      · rw [if_neg e]
        have : decide (i = (a : Int)) = false := by simp; omega
        rw [this]; simp
end Go.Proofs.Ytapnefhmonpgdaa

/-
  What clean of package relate returns. Conditions: 64 words below 2^64.
-/
namespace Go.Proofs.Ytapnefhmonpgdaa
open Go.RowKit RM

set_option maxRecDepth 8000 in
theorem belowN_bit (n : Int) (j : Nat) : (MM.belowN n).testBit j = (decide (j < 64) && decide ((j : Int) < n)) := MM.ofP_bit _ _ _
set_option maxRecDepth 8000 in
theorem belowN_lt (n : Int) : MM.belowN n < 18446744073709551616 := MM.ofP_lt _ _
set_option maxRecDepth 8000 in
theorem clean_step {l m : List Nat} (hm : RW m) (k p : Nat) (hk : k < p) (hp : p ≤ 64) (x : Nat) (hx : x = l.getD k 0)
    (h : ∀ i j, bt m i j = (decide (i < k) && decide (j < p) && bt l i j)) : ∀ i j, bt (m.set k (x &&& MM.belowN (p : Int))) i j = (decide (i < k + 1) && decide (j < p) && bt l i j) := by
  intro i j
  rw [bt_set hm _ _ _ _ (by omega), Nat.testBit_and, belowN_bit]
  by_cases e : i = k
  · subst e
    rw [if_pos rfl, hx]
    show (bt l i j && _) = _
    by_cases hj : j < p
    · simp [hj, show j < 64 by omega]
    · simp [hj]
  · rw [if_neg e, h]
    have : decide (i < k + 1) = decide (i < k) := by rw [Bool.eq_iff_iff]; simp; omega
    rw [this]
set_option maxRecDepth 8000 in
theorem clean_end {l m : List Nat} (n : Int) (hm : RW m) (h : ∀ i j, bt m i j = (decide (i < pts n) && decide (j < pts n) && bt l i j)) : m = cl n l :=
  eq_mk hm _ _ (pts_le n) fun i j _ _ => h i j

end Go.Proofs.Ytapnefhmonpgdaa

/-
  A region that draws its order, walked in ONE order that is given: each operation is taken first (it yields its value in every world that meets S, or isn't wanted), or comes up alone (a call). Conditions: the order is checked by the kernel.
-/
namespace Go.Proofs.Ytapnefhmonpgdaa
section
variable {P : Program} {ops : Array Oper} {Q : Exit → Act → World → Prop} {S : World → Prop}

/-- The order: number and 'taken first?'. -/
def ordB (ops : Array Oper) : List (Nat × Bool) → Array Bool → Bool
  | [], listed => decide (Region.ready .any ops listed = [])
  | (i, true) :: r, listed => (Region.ready .any ops listed).contains i && Region.free .any ops listed i && ordB ops r (listed.setIfInBounds i true)
  | (i, false) :: r, listed => decide (Region.ready .any ops listed = [i]) && ordB ops r (listed.setIfInBounds i true)
def wpOrd (P : Program) (ops : Array Oper) (Q : Exit → Act → World → Prop) (S : World → Prop) : List (Nat × Bool) → Act → World → Prop
  | [], a, w => Q .normal a w
  | (i, true) :: r, a, w => ∃ o v, ops[i]? = some o ∧ YieldsIf P ops S o v a ∧ wpOrd P ops Q S r (a.put o.dst v) w
  | (i, false) :: r, a, w => wpOp P ops Q i (fun a' w' => S w' ∧ wpOrd P ops Q S r a' w') a w
set_option maxRecDepth 8000 in
theorem wpAnyH_of_ord (hsel : Region.noSelect ops = true) (hQ : ∀ c (a : Act) d v w, Q (.panic c) (a.put d v) w → Q (.panic c) a w) :
    ∀ (r : List (Nat × Bool)) (listed : Array Bool) (a : Act) (w : World), ordB ops r listed = true → S w → wpOrd P ops Q S r a w → wpAnyH P .any ops Q S r.length listed a w
  | [], listed, a, w, hB, _, h => wpAnyH_done (by simpa [ordB] using hB) h _
  | (i, true) :: r, listed, a, w, hB, hS, h => by
    simp only [ordB, Bool.and_eq_true] at hB
    obtain ⟨o, v, ho, hy, hr⟩ := h
    exact wpAnyH_take ho hsel hB.1.2 hB.1.1 (fun c a w => hQ c a _ _ w) hy hS (wpAnyH_of_ord hsel hQ r _ _ _ hB.2 hS hr)
  | (i, false) :: r, listed, a, w, hB, hS, h => by
    simp only [ordB, Bool.and_eq_true, decide_eq_true_eq] at hB
    refine wpAnyH_all hB.1 (by simp) fun j hj => ?_
    have hji : j = i := by simpa using hj
    subst hji
    exact wpOp_mono (fun a' w' h' => ⟨h'.1, wpAnyH_of_ord hsel hQ r _ _ _ hB.2 h'.1 h'.2⟩) h
set_option maxRecDepth 8000 in
theorem wp_region_ord {id : Nat} {a : Act} {w : World} (S : World → Prop) (r : List (Nat × Bool)) (hm : P.follows .mixedOrders = true) (hsel : Region.noSelect ops = true) (hl : r.length = ops.size)
    (hB : ordB ops r (Array.replicate ops.size false) = true)
    (hS : S w.drew) (h : wpOrd P ops (NoPanic Q) S r a w.drew) : (Code.region id ops true).wp P Q a w := by
  have h2 := wpAnyH_of_ord (Q := NoPanic Q) hsel (fun _ _ _ _ _ h => h) r _ a _ hB hS h
  rw [hl] at h2
  exact wp_region_noPanic (wp_region_held hm h2)
set_option maxRecDepth 8000 in
theorem wpOrd_done {a : Act} {w : World} (h : Q .normal a w) : wpOrd P ops (NoPanic Q) S [] a w := h
set_option maxRecDepth 8000 in
theorem wpOrd_step {i : Nat} {r : List (Nat × Bool)} {o : Oper} {a : Act} {w : World} (ho : ops[i]? = some o)
    (h : (Region.wanted o (yielded ops a.tmps) = false ∧ wpOrd P ops Q S r (a.put o.dst undef) w) ∨
      (Region.wanted o (yielded ops a.tmps) = true ∧ ∃ v, (∀ w, S w → (execOp a.eval o).run P w = .ok (.value v) w) ∧ wpOrd P ops Q S r (a.put o.dst v) w)) : wpOrd P ops Q S ((i, true) :: r) a w := by
  rcases h with ⟨h1, h2⟩ | ⟨h1, v, h2, h3⟩
  · exact ⟨o, undef, ho, .inr ⟨h1, rfl⟩, h2⟩
  · exact ⟨o, v, ho, .inl ⟨h1, h2⟩, h3⟩
set_option maxRecDepth 8000 in
theorem wpOrd_skip {r : List (Nat × Bool)} {o : Oper} {a : Act} {w : World} {p : Prop} (hw : Region.wanted o (yielded ops a.tmps) = false)
    (h : wpOrd P ops Q S r (a.put o.dst undef) w) : (Region.wanted o (yielded ops a.tmps) = false ∧ wpOrd P ops Q S r (a.put o.dst undef) w) ∨ p := .inl ⟨hw, h⟩
set_option maxRecDepth 8000 in
theorem wpOrd_take {r : List (Nat × Bool)} {o : Oper} {v : Value} {a : Act} {w : World} {p : Prop} (hw : Region.wanted o (yielded ops a.tmps) = true)
    (hy : ∀ w, S w → (execOp a.eval o).run P w = .ok (.value v) w) (h : wpOrd P ops Q S r (a.put o.dst v) w) :
    p ∨ (Region.wanted o (yielded ops a.tmps) = true ∧ ∃ v, (∀ w, S w → (execOp a.eval o).run P w = .ok (.value v) w) ∧ wpOrd P ops Q S r (a.put o.dst v) w) := .inr ⟨hw, v, hy, h⟩
set_option maxRecDepth 8000 in
theorem wpOrd_solo {i : Nat} {r : List (Nat × Bool)} {o : Oper} {a : Act} {w : World} (ho : ops[i]? = some o)
    (h : ∀ K' : Act → World → Prop, Shut (∀ a w, S w → wpOrd P ops Q S r a w → K' a w) → if Region.wanted o (yielded ops a.tmps) = true then Oper.wp P o a w K' Q else K' (a.put o.dst undef) w) :
    wpOrd P ops Q S ((i, false) :: r) a w := wpOp_step ho fun K' hK => h K' fun a w hS hW => hK a w ⟨hS, hW⟩
end
end Go.Proofs.Ytapnefhmonpgdaa

/-
  Operations on whole relations inside a region that draws its order; Same. Conditions: 64 words below 2^64.
-/
namespace Go.Proofs.Ytapnefhmonpgdaa
open Go.RowKit RM

section
variable {o : Oper} {a : Act} {S : World → Prop}
end

end Go.Proofs.Ytapnefhmonpgdaa

/-
  What With and Closure of package relate return. Conditions: 64 words below 2^64.
-/
namespace Go.Proofs.Ytapnefhmonpgdaa
open Go.RowKit RM

/-- One row of a round of the closure. -/
def warB (R : Nat → Nat → Bool) (p k i : Nat) (a b : Nat) : Bool := decide (a < p) && decide (b < p) && (if a < i then war R (k + 1) a b else war R k a b)
set_option maxRecDepth 8000 in
theorem warB_zero (R : Nat → Nat → Bool) (p k a b : Nat) : warB R p k 0 a b = (decide (a < p) && decide (b < p) && war R k a b) := by simp [warB]
set_option maxRecDepth 8000 in
theorem warB_end (R : Nat → Nat → Bool) (p k a b : Nat) : warB R p k p a b = (decide (a < p) && decide (b < p) && war R (k + 1) a b) := by
  unfold warB
  by_cases h : a < p
  · simp [h]
  · simp [h]
set_option maxRecDepth 8000 in
theorem warB_keep {R : Nat → Nat → Bool} {p k i : Nat} {m : List Nat} (h : ∀ a b, bt m a b = warB R p k i a b) (hi : i < p) (hk : k < p) (hf : (m.getD i 0).testBit k = false) : ∀ a b, bt m a b = warB R p k (i + 1) a b := by
  intro a b
  rw [h]
  unfold warB
  by_cases e : a = i
  · subst e
    have h1 : bt m a k = false := hf
    rw [h] at h1
    unfold warB at h1
    simp only [hi, hk, decide_true, Bool.true_and, Nat.lt_irrefl, if_false] at h1
    rw [if_neg (Nat.lt_irrefl _), if_pos (Nat.lt_succ_self _), war_succ, h1]
    simp
  · by_cases h2 : a < i
    · rw [if_pos h2, if_pos (by omega)]
    · rw [if_neg h2, if_neg (by omega)]
set_option maxRecDepth 8000 in
theorem warB_or {R : Nat → Nat → Bool} {p k i : Nat} {m : List Nat} (hm : RW m) (h : ∀ a b, bt m a b = warB R p k i a b) (hi : i < p) (hk : k < p) (hp : p ≤ 64) (hf : (m.getD i 0).testBit k = true) :
    ∀ a b, bt (m.set i (m.getD i 0 ||| m.getD k 0)) a b = warB R p k (i + 1) a b := by
  intro a b
  rw [bt_set hm _ _ _ _ (by omega), Nat.testBit_or]
  have h1 : bt m i k = true := hf
  rw [h] at h1
  unfold warB at h1
  simp only [hi, hk, decide_true, Bool.true_and, Nat.lt_irrefl, if_false] at h1
  by_cases e : a = i
  · subst e
    rw [if_pos rfl]
    show (bt m a b || bt m k b) = _
    rw [h, h]
    unfold warB
    rw [if_neg (Nat.lt_irrefl _), if_pos (Nat.lt_succ_self _)]
    have h3 : (if k < a then war R (k + 1) k b else war R k k b) = war R k k b := by split <;> simp [war_at]
    rw [h3, war_succ, h1]
    simp only [hi, hk, decide_true, Bool.true_and]
    cases decide (b < p) <;> simp
  · rw [if_neg e, h]
    unfold warB
    by_cases h2 : a < i
    · rw [if_pos h2, if_pos (by omega)]
    · rw [if_neg h2, if_neg (by omega)]
set_option maxRecDepth 8000 in
theorem refl_start {n : Int} {l m : List Nat} (k : Nat) (hm : RW m) (hk : k < pts n) (h : ∀ a b, bt m a b = (decide (a < pts n) && decide (b < pts n) && (bt l a b || decide (a < k ∧ a = b)))) :
    ∀ a b, bt (addR (pts n : Nat) m k k) a b = (decide (a < pts n) && decide (b < pts n) && (bt l a b || decide (a < k + 1 ∧ a = b))) := by
  intro a b
  rw [bt_addR hm, h, isPt_nat, pts_pts]
  simp only [hk, decide_true, Bool.true_and]
  by_cases h1 : a < pts n
  · by_cases h2 : b < pts n
    · simp only [h1, h2, decide_true, Bool.true_and, Bool.or_assoc]
      congr 1
      rw [Bool.eq_iff_iff]
      simp
      omega
    · simp only [h1, h2, decide_true, decide_false, Bool.and_false, Bool.false_and, Bool.false_or]
      rw [Bool.eq_iff_iff]
      simp
      omega
  · simp only [h1, decide_false, Bool.false_and, Bool.false_or]
    rw [Bool.eq_iff_iff]
    simp
    omega
end Go.Proofs.Ytapnefhmonpgdaa

/-
  What Closure of package relate returns. Conditions: 64 words below 2^64.
-/
namespace Go.Proofs.Ytapnefhmonpgdaa
open Go.RowKit RM

set_option maxRecDepth 8000 in
theorem pts_nat (n : Int) : pts ((pts n : Nat) : Int) = pts n := pts_pts n
set_option maxRecDepth 8000 in
theorem war_start {R : Nat → Nat → Bool} {p : Nat} {m : List Nat} (h : ∀ a b, bt m a b = (decide (a < p) && decide (b < p) && (R a b || decide (a < p ∧ a = b)))) : ∀ a b, bt m a b = (decide (a < p) && decide (b < p) && war R 0 a b) := by
  intro a b
  rw [h, war_zero]
  by_cases h1 : a < p <;> simp [h1]
set_option maxRecDepth 8000 in
theorem cz_end {n : Int} {l m : List Nat} (hm : RW m) (h : ∀ a b, bt m a b = (decide (a < pts n) && decide (b < pts n) && war (bt l) (pts n) a b)) : m = cz n l :=
  eq_mk hm _ _ (pts_le n) fun i j _ _ => by rw [h]; unfold clo; cases decide (i < pts n) <;> cases decide (j < pts n) <;> simp

end Go.Proofs.Ytapnefhmonpgdaa

/-
  What Closed, above, strict, Up and Down of package relate return. Conditions: 64 words below 2^64; the table of math/bits in memory, where a set is walked.
-/
namespace Go.Proofs.Ytapnefhmonpgdaa
open Go.RowKit RM

/-- Is it closed? -/
def closedB (n : Int) (l : List Nat) : Bool := decide (cl n l = cz n l)
set_option maxRecDepth 8000 in
theorem closedB_iff (n : Int) (l : List Nat) : closedB n l = true ↔ Closed (pts n) (bt l) := by unfold closedB; rw [decide_eq_true_eq, closed_iff]
/-- The union of rows. -/
def orl (l : List Nat) (xs : List Nat) : Nat := xs.foldl (fun a i => a ||| l.getD i 0) 0
set_option maxRecDepth 8000 in
theorem orl_snoc (l : List Nat) (xs : List Nat) (i : Nat) : orl l (xs ++ [i]) = orl l xs ||| l.getD i 0 := by simp [orl]
set_option maxRecDepth 8000 in
theorem orl_lt {l : List Nat} (h : RW l) (xs : List Nat) : orl l xs < 18446744073709551616 := by
  suffices ∀ (xs : List Nat) (a : Nat), a < 2 ^ 64 → xs.foldl (fun a i => a ||| l.getD i 0) a < 2 ^ 64 from this xs 0 (by omega)
  intro xs
  induction xs with
  | nil => intro a ha; exact ha
  | cons i xs ih => intro a ha; exact ih _ (Nat.or_lt_two_pow ha (h.lt i))
set_option maxRecDepth 8000 in
theorem orl_bit (l : List Nat) (xs : List Nat) (j : Nat) : (orl l xs).testBit j = xs.any fun i => bt l i j := by
  suffices ∀ (xs : List Nat) (a : Nat), (xs.foldl (fun a i => a ||| l.getD i 0) a).testBit j = (a.testBit j || xs.any fun i => bt l i j) by
    have := this xs 0
    simpa [orl] using this
  intro xs
  induction xs with
  | nil => intro a; simp
  | cons i xs ih => intro a; rw [List.foldl_cons, ih, Nat.testBit_or, List.any_cons, Bool.or_assoc]; rfl
/-- What is above some element of s. -/
def abv (l : List Nat) (s : Nat) : Nat := orl l (MM.els s)
set_option maxRecDepth 8000 in
theorem abv_lt {l : List Nat} (h : RW l) (s : Nat) : abv l s < 18446744073709551616 := orl_lt h _
set_option maxRecDepth 8000 in
theorem abv_bit (l : List Nat) (s j : Nat) : (abv l s).testBit j = true ↔ ∃ i, i < 64 ∧ s.testBit i = true ∧ bt l i j = true := by
  unfold abv
  rw [orl_bit, List.any_eq_true]
  simp only [MM.mem_els]
  exact ⟨fun ⟨i, ⟨h1, h2⟩, h3⟩ => ⟨i, h1, h2, h3⟩, fun ⟨i, h1, h2, h3⟩ => ⟨i, ⟨h1, h2⟩, h3⟩⟩
end Go.Proofs.Ytapnefhmonpgdaa

/-
  What strict, Up and Down of package relate return. Conditions: 64 words below 2^64; the table of math/bits in memory, where a set is walked.
-/
namespace Go.Proofs.Ytapnefhmonpgdaa
open Go.RowKit RM

/-- What strict makes of the rows behind k of them. -/
def strL (l : List Nat) : List Nat := (List.range 64).map fun i => MM.lessN (l.getD i 0) i
set_option maxRecDepth 8000 in
theorem RW.strL {l : List Nat} (h : RW l) : RW (strL l) := ⟨by simp [Go.Proofs.Ytapnefhmonpgdaa.strL], fun x hx => by
  simp only [Go.Proofs.Ytapnefhmonpgdaa.strL, List.mem_map] at hx
  obtain ⟨i, _, rfl⟩ := hx
  exact MM.lessN_lt (h.lt i) _⟩
set_option maxRecDepth 8000 in
theorem bt_strL {l : List Nat} (h : RW l) (i j : Nat) : bt (strL l) i j = (bt l i j && decide (i ≠ j)) := by
  by_cases hi : i < 64
  · unfold bt strL
    rw [List.getD_eq_getElem?_getD, List.getElem?_map, List.getElem?_range hi]
    simp only [Option.map_some, Option.getD_some, MM.lessN_bit]
    by_cases hj : j < 64
    · congr 1
      rw [Bool.eq_iff_iff]
      simp [hj]
      omega
    · have : (l.getD i 0).testBit j = false := bt_high h i j (by omega)
      rw [this]; simp
  · rw [bt_far (RW.strL h) i j (by omega), bt_far h i j (by omega)]; simp
set_option maxRecDepth 8000 in
theorem strict_step {l m : List Nat} (hm : RW m) (k x : Nat) (hk : k < 64) (hx : x = m.getD k 0)
    (h : ∀ i j, bt m i j = (bt l i j && !decide (i < k ∧ i = j))) : ∀ i j, bt (m.set k (MM.lessN x k)) i j = (bt l i j && !decide (i < k + 1 ∧ i = j)) := by
  intro i j
  rw [bt_set hm _ _ _ _ hk, MM.lessN_bit]
  by_cases e : i = k
  · subst e
    rw [if_pos rfl, hx]
    show (bt m i j && _) = _
    rw [h]
    by_cases hj : j < 64
    · cases bt l i j
      · simp
      · rw [Bool.eq_iff_iff]
        simp [hj]
        omega
    · have : bt m i j = false := bt_high hm i j (by omega)
      rw [h] at this
      have h2 : bt l i j = false := by
        cases hb : bt l i j with
        | false => rfl
        | true => rw [hb] at this; simp at this
      rw [h2]; simp
  · rw [if_neg e, h]
    congr 2
    rw [Bool.eq_iff_iff]
    simp; omega
set_option maxRecDepth 8000 in
theorem strict_end {l m : List Nat} (hl : RW l) (hm : RW m) (h : ∀ i j, bt m i j = (bt l i j && !decide (i < 64 ∧ i = j))) : m = strL l :=
  rext hm (RW.strL hl) fun i j hi _ => by rw [h, bt_strL hl]; congr 1; rw [Bool.eq_iff_iff]; simp; omega
/-- The points that are below some element of s, among the first k. -/
def blw (l : List Nat) (s k : Nat) : Nat := MM.ofP (fun i => decide (i < k) && (l.getD i 0 &&& s != 0)) 64
set_option maxRecDepth 8000 in
theorem blw_lt (l : List Nat) (s k : Nat) : blw l s k < 18446744073709551616 := MM.ofP_lt _ _
set_option maxRecDepth 8000 in
theorem blw_bit (l : List Nat) (s k i : Nat) : (blw l s k).testBit i = (decide (i < 64) && (decide (i < k) && (l.getD i 0 &&& s != 0))) := MM.ofP_bit _ _ _
set_option maxRecDepth 8000 in
theorem blw_zero (l : List Nat) (s : Nat) : blw l s 0 = 0 := MM.ext64 (blw_lt _ _ _) (by omega) fun i _ => by rw [blw_bit]; simp
set_option maxRecDepth 8000 in
theorem blw_yes {l : List Nat} {s k : Nat} (hk : k < 64) (h : (l.getD k 0 &&& s != 0) = true) : MM.withN (blw l s k) k = blw l s (k + 1) :=
  MM.ext64 (MM.withN_lt (blw_lt _ _ _) _) (blw_lt _ _ _) fun i hi => by
    rw [MM.withN_bit, blw_bit, blw_bit]
    by_cases e : i = k
    · subst e
      rw [h]
      simp [hi]
    · have h1 : decide ((k : Int) = (i : Int) ∧ i < 64) = false := by simp; omega
      have h2 : decide (i < k + 1) = decide (i < k) := by rw [Bool.eq_iff_iff]; simp; omega
      rw [h1, h2]; simp
set_option maxRecDepth 8000 in
theorem blw_no {l : List Nat} {s k : Nat} (h : (l.getD k 0 &&& s != 0) = false) : blw l s k = blw l s (k + 1) :=
  MM.ext64 (blw_lt _ _ _) (blw_lt _ _ _) fun i hi => by
    rw [blw_bit, blw_bit]
    by_cases e : i = k
    · subst e
      rw [h]; simp
    · have h2 : decide (i < k + 1) = decide (i < k) := by rw [Bool.eq_iff_iff]; simp; omega
      rw [h2]
set_option maxRecDepth 8000 in
theorem and_ne {x s : Nat} (hx : x < 2 ^ 64) : (x &&& s != 0) = true ↔ ∃ j, j < 64 ∧ x.testBit j = true ∧ s.testBit j = true := by
  constructor
  · intro h
    apply Decidable.byContradiction
    intro hn
    have : x &&& s = 0 := MM.ext64 (Nat.lt_of_le_of_lt Nat.and_le_left hx) (by omega) fun i hi => by
      rw [Nat.testBit_and]
      cases h1 : x.testBit i with
      | false => simp
      | true =>
        cases h2 : s.testBit i with
        | false => simp
        | true => exact absurd ⟨i, hi, h1, h2⟩ hn
    rw [this] at h
    simp at h
  · rintro ⟨j, _, h1, h2⟩
    rw [bne_iff_ne]
    intro h0
    have := congrArg (·.testBit j) h0
    simp [h1, h2] at this
end Go.Proofs.Ytapnefhmonpgdaa

/-
  Lists of pairs in memory; what Of of package relate returns. Conditions: 64 words below 2^64; at most 2^32 pairs.
-/
namespace Go.Proofs.Ytapnefhmonpgdaa
open Go.RowKit RM

/-- The cells of a list of pairs. -/
def pcells : List (Int × Int) → List Value
  | [] => []
  | q :: l => .int .i64 q.1 :: .int .i64 q.2 :: pcells l
set_option maxRecDepth 8000 in
theorem pcells_length : ∀ l, (pcells l).length = 2 * l.length
  | [] => rfl
  | q :: l => by simp [pcells, pcells_length l]; omega
set_option maxRecDepth 8000 in
theorem pcells_append : ∀ l m, pcells (l ++ m) = pcells l ++ pcells m
  | [], m => rfl
  | q :: l, m => by simp [pcells, pcells_append l m]
set_option maxRecDepth 8000 in
theorem pcells_at : ∀ (l : List (Int × Int)) (k : Nat), k < l.length → (pcells l)[k * 2]? = some (.int .i64 (l.getD k (0, 0)).1) ∧ (pcells l)[k * 2 + 1]? = some (.int .i64 (l.getD k (0, 0)).2)
  | [], k, h => by simp at h
  | q :: l, 0, _ => by simp [pcells]
  | q :: l, k + 1, h => by
    obtain ⟨h1, h2⟩ := pcells_at l k (by simpa using h)
    have e : (k + 1) * 2 = k * 2 + 1 + 1 := by omega
    rw [e]
    simp only [pcells, List.getElem?_cons_succ, List.getD_cons_succ]
    exact ⟨h1, h2⟩
/-- A slice of pairs in memory. -/
def Prs (w : World) (A : Option Addr) (xs : List (Int × Int)) : Prop := Sl w w.heap.size A (pcells xs)
set_option maxRecDepth 8000 in
theorem Prs.below {w w' : World} {A : Option Addr} {xs : List (Int × Int)} (h : Prs w A xs) (hb : Below w.heap.size w w') : Prs w' A xs := (Sl.below h hb).mono hb.size
set_option maxRecDepth 8000 in
theorem Prs.cell {w : World} {A : Option Addr} {xs : List (Int × Int)} (h : Prs w A xs) (hne : xs ≠ []) : ∃ b o, A = some ⟨b, o, none⟩ ∧ b < w.heap.size ∧ ∀ j, j < xs.length → w.cell? ⟨b, o + j * 2, none⟩ = some (.int .i64 (xs.getD j (0, 0)).1) ∧ w.cell? ⟨b, o + j * 2 + 1, none⟩ = some (.int .i64 (xs.getD j (0, 0)).2) := by
  obtain ⟨b, o, hA, hb, hc⟩ := Sl.at_ h (fun e => hne (by have := congrArg List.length e; rw [pcells_length] at this; simp at this; exact List.eq_nil_of_length_eq_zero (by omega)))
  exact ⟨b, o, hA, hb, fun j hj => ⟨hc _ _ (pcells_at xs j hj).1, by rw [Nat.add_assoc]; exact hc _ _ (pcells_at xs j hj).2⟩⟩
/-- The relation of these pairs. -/
def ofR (n : Int) (xs : List (Int × Int)) : List Nat := xs.foldl (fun m q => addR (pts n : Nat) m q.1 q.2) zs
set_option maxRecDepth 8000 in
theorem ofR_snoc (n : Int) (xs : List (Int × Int)) (q : Int × Int) : ofR n (xs ++ [q]) = addR (pts n : Nat) (ofR n xs) q.1 q.2 := by simp [ofR]
set_option maxRecDepth 8000 in
theorem rw_ofR (n : Int) (xs : List (Int × Int)) : RW (ofR n xs) := by
  suffices ∀ (xs : List (Int × Int)) m, RW m → RW (xs.foldl (fun m q => addR (pts n : Nat) m q.1 q.2) m) from this xs zs RW.zs
  intro xs
  induction xs with
  | nil => intro m h; exact h
  | cons q xs ih => intro m h; exact ih _ (rw_addR h _ _ _)
set_option maxRecDepth 8000 in
theorem ofR_take (n : Int) (xs : List (Int × Int)) (k : Nat) (h : k < xs.length) : ofR n (xs.take (k + 1)) = addR (pts n : Nat) (ofR n (xs.take k)) (xs.getD k (0, 0)).1 (xs.getD k (0, 0)).2 := by
  rw [List.take_succ_eq_append_getElem h, ofR_snoc, List.getD_eq_getElem?_getD, List.getElem?_eq_getElem h]; rfl
end Go.Proofs.Ytapnefhmonpgdaa

/-
  A region that draws its order, walked as a tree of orders: each operation is taken first, or comes up alone, or one of two comes up. Conditions: the tree is checked by the kernel.
-/
namespace Go.Proofs.Ytapnefhmonpgdaa
inductive OT where
  | nil
  | take (i : Nat) (r : OT)
  | solo (i : Nat) (r : OT)
  | two (i : Nat) (r : OT) (j : Nat) (s : OT)
def OT.len : OT → Nat
  | .nil => 0
  | .take _ r => r.len + 1
  | .solo _ r => r.len + 1
  | .two _ r _ _ => r.len + 1
section
variable {P : Program} {ops : Array Oper} {Q : Exit → Act → World → Prop} {S : World → Prop}
def otB (ops : Array Oper) : OT → Array Bool → Bool
  | .nil, listed => decide (Region.ready .any ops listed = [])
  | .take i r, listed => (Region.ready .any ops listed).contains i && Region.free .any ops listed i && otB ops r (listed.setIfInBounds i true)
  | .solo i r, listed => decide (Region.ready .any ops listed = [i]) && otB ops r (listed.setIfInBounds i true)
  | .two i r j s, listed => decide (Region.ready .any ops listed = [i, j]) && decide (r.len = s.len) && decide (i ≠ j) && otB ops r (listed.setIfInBounds i true) && otB ops s (listed.setIfInBounds j true)
def wpOT (P : Program) (ops : Array Oper) (Q : Exit → Act → World → Prop) (S : World → Prop) : OT → Act → World → Prop
  | .nil, a, w => Q .normal a w
  | .take i r, a, w => ∃ o v, ops[i]? = some o ∧ YieldsIf P ops S o v a ∧ wpOT P ops Q S r (a.put o.dst v) w
  | .solo i r, a, w => wpOp P ops Q i (fun a' w' => S w' ∧ wpOT P ops Q S r a' w') a w
  | .two i r j s, a, w => wpOp P ops Q i (fun a' w' => S w' ∧ wpOT P ops Q S r a' w') a w ∧ wpOp P ops Q j (fun a' w' => S w' ∧ wpOT P ops Q S s a' w') a w
set_option maxRecDepth 8000 in
theorem wpAnyH_of_ot (hsel : Region.noSelect ops = true) (hQ : ∀ c (a : Act) d v w, Q (.panic c) (a.put d v) w → Q (.panic c) a w) :
    ∀ (r : OT) (listed : Array Bool) (a : Act) (w : World), otB ops r listed = true → S w → wpOT P ops Q S r a w → wpAnyH P .any ops Q S r.len listed a w
  | .nil, listed, a, w, hB, _, h => wpAnyH_done (by simpa [otB] using hB) h _
  | .take i r, listed, a, w, hB, hS, h => by
    simp only [otB, Bool.and_eq_true] at hB
    obtain ⟨o, v, ho, hy, hr⟩ := h
    exact wpAnyH_take ho hsel hB.1.2 hB.1.1 (fun c a w => hQ c a _ _ w) hy hS (wpAnyH_of_ot hsel hQ r _ _ _ hB.2 hS hr)
  | .solo i r, listed, a, w, hB, hS, h => by
    simp only [otB, Bool.and_eq_true, decide_eq_true_eq] at hB
    refine wpAnyH_all hB.1 (by simp) fun j hj => ?_
    have hji : j = i := by simpa using hj
    subst hji
    exact wpOp_mono (fun a' w' h' => ⟨h'.1, wpAnyH_of_ot hsel hQ r _ _ _ hB.2 h'.1 h'.2⟩) h
  | .two i r j s, listed, a, w, hB, hS, h => by
    simp only [otB, Bool.and_eq_true, decide_eq_true_eq] at hB
    obtain ⟨⟨⟨⟨h1, h2⟩, h3⟩, h4⟩, h5⟩ := hB
    refine wpAnyH_all h1 (by simp) fun k hk => ?_
    have hkk : k = i ∨ k = j := by simpa using hk
    rcases hkk with rfl | rfl
    · exact wpOp_mono (fun a' w' h' => ⟨h'.1, wpAnyH_of_ot hsel hQ r _ _ _ h4 h'.1 h'.2⟩) h.1
    · refine wpOp_mono (fun a' w' h' => ⟨h'.1, ?_⟩) h.2
      show wpAnyH P .any ops Q S r.len _ _ _
      rw [h2]
      exact wpAnyH_of_ot hsel hQ s _ _ _ h5 h'.1 h'.2
set_option maxRecDepth 8000 in
theorem wp_region_ot {id : Nat} {a : Act} {w : World} (S : World → Prop) (r : OT) (hm : P.follows .mixedOrders = true) (hsel : Region.noSelect ops = true) (hl : r.len = ops.size)
    (hB : otB ops r (Array.replicate ops.size false) = true)
    (hS : S w.drew) (h : wpOT P ops (NoPanic Q) S r a w.drew) : (Code.region id ops true).wp P Q a w := by
  have h2 := wpAnyH_of_ot (Q := NoPanic Q) hsel (fun _ _ _ _ _ h => h) r _ a _ hB hS h
  rw [hl] at h2
  exact wp_region_noPanic (wp_region_held hm h2)
set_option maxRecDepth 8000 in
theorem wpOT_done {a : Act} {w : World} (h : Q .normal a w) : wpOT P ops (NoPanic Q) S .nil a w := h
set_option maxRecDepth 8000 in
theorem wpOT_step {i : Nat} {r : OT} {o : Oper} {a : Act} {w : World} (ho : ops[i]? = some o)
    (h : (Region.wanted o (yielded ops a.tmps) = false ∧ wpOT P ops Q S r (a.put o.dst undef) w) ∨
      (Region.wanted o (yielded ops a.tmps) = true ∧ ∃ v, (∀ w, S w → (execOp a.eval o).run P w = .ok (.value v) w) ∧ wpOT P ops Q S r (a.put o.dst v) w)) : wpOT P ops Q S (.take i r) a w := by
  rcases h with ⟨h1, h2⟩ | ⟨h1, v, h2, h3⟩
  · exact ⟨o, undef, ho, .inr ⟨h1, rfl⟩, h2⟩
  · exact ⟨o, v, ho, .inl ⟨h1, h2⟩, h3⟩
set_option maxRecDepth 8000 in
theorem wpOT_skip {r : OT} {o : Oper} {a : Act} {w : World} {p : Prop} (hw : Region.wanted o (yielded ops a.tmps) = false)
    (h : wpOT P ops Q S r (a.put o.dst undef) w) : (Region.wanted o (yielded ops a.tmps) = false ∧ wpOT P ops Q S r (a.put o.dst undef) w) ∨ p := .inl ⟨hw, h⟩
set_option maxRecDepth 8000 in
theorem wpOT_take {r : OT} {o : Oper} {v : Value} {a : Act} {w : World} {p : Prop} (hw : Region.wanted o (yielded ops a.tmps) = true)
    (hy : ∀ w, S w → (execOp a.eval o).run P w = .ok (.value v) w) (h : wpOT P ops Q S r (a.put o.dst v) w) :
    p ∨ (Region.wanted o (yielded ops a.tmps) = true ∧ ∃ v, (∀ w, S w → (execOp a.eval o).run P w = .ok (.value v) w) ∧ wpOT P ops Q S r (a.put o.dst v) w) := .inr ⟨hw, v, hy, h⟩
set_option maxRecDepth 8000 in
theorem wpOT_solo {i : Nat} {r : OT} {o : Oper} {a : Act} {w : World} (ho : ops[i]? = some o)
    (h : ∀ K' : Act → World → Prop, Shut (∀ a w, S w → wpOT P ops Q S r a w → K' a w) → if Region.wanted o (yielded ops a.tmps) = true then Oper.wp P o a w K' Q else K' (a.put o.dst undef) w) :
    wpOT P ops Q S (.solo i r) a w := wpOp_step ho fun K' hK => h K' fun a w hS hW => hK a w ⟨hS, hW⟩
set_option maxRecDepth 8000 in
theorem wpOT_now {i : Nat} {r : OT} {o : Oper} {a : Act} {w : World} (ho : ops[i]? = some o) (hw : Region.wanted o (yielded ops a.tmps) = true)
    (h : ∀ K' : Act → World → Prop, Shut (∀ a w, S w → wpOT P ops Q S r a w → K' a w) → Oper.wp P o a w K' Q) : wpOT P ops Q S (.solo i r) a w :=
  wpOT_solo ho fun K' hK => by rw [if_pos hw]; exact h K' hK
set_option maxRecDepth 8000 in
theorem wpOT_two {i j : Nat} {r s : OT} {a : Act} {w : World} (h1 : wpOT P ops Q S (.solo i r) a w) (h2 : wpOT P ops Q S (.solo j s) a w) : wpOT P ops Q S (.two i r j s) a w := ⟨h1, h2⟩
end
end Go.Proofs.Ytapnefhmonpgdaa

/-
  A region that draws its order, walked as a tree of orders: each operation is taken first, or comes up alone, or one of two or of three comes up. Conditions: the tree is checked by the kernel.
-/
namespace Go.Proofs.Ytapnefhmonpgdaa
inductive OU where
  | nil
  | take (i : Nat) (r : OU)
  | solo (i : Nat) (r : OU)
  | two (i : Nat) (r : OU) (j : Nat) (s : OU)
  | three (i : Nat) (r : OU) (j : Nat) (s : OU) (k : Nat) (t : OU)
def OU.len : OU → Nat
  | .nil => 0
  | .take _ r => r.len + 1
  | .solo _ r => r.len + 1
  | .two _ r _ _ => r.len + 1
  | .three _ r _ _ _ _ => r.len + 1
section
variable {P : Program} {ops : Array Oper} {Q : Exit → Act → World → Prop} {S : World → Prop}
def ouB (ops : Array Oper) : OU → Array Bool → Bool
  | .nil, listed => decide (Region.ready .any ops listed = [])
  | .take i r, listed => (Region.ready .any ops listed).contains i && Region.free .any ops listed i && ouB ops r (listed.setIfInBounds i true)
  | .solo i r, listed => decide (Region.ready .any ops listed = [i]) && ouB ops r (listed.setIfInBounds i true)
  | .two i r j s, listed => decide (Region.ready .any ops listed = [i, j]) && decide (r.len = s.len) && decide (i ≠ j) && ouB ops r (listed.setIfInBounds i true) && ouB ops s (listed.setIfInBounds j true)
  | .three i r j s k t, listed => decide (Region.ready .any ops listed = [i, j, k]) && decide (r.len = s.len) && decide (r.len = t.len) && decide (i ≠ j) && decide (i ≠ k) && decide (j ≠ k) && ouB ops r (listed.setIfInBounds i true) && ouB ops s (listed.setIfInBounds j true) && ouB ops t (listed.setIfInBounds k true)
def wpOU (P : Program) (ops : Array Oper) (Q : Exit → Act → World → Prop) (S : World → Prop) : OU → Act → World → Prop
  | .nil, a, w => Q .normal a w
  | .take i r, a, w => ∃ o v, ops[i]? = some o ∧ YieldsIf P ops S o v a ∧ wpOU P ops Q S r (a.put o.dst v) w
  | .solo i r, a, w => wpOp P ops Q i (fun a' w' => S w' ∧ wpOU P ops Q S r a' w') a w
  | .two i r j s, a, w => wpOp P ops Q i (fun a' w' => S w' ∧ wpOU P ops Q S r a' w') a w ∧ wpOp P ops Q j (fun a' w' => S w' ∧ wpOU P ops Q S s a' w') a w
  | .three i r j s k t, a, w => wpOp P ops Q i (fun a' w' => S w' ∧ wpOU P ops Q S r a' w') a w ∧ wpOp P ops Q j (fun a' w' => S w' ∧ wpOU P ops Q S s a' w') a w ∧ wpOp P ops Q k (fun a' w' => S w' ∧ wpOU P ops Q S t a' w') a w
set_option maxRecDepth 8000 in
theorem wpAnyH_of_ou (hsel : Region.noSelect ops = true) (hQ : ∀ c (a : Act) d v w, Q (.panic c) (a.put d v) w → Q (.panic c) a w) :
    ∀ (r : OU) (listed : Array Bool) (a : Act) (w : World), ouB ops r listed = true → S w → wpOU P ops Q S r a w → wpAnyH P .any ops Q S r.len listed a w
  | .nil, listed, a, w, hB, _, h => wpAnyH_done (by simpa [ouB] using hB) h _
  | .take i r, listed, a, w, hB, hS, h => by
    simp only [ouB, Bool.and_eq_true] at hB
    obtain ⟨o, v, ho, hy, hr⟩ := h
    exact wpAnyH_take ho hsel hB.1.2 hB.1.1 (fun c a w => hQ c a _ _ w) hy hS (wpAnyH_of_ou hsel hQ r _ _ _ hB.2 hS hr)
  | .solo i r, listed, a, w, hB, hS, h => by
    simp only [ouB, Bool.and_eq_true, decide_eq_true_eq] at hB
    refine wpAnyH_all hB.1 (by simp) fun j hj => ?_
    have hji : j = i := by simpa using hj
    subst hji
    exact wpOp_mono (fun a' w' h' => ⟨h'.1, wpAnyH_of_ou hsel hQ r _ _ _ hB.2 h'.1 h'.2⟩) h
  | .two i r j s, listed, a, w, hB, hS, h => by
    simp only [ouB, Bool.and_eq_true, decide_eq_true_eq] at hB
    obtain ⟨⟨⟨⟨h1, h2⟩, h3⟩, h4⟩, h5⟩ := hB
    refine wpAnyH_all h1 (by simp) fun k hk => ?_
    have hkk : k = i ∨ k = j := by simpa using hk
    rcases hkk with rfl | rfl
    · exact wpOp_mono (fun a' w' h' => ⟨h'.1, wpAnyH_of_ou hsel hQ r _ _ _ h4 h'.1 h'.2⟩) h.1
    · refine wpOp_mono (fun a' w' h' => ⟨h'.1, ?_⟩) h.2
      show wpAnyH P .any ops Q S r.len _ _ _
      rw [h2]
      exact wpAnyH_of_ou hsel hQ s _ _ _ h5 h'.1 h'.2
  | .three i r j s k t, listed, a, w, hB, hS, h => by
    simp only [ouB, Bool.and_eq_true, decide_eq_true_eq] at hB
    obtain ⟨⟨⟨⟨⟨⟨⟨⟨h1, h2⟩, h2t⟩, h3⟩, h3b⟩, h3c⟩, h4⟩, h5⟩, h6⟩ := hB
    refine wpAnyH_all h1 (by simp) fun l hl => ?_
    have hkk : l = i ∨ l = j ∨ l = k := by simpa using hl
    rcases hkk with rfl | rfl | rfl
    · exact wpOp_mono (fun a' w' h' => ⟨h'.1, wpAnyH_of_ou hsel hQ r _ _ _ h4 h'.1 h'.2⟩) h.1
    · refine wpOp_mono (fun a' w' h' => ⟨h'.1, ?_⟩) h.2.1
      show wpAnyH P .any ops Q S r.len _ _ _
      rw [h2]
      exact wpAnyH_of_ou hsel hQ s _ _ _ h5 h'.1 h'.2
    · refine wpOp_mono (fun a' w' h' => ⟨h'.1, ?_⟩) h.2.2
      show wpAnyH P .any ops Q S r.len _ _ _
      rw [h2t]
      exact wpAnyH_of_ou hsel hQ t _ _ _ h6 h'.1 h'.2
set_option maxRecDepth 8000 in
theorem wp_region_ou {id : Nat} {a : Act} {w : World} (S : World → Prop) (r : OU) (hm : P.follows .mixedOrders = true) (hsel : Region.noSelect ops = true) (hl : r.len = ops.size)
    (hB : ouB ops r (Array.replicate ops.size false) = true)
    (hS : S w.drew) (h : wpOU P ops (NoPanic Q) S r a w.drew) : (Code.region id ops true).wp P Q a w := by
  have h2 := wpAnyH_of_ou (Q := NoPanic Q) hsel (fun _ _ _ _ _ h => h) r _ a _ hB hS h
  rw [hl] at h2
  exact wp_region_noPanic (wp_region_held hm h2)
set_option maxRecDepth 8000 in
theorem wpOU_done {a : Act} {w : World} (h : Q .normal a w) : wpOU P ops (NoPanic Q) S .nil a w := h
set_option maxRecDepth 8000 in
theorem wpOU_step {i : Nat} {r : OU} {o : Oper} {a : Act} {w : World} (ho : ops[i]? = some o)
    (h : (Region.wanted o (yielded ops a.tmps) = false ∧ wpOU P ops Q S r (a.put o.dst undef) w) ∨
      (Region.wanted o (yielded ops a.tmps) = true ∧ ∃ v, (∀ w, S w → (execOp a.eval o).run P w = .ok (.value v) w) ∧ wpOU P ops Q S r (a.put o.dst v) w)) : wpOU P ops Q S (.take i r) a w := by
  rcases h with ⟨h1, h2⟩ | ⟨h1, v, h2, h3⟩
  · exact ⟨o, undef, ho, .inr ⟨h1, rfl⟩, h2⟩
  · exact ⟨o, v, ho, .inl ⟨h1, h2⟩, h3⟩
set_option maxRecDepth 8000 in
theorem wpOU_skip {r : OU} {o : Oper} {a : Act} {w : World} {p : Prop} (hw : Region.wanted o (yielded ops a.tmps) = false)
    (h : wpOU P ops Q S r (a.put o.dst undef) w) : (Region.wanted o (yielded ops a.tmps) = false ∧ wpOU P ops Q S r (a.put o.dst undef) w) ∨ p := .inl ⟨hw, h⟩
set_option maxRecDepth 8000 in
theorem wpOU_take {r : OU} {o : Oper} {v : Value} {a : Act} {w : World} {p : Prop} (hw : Region.wanted o (yielded ops a.tmps) = true)
    (hy : ∀ w, S w → (execOp a.eval o).run P w = .ok (.value v) w) (h : wpOU P ops Q S r (a.put o.dst v) w) :
    p ∨ (Region.wanted o (yielded ops a.tmps) = true ∧ ∃ v, (∀ w, S w → (execOp a.eval o).run P w = .ok (.value v) w) ∧ wpOU P ops Q S r (a.put o.dst v) w) := .inr ⟨hw, v, hy, h⟩
set_option maxRecDepth 8000 in
theorem wpOU_solo {i : Nat} {r : OU} {o : Oper} {a : Act} {w : World} (ho : ops[i]? = some o)
    (h : ∀ K' : Act → World → Prop, Shut (∀ a w, S w → wpOU P ops Q S r a w → K' a w) → if Region.wanted o (yielded ops a.tmps) = true then Oper.wp P o a w K' Q else K' (a.put o.dst undef) w) :
    wpOU P ops Q S (.solo i r) a w := wpOp_step ho fun K' hK => h K' fun a w hS hW => hK a w ⟨hS, hW⟩
set_option maxRecDepth 8000 in
theorem wpOU_now {i : Nat} {r : OU} {o : Oper} {a : Act} {w : World} (ho : ops[i]? = some o) (hw : Region.wanted o (yielded ops a.tmps) = true)
    (h : ∀ K' : Act → World → Prop, Shut (∀ a w, S w → wpOU P ops Q S r a w → K' a w) → Oper.wp P o a w K' Q) : wpOU P ops Q S (.solo i r) a w :=
  wpOU_solo ho fun K' hK => by rw [if_pos hw]; exact h K' hK
set_option maxRecDepth 8000 in
theorem wpOU_three {i j k : Nat} {r s t : OU} {a : Act} {w : World} (h1 : wpOU P ops Q S (.solo i r) a w) (h2 : wpOU P ops Q S (.solo j s) a w) (h3 : wpOU P ops Q S (.solo k t) a w) : wpOU P ops Q S (.three i r j s k t) a w := ⟨h1, h2, h3⟩
set_option maxRecDepth 8000 in
theorem wpOU_two {i j : Nat} {r s : OU} {a : Act} {w : World} (h1 : wpOU P ops Q S (.solo i r) a w) (h2 : wpOU P ops Q S (.solo j s) a w) : wpOU P ops Q S (.two i r j s) a w := ⟨h1, h2⟩
end
end Go.Proofs.Ytapnefhmonpgdaa

/-
  How many classes a relation has: the number of different rows of its closure, counted in a sorted list; when a relation is an order. Conditions: none.
-/
namespace Go.Proofs.Ytapnefhmonpgdaa.RM
open Go.Proofs.Ytapnefhmonpgdaa

/-- The first point of its class? -/
def fstB (S : Nat → Nat → Bool) (i : Nat) : Bool := (List.range i).all fun j => !(S i j && S j i)
/-- The number of classes. -/
def nCls (p : Nat) (S : Nat → Nat → Bool) : Nat := ((List.range p).filter (fstB S)).length
/-- No two points are below each other. -/
def antiB (p : Nat) (S : Nat → Nat → Bool) : Bool := (List.range p).all (fstB S)
set_option maxRecDepth 8000 in
theorem nCls_le (p : Nat) (S : Nat → Nat → Bool) : nCls p S ≤ p := by
  have := List.length_filter_le (fstB S) (List.range p)
  simpa [nCls] using this
set_option maxRecDepth 8000 in
theorem nCls_all (p : Nat) (S : Nat → Nat → Bool) : nCls p S = p ↔ antiB p S = true := by
  unfold nCls antiB
  have h := List.length_filter_eq_length_iff (p := fstB S) (l := List.range p)
  rw [List.length_range] at h
  rw [h, List.all_eq_true]

set_option maxRecDepth 8000 in
theorem row_eq {p : Nat} {S : Nat → Nat → Bool} {L : List Nat} (hL : RW L) (hS : Closed p S) (hb : ∀ i j, bt L i j = (decide (i < p) && decide (j < p) && S i j)) {i j : Nat} (hi : i < p) (hj : j < p) :
    L.getD i 0 = L.getD j 0 ↔ (S i j && S j i) = true := by
  rw [Bool.and_eq_true]
  constructor
  · intro h
    have e1 : bt L i i = bt L j i := by unfold bt; rw [h]
    have e2 : bt L i j = bt L j j := by unfold bt; rw [h]
    rw [hb, hb] at e1 e2
    simp only [hi, hj, decide_true, Bool.true_and] at e1 e2
    exact ⟨by rw [e2]; exact hS.1 j hj, by rw [← e1]; exact hS.1 i hi⟩
  · rintro ⟨h1, h2⟩
    refine MM.ext64 (hL.lt i) (hL.lt j) fun b _ => ?_
    show bt L i b = bt L j b
    rw [hb, hb]
    simp only [hi, hj, decide_true, Bool.true_and]
    by_cases hp : b < p
    · simp only [hp, decide_true, Bool.true_and]
      rw [Bool.eq_iff_iff]
      exact ⟨fun h => hS.2 _ _ _ hj hi hp h2 h, fun h => hS.2 _ _ _ hi hj hp h1 h⟩
    · simp [hp]
set_option maxRecDepth 8000 in
theorem fst_iff {p : Nat} {S : Nat → Nat → Bool} {L : List Nat} (hL : RW L) (hS : Closed p S) (hb : ∀ i j, bt L i j = (decide (i < p) && decide (j < p) && S i j)) {i : Nat} (hi : i < p) :
    fstB S i = true ↔ ∀ j, j < i → L.getD j 0 ≠ L.getD i 0 := by
  unfold fstB
  rw [List.all_eq_true]
  simp only [List.mem_range]
  constructor
  · intro h j hj e
    have := h j hj
    rw [(row_eq hL hS hb hi (show j < p by omega)).1 e.symm] at this
    cases this
  · intro h j hj
    cases hc : (S i j && S j i) with
    | false => rfl
    | true => exact absurd ((row_eq hL hS hb hi (show j < p by omega)).2 hc).symm (h j hj)

set_option maxRecDepth 8000 in
/-- The first points' rows: each row once. -/
theorem firsts {p : Nat} {S : Nat → Nat → Bool} {L : List Nat} (hL : RW L) (hS : Closed p S) (hb : ∀ i j, bt L i j = (decide (i < p) && decide (j < p) && S i j)) : ∀ m, m ≤ p →
    (((List.range m).filter (fstB S)).map fun i => L.getD i 0).Nodup ∧ ∀ x, x ∈ (((List.range m).filter (fstB S)).map fun i => L.getD i 0) ↔ ∃ i, i < m ∧ L.getD i 0 = x
  | 0, _ => by simp
  | m + 1, hm => by
    obtain ⟨h1, h2⟩ := firsts hL hS hb m (by omega)
    rw [List.range_succ, List.filter_append, List.map_append]
    have hf := fst_iff hL hS hb (show m < p by omega)
    cases hc : fstB S m with
    | true =>
      have hn := hf.1 hc
      have e : (List.filter (fstB S) [m]).map (fun i => L.getD i 0) = [L.getD m 0] := by simp [hc]
      rw [e]
      refine ⟨?_, fun x => ?_⟩
      · rw [List.nodup_append]
        refine ⟨h1, by simp, fun a ha b hb2 => ?_⟩
        obtain ⟨j, hj, rfl⟩ := (h2 a).1 ha
        rw [List.mem_singleton] at hb2
        subst hb2
        exact hn j hj
      · rw [List.mem_append, List.mem_singleton, h2]
        constructor
        · rintro (⟨i, hi, rfl⟩ | rfl)
          · exact ⟨i, by omega, rfl⟩
          · exact ⟨m, by omega, rfl⟩
        · rintro ⟨i, hi, rfl⟩
          by_cases e : i = m
          · subst e; exact .inr rfl
          · exact .inl ⟨i, by omega, rfl⟩
    | false =>
      have e : (List.filter (fstB S) [m]).map (fun i => L.getD i 0) = [] := by simp [hc]
      rw [e, List.append_nil]
      refine ⟨h1, fun x => ?_⟩
      rw [h2]
      constructor
      · rintro ⟨i, hi, rfl⟩; exact ⟨i, by omega, rfl⟩
      · rintro ⟨i, hi, rfl⟩
        by_cases e : i = m
        · subst e
          have hne : ¬ ∀ j, j < i → L.getD j 0 ≠ L.getD i 0 := fun h => by rw [hf.2 h] at hc; cases hc
          apply Decidable.byContradiction
          intro hx
          exact hne fun j hj e2 => hx ⟨j, hj, e2⟩
        · exact ⟨i, by omega, rfl⟩
set_option maxRecDepth 8000 in
/-- What Compact keeps of a sorted row: each word once. -/
theorem compacts (d : Array Nat) (hs : ∀ i j, i < j → j < d.size → d[i]! ≤ d[j]!) : ∀ m, m ≤ d.size →
    (Lib.compactUpTo d m).Nodup ∧ ∀ x, x ∈ Lib.compactUpTo d m ↔ ∃ i, i < m ∧ d[i]! = x
  | 0, _ => by simp [Lib.compactUpTo]
  | m + 1, hm => by
    obtain ⟨h1, h2⟩ := compacts d hs m (by omega)
    rw [Lib.compactUpTo_succ]
    cases hk : Lib.keeps d m with
    | true =>
      rw [if_pos rfl]
      refine ⟨?_, fun x => ?_⟩
      · rw [List.nodup_append]
        refine ⟨h1, by simp, fun a ha b hb => ?_⟩
        obtain ⟨i, hi, rfl⟩ := (h2 a).1 ha
        rw [List.mem_singleton] at hb
        subst hb
        unfold Lib.keeps at hk
        rw [decide_eq_true_eq] at hk
        have hne : d[m]! ≠ d[m - 1]! := by rcases hk with hk | hk; omega; exact hk
        have h4 := hs (m - 1) m (by omega) (by omega)
        by_cases e : i = m - 1
        · subst e; exact fun e => hne e.symm
        · have h5 := hs i (m - 1) (by omega) (by omega)
          omega
      · rw [List.mem_append, List.mem_singleton, h2]
        constructor
        · rintro (⟨i, hi, rfl⟩ | rfl)
          · exact ⟨i, by omega, rfl⟩
          · exact ⟨m, by omega, rfl⟩
        · rintro ⟨i, hi, rfl⟩
          by_cases e : i = m
          · subst e; exact .inr rfl
          · exact .inl ⟨i, by omega, rfl⟩
    | false =>
      rw [if_neg (by simp), List.append_nil]
      refine ⟨h1, fun x => ?_⟩
      rw [h2]
      constructor
      · rintro ⟨i, hi, rfl⟩; exact ⟨i, by omega, rfl⟩
      · rintro ⟨i, hi, rfl⟩
        by_cases e : i = m
        · subst e
          have hne : ¬ (i = 0 ∨ d[i]! ≠ d[i - 1]!) := fun h => by
            have : Lib.keeps d i = true := by unfold Lib.keeps; rw [decide_eq_true_eq]; exact h
            rw [this] at hk; cases hk
          have h0 : i ≠ 0 := fun h => hne (.inl h)
          exact ⟨i - 1, by omega, (Decidable.byContradiction fun h => hne (.inr fun e => h e.symm))⟩
        · exact ⟨i, by omega, rfl⟩
set_option maxRecDepth 8000 in
/-- The number of words that Compact keeps of the sorted rows is that of the classes. -/
theorem compact_cls {p : Nat} {S : Nat → Nat → Bool} {L : List Nat} (hL : RW L) (hp : p ≤ 64) (hS : Closed p S) (hb : ∀ i j, bt L i j = (decide (i < p) && decide (j < p) && S i j))
    (d' : Array Nat) (hperm : d'.toList.Perm (L.take p)) (hs : ∀ i j, i < j → j < d'.size → d'[i]! ≤ d'[j]!) : (Lib.compactUpTo d' d'.size).length = nCls p S := by
  obtain ⟨h1, h2⟩ := firsts hL hS hb p (Nat.le_refl _)
  obtain ⟨h3, h4⟩ := compacts d' hs d'.size (Nat.le_refl _)
  have hmem : ∀ x, x ∈ Lib.compactUpTo d' d'.size ↔ x ∈ (((List.range p).filter (fstB S)).map fun i => L.getD i 0) := by
    intro x
    rw [h4, h2]
    have ha : (∃ i, i < d'.size ∧ d'[i]! = x) ↔ x ∈ d'.toList := by
      rw [List.mem_iff_getElem]
      constructor
      · rintro ⟨i, hi, rfl⟩; exact ⟨i, by simpa using hi, by simp [hi]⟩
      · rintro ⟨i, hi, rfl⟩; exact ⟨i, by simpa using hi, by simp at hi; simp [hi]⟩
    have hb2 : (∃ i, i < p ∧ L.getD i 0 = x) ↔ x ∈ L.take p := by
      rw [List.mem_iff_getElem]
      constructor
      · rintro ⟨i, hi, rfl⟩
        have hl : i < L.length := by rw [hL.1]; omega
        exact ⟨i, by rw [List.length_take]; omega, by rw [List.getElem_take, List.getD_eq_getElem?_getD, List.getElem?_eq_getElem hl]; rfl⟩
      · rintro ⟨i, hi, rfl⟩
        rw [List.length_take] at hi
        exact ⟨i, by omega, by rw [List.getElem_take, List.getD_eq_getElem?_getD, List.getElem?_eq_getElem (show i < L.length by omega)]; rfl⟩
    rw [ha, hb2, hperm.mem_iff]
  have := ((List.perm_ext_iff_of_nodup h3 h1).2 hmem).length_eq
  rw [this, List.length_map]; rfl
end Go.Proofs.Ytapnefhmonpgdaa.RM
