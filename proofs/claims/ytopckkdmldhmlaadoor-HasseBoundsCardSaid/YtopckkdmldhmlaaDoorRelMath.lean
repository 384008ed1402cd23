/-
  The plain mathematics of relations on at most 64 points: rows of bits, paths, and the closure reached point by point. Conditions: none.
-/
import Derived.Test.YtopckkdmldhmlaaDoorMaskMath
namespace Go.Proofs.YtopckkdmldhmlaaDoor.RM
open Go.Proofs.YtopckkdmldhmlaaDoor

/-- How many points there are. -/
def pts (n : Int) : Nat := if n < 0 then 0 else if 64 < n then 64 else n.toNat
theorem pts_neg {n : Int} (h : n < 0) : pts n = 0 := by simp [pts, h]
theorem pts_big {n : Int} (h : 64 < n) : pts n = 64 := by unfold pts; rw [if_neg (by omega), if_pos h]
theorem pts_in {n : Int} (h : 0 ≤ n) (h2 : n ≤ 64) : ((pts n : Nat) : Int) = n := by unfold pts; rw [if_neg (by omega), if_neg (by omega)]; omega
theorem pts_le (n : Int) : pts n ≤ 64 := by unfold pts; split <;> (try split) <;> omega
theorem pts_pts (n : Int) : pts ((pts n : Nat) : Int) = pts n := by have := pts_le n; generalize pts n = k at *; unfold pts; split <;> (try split) <;> omega
/-- 64 words. -/
def RW (l : List Nat) : Prop := l.length = 64 ∧ ∀ x ∈ l, x < 18446744073709551616
def zs : List Nat := List.replicate 64 0
theorem RW.zs : RW zs := ⟨by simp [Go.Proofs.YtopckkdmldhmlaaDoor.RM.zs], fun x hx => by simp [Go.Proofs.YtopckkdmldhmlaaDoor.RM.zs] at hx; omega⟩
theorem RW.lt {l : List Nat} (h : RW l) (i : Nat) : l.getD i 0 < 18446744073709551616 := by
  rw [List.getD_eq_getElem?_getD]
  cases hx : l[i]? with
  | none => simp
  | some x => exact h.2 x (List.mem_of_getElem? hx)
theorem RW.set {l : List Nat} (h : RW l) (i x : Nat) (hx : x < 18446744073709551616) : RW (l.set i x) :=
  ⟨by simp [h.1], fun y hy => by
    rcases List.mem_or_eq_of_mem_set hy with h1 | h1
    · exact h.2 y h1
    · omega⟩
/-- Bit j of row i. -/
def bt (l : List Nat) (i j : Nat) : Bool := (l.getD i 0).testBit j
theorem bt_zs (i j : Nat) : bt zs i j = false := by
  unfold bt zs
  rw [List.getD_eq_getElem?_getD]
  by_cases h : i < 64
  · rw [List.getElem?_eq_getElem (by simpa using h), List.getElem_replicate]; simp
  · rw [List.getElem?_eq_none (by simp; omega)]; simp
theorem bt_high {l : List Nat} (h : RW l) (i j : Nat) (hj : 64 ≤ j) : bt l i j = false := by
  unfold bt
  exact Nat.testBit_lt_two_pow (Nat.lt_of_lt_of_le (h.lt i) (Nat.pow_le_pow_right (show 0 < 2 by omega) hj))
theorem bt_far {l : List Nat} (h : RW l) (i j : Nat) (hi : 64 ≤ i) : bt l i j = false := by
  unfold bt
  rw [List.getD_eq_getElem?_getD, List.getElem?_eq_none (by rw [h.1]; exact hi)]
  simp
theorem getD_set {l : List Nat} (h : RW l) (i x a : Nat) (hi : i < 64) : (l.set i x).getD a 0 = if a = i then x else l.getD a 0 := by
  rw [List.getD_eq_getElem?_getD, List.getD_eq_getElem?_getD, List.getElem?_set]
  by_cases e : i = a
  · subst e
    rw [if_pos rfl, if_pos (by rw [h.1]; exact hi), if_pos rfl]; rfl
  · rw [if_neg e, if_neg (fun e' => e e'.symm)]
theorem bt_set {l : List Nat} (h : RW l) (i x a b : Nat) (hi : i < 64) : bt (l.set i x) a b = if a = i then x.testBit b else bt l a b := by
  unfold bt
  rw [getD_set h i x a hi]
  split <;> rfl
theorem rext {l m : List Nat} (h : RW l) (h2 : RW m) (he : ∀ i j, i < 64 → j < 64 → bt l i j = bt m i j) : l = m := by
  refine List.ext_getElem (by rw [h.1, h2.1]) fun i h1 h3 => ?_
  have hi : i < 64 := by rw [h.1] at h1; exact h1
  have e1 : l.getD i 0 = l[i] := by rw [List.getD_eq_getElem?_getD, List.getElem?_eq_getElem h1]; rfl
  have e2 : m.getD i 0 = m[i] := by rw [List.getD_eq_getElem?_getD, List.getElem?_eq_getElem h3]; rfl
  rw [← e1, ← e2]
  exact MM.ext64 (h.lt i) (h2.lt i) fun j hj => he i j hi hj
/-- The relation of p points that a test tells, without other bits. -/
def mkR (p : Nat) (R : Nat → Nat → Bool) : List Nat := (List.range 64).map fun i => MM.ofP (fun j => decide (i < p) && decide (j < p) && R i j) 64
theorem RW.mk (p : Nat) (R : Nat → Nat → Bool) : RW (mkR p R) := ⟨by simp [mkR], fun x hx => by
  simp only [mkR, List.mem_map] at hx
  obtain ⟨i, _, rfl⟩ := hx
  exact MM.ofP_lt _ _⟩
theorem bt_mk (p : Nat) (R : Nat → Nat → Bool) (i j : Nat) (hp : p ≤ 64) : bt (mkR p R) i j = (decide (i < p) && decide (j < p) && R i j) := by
  unfold bt mkR
  rw [List.getD_eq_getElem?_getD, List.getElem?_map]
  by_cases hi : i < 64
  · rw [List.getElem?_range hi]
    simp only [Option.map_some, Option.getD_some, MM.ofP_bit]
    by_cases hj : j < 64
    · simp [hj]
    · simp [hj, show ¬ j < p by omega]
  · rw [List.getElem?_eq_none (by simp; omega)]
    simp [show ¬ i < p by omega]
theorem mk_ext (p : Nat) (R S : Nat → Nat → Bool) (hp : p ≤ 64) (h : ∀ i j, i < p → j < p → R i j = S i j) : mkR p R = mkR p S :=
  rext (RW.mk _ _) (RW.mk _ _) fun i j _ _ => by
    rw [bt_mk _ _ _ _ hp, bt_mk _ _ _ _ hp]
    by_cases h1 : i < p
    · by_cases h2 : j < p
      · rw [h i j h1 h2]
      · simp [h2]
    · simp [h1]
/-- A list of rows that has the bits of a test is that test's relation. -/
theorem eq_mk {l : List Nat} (h : RW l) (p : Nat) (R : Nat → Nat → Bool) (hp : p ≤ 64) (he : ∀ i j, i < 64 → j < 64 → bt l i j = (decide (i < p) && decide (j < p) && R i j)) : l = mkR p R :=
  rext h (RW.mk _ _) fun i j hi hj => by rw [he i j hi hj, bt_mk _ _ _ _ hp]

/-- A way from i to j, step by step, through points. -/
inductive Path (p : Nat) (R : Nat → Nat → Bool) : Nat → Nat → Prop where
  | refl (i : Nat) (h : i < p) : Path p R i i
  | step (i k j : Nat) (h : Path p R i k) (hr : R k j = true) (hj : j < p) : Path p R i j
theorem Path.lt_right {p : Nat} {R : Nat → Nat → Bool} {i j : Nat} (h : Path p R i j) : j < p := by cases h <;> assumption
theorem Path.lt_left {p : Nat} {R : Nat → Nat → Bool} {i j : Nat} (h : Path p R i j) : i < p := by induction h <;> assumption
theorem Path.trans {p : Nat} {R : Nat → Nat → Bool} {i j k : Nat} (h : Path p R i j) (h2 : Path p R j k) : Path p R i k := by
  induction h2 with
  | refl => exact h
  | step k j _ hr hj ih => exact Path.step _ k j ih hr hj
theorem Path.one {p : Nat} {R : Nat → Nat → Bool} {i j : Nat} (hi : i < p) (hr : R i j = true) (hj : j < p) : Path p R i j := Path.step i i j (Path.refl i hi) hr hj
theorem Path.within {p : Nat} {R S : Nat → Nat → Bool} {i j : Nat} (h : Path p R i j) (hre : ∀ a, a < p → S a a = true) (htr : ∀ a b c, a < p → b < p → c < p → S a b = true → S b c = true → S a c = true)
    (hsub : ∀ a b, a < p → b < p → R a b = true → S a b = true) : S i j = true := by
  induction h with
  | refl h => exact hre _ h
  | step k j hp hr hj ih => exact htr _ k j hp.lt_left hp.lt_right hj ih (hsub k j hp.lt_right hj hr)

/-- What is related by ways through the points below k. -/
def war (R : Nat → Nat → Bool) : Nat → Nat → Nat → Bool
  | 0, i, j => R i j || decide (i = j)
  | k + 1, i, j => war R k i j || (war R k i k && war R k k j)
theorem war_zero (R : Nat → Nat → Bool) (i j : Nat) : war R 0 i j = (R i j || decide (i = j)) := rfl
theorem war_succ (R : Nat → Nat → Bool) (k i j : Nat) : war R (k + 1) i j = (war R k i j || (war R k i k && war R k k j)) := rfl
theorem war_at (R : Nat → Nat → Bool) (k j : Nat) : war R (k + 1) k j = war R k k j := by rw [war_succ]; cases war R k k j <;> simp
theorem war_to (R : Nat → Nat → Bool) (k i : Nat) : war R (k + 1) i k = war R k i k := by rw [war_succ]; cases war R k i k <;> simp
theorem war_path {p : Nat} {R : Nat → Nat → Bool} : ∀ (k i j : Nat), k ≤ p → i < p → j < p → war R k i j = true → Path p R i j
  | 0, i, j, _, hi, hj, h => by
    rw [war_zero, Bool.or_eq_true, decide_eq_true_eq] at h
    rcases h with h | rfl
    · exact Path.one hi h hj
    · exact Path.refl _ hi
  | k + 1, i, j, hk, hi, hj, h => by
    rw [war_succ, Bool.or_eq_true, Bool.and_eq_true] at h
    rcases h with h | ⟨h1, h2⟩
    · exact war_path k i j (by omega) hi hj h
    · exact (war_path k i k (by omega) hi (by omega) h1).trans (war_path k k j (by omega) (by omega) hj h2)
theorem war_trans {R : Nat → Nat → Bool} : ∀ (k i m j : Nat), m < k → war R k i m = true → war R k m j = true → war R k i j = true
  | 0, _, _, _, hm, _, _ => by omega
  | k + 1, i, m, j, hm, h1, h2 => by
    by_cases e : m = k
    · subst e
      rw [war_to] at h1
      rw [war_at] at h2
      rw [war_succ, h1, h2]; simp
    · have hlt : m < k := by omega
      rw [war_succ, Bool.or_eq_true, Bool.and_eq_true] at h1 h2 ⊢
      rcases h1 with h1 | ⟨h1, h3⟩ <;> rcases h2 with h2 | ⟨h2, h4⟩
      · exact .inl (war_trans k i m j hlt h1 h2)
      · exact .inr ⟨war_trans k i m k hlt h1 h2, h4⟩
      · exact .inr ⟨h1, war_trans k k m j hlt h3 h2⟩
      · exact .inr ⟨h1, h4⟩
theorem war_mono {R : Nat → Nat → Bool} {i j : Nat} (h : war R 0 i j = true) : ∀ k, war R k i j = true
  | 0 => h
  | k + 1 => by rw [war_succ, war_mono h k]; rfl
theorem path_war {p : Nat} {R : Nat → Nat → Bool} {i j : Nat} (h : Path p R i j) : war R p i j = true :=
  h.within (fun a _ => war_mono (by rw [war_zero]; simp) p) (fun _ _ _ _ hb _ => war_trans p _ _ _ hb) (fun a b _ _ hr => war_mono (by rw [war_zero, hr]; rfl) p)
/-- The closure, as a test. -/
def clo (p : Nat) (R : Nat → Nat → Bool) (i j : Nat) : Bool := decide (i < p) && decide (j < p) && war R p i j
theorem clo_iff {p : Nat} {R : Nat → Nat → Bool} {i j : Nat} : clo p R i j = true ↔ Path p R i j := by
  unfold clo
  simp only [Bool.and_eq_true, decide_eq_true_eq]
  exact ⟨fun ⟨⟨h1, h2⟩, h3⟩ => war_path p i j (Nat.le_refl _) h1 h2 h3, fun h => ⟨⟨h.lt_left, h.lt_right⟩, path_war h⟩⟩
theorem path_congr {p : Nat} {R S : Nat → Nat → Bool} (h : ∀ i j, i < p → j < p → R i j = S i j) {i j : Nat} (hp : Path p R i j) : Path p S i j := by
  induction hp with
  | refl h => exact Path.refl _ h
  | step k j hk hr hj ih => exact Path.step _ k j ih (by rw [← h k j hk.lt_right hj]; exact hr) hj
theorem clo_congr {p : Nat} {R S : Nat → Nat → Bool} (h : ∀ i j, i < p → j < p → R i j = S i j) (i j : Nat) : clo p R i j = clo p S i j := by
  rw [Bool.eq_iff_iff, clo_iff, clo_iff]
  exact ⟨path_congr h, path_congr fun a b ha hb => (h a b ha hb).symm⟩
/-- Closed: reflexive and transitive. -/
def Closed (p : Nat) (R : Nat → Nat → Bool) : Prop := (∀ a, a < p → R a a = true) ∧ ∀ a b c, a < p → b < p → c < p → R a b = true → R b c = true → R a c = true
theorem clo_closed (p : Nat) (R : Nat → Nat → Bool) : Closed p (clo p R) :=
  ⟨fun a ha => clo_iff.2 (Path.refl a ha), fun _ _ _ _ _ _ h1 h2 => clo_iff.2 ((clo_iff.1 h1).trans (clo_iff.1 h2))⟩
theorem clo_has {p : Nat} {R : Nat → Nat → Bool} {i j : Nat} (hi : i < p) (hj : j < p) (h : R i j = true) : clo p R i j = true := clo_iff.2 (Path.one hi h hj)
theorem clo_least {p : Nat} {R S : Nat → Nat → Bool} (hS : Closed p S) (hsub : ∀ a b, a < p → b < p → R a b = true → S a b = true) {i j : Nat} (h : clo p R i j = true) : S i j = true :=
  (clo_iff.1 h).within hS.1 hS.2 hsub
theorem clo_self {p : Nat} {R : Nat → Nat → Bool} (h : Closed p R) {i j : Nat} (hi : i < p) (hj : j < p) : clo p R i j = R i j := by
  rw [Bool.eq_iff_iff]
  exact ⟨clo_least h fun _ _ _ _ h => h, clo_has hi hj⟩

/-- A relation without its other bits; its closure. -/
def cl (n : Int) (l : List Nat) : List Nat := mkR (pts n) (bt l)
def cz (n : Int) (l : List Nat) : List Nat := mkR (pts n) (clo (pts n) (bt l))
theorem bt_cl (n : Int) (l : List Nat) (i j : Nat) : bt (cl n l) i j = (decide (i < pts n) && decide (j < pts n) && bt l i j) := bt_mk _ _ _ _ (pts_le n)
theorem bt_cz (n : Int) (l : List Nat) (i j : Nat) : bt (cz n l) i j = clo (pts n) (bt l) i j := by
  unfold cz
  rw [bt_mk _ _ _ _ (pts_le n)]
  unfold clo
  cases decide (i < pts n) <;> cases decide (j < pts n) <;> simp
theorem cl_cl (n : Int) (l : List Nat) : cl (pts n) (cl n l) = cl n l := by
  unfold cl
  rw [pts_pts]
  exact mk_ext _ _ _ (pts_le n) fun i j hi hj => by rw [bt_mk _ _ _ _ (pts_le n)]; simp [hi, hj]
theorem cz_cl (n : Int) (l : List Nat) : cz (pts n) (cl n l) = cz n l := by
  unfold cz
  rw [pts_pts]
  exact mk_ext _ _ _ (pts_le n) fun i j _ _ => clo_congr (fun a b ha hb => by rw [bt_cl]; simp [ha, hb]) i j
theorem cl_cz (n : Int) (l : List Nat) : cl (pts n) (cz n l) = cz n l := by
  refine rext (RW.mk _ _) (RW.mk _ _) fun i j _ _ => ?_
  rw [bt_cl, pts_pts, bt_cz]
  unfold clo
  cases decide (i < pts n) <;> cases decide (j < pts n) <;> simp
theorem cz_cz (n : Int) (l : List Nat) : cz (pts n) (cz n l) = cz n l := by
  refine rext (RW.mk _ _) (RW.mk _ _) fun i j _ _ => ?_
  rw [bt_cz, pts_pts, bt_cz]
  by_cases hi : i < pts n
  · by_cases hj : j < pts n
    · rw [clo_congr (S := clo (pts n) (bt l)) (fun a b _ _ => bt_cz n l a b), clo_self (clo_closed _ _) hi hj]
    · simp [clo, hj]
  · simp [clo, hi]
/-- Closed, as a test: the relation is its closure. -/
theorem closed_iff (n : Int) (l : List Nat) : cl n l = cz n l ↔ Closed (pts n) (bt l) := by
  constructor
  · intro h
    have hb : ∀ i j, i < pts n → j < pts n → bt l i j = clo (pts n) (bt l) i j := fun i j hi hj => by
      rw [← bt_cz, ← h, bt_cl]; simp [hi, hj]
    refine ⟨fun a ha => by rw [hb a a ha ha]; exact (clo_closed _ _).1 a ha, fun a b c ha hb' hc h1 h2 => ?_⟩
    rw [hb _ _ ha hb'] at h1
    rw [hb _ _ hb' hc] at h2
    rw [hb _ _ ha hc]
    exact (clo_closed _ _).2 a b c ha hb' hc h1 h2
  · intro h
    exact mk_ext _ _ _ (pts_le n) fun i j hi hj => (clo_self h hi hj).symm
end Go.Proofs.YtopckkdmldhmlaaDoor.RM
