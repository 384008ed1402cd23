/-
  Lattices as products of chains, powersets, grids and tables: which are valid, which words are elements, their order, joins, meets, ends and ranks: plain mathematics. Conditions: as each says.
-/
import Derived.Test.YtpgkcddhpeoiiaaDoorBaseL
import Derived.Test.YtpgkcddhpeoiiaaDoorHasseP
import Derived.Test.YtpgkcddhpeoiiaaDoorGridHM
import Derived.Test.YtpgkcddhpeoiiaaDoorRungP
import Derived.Test.YtpgkcddhpeoiiaaDoorNameP
namespace Go.Proofs.YtpgkcddhpeoiiaaDoor
open Go.RowKit RM

/-! Subsets. -/
section
variable {a b c : Nat}
theorem subN_refl (a : Nat) : MM.subN a a = true := subN_iff.2 fun _ _ h => h
theorem subN_trans (h1 : MM.subN a b = true) (h2 : MM.subN b c = true) : MM.subN a c = true := subN_iff.2 fun i hi h => subN_iff.1 h2 i hi (subN_iff.1 h1 i hi h)
theorem subN_anti (ha : a < 18446744073709551616) (hb : b < 18446744073709551616) (h1 : MM.subN a b = true) (h2 : MM.subN b a = true) : a = b :=
  MM.ext64 ha hb fun i hi => by
    rw [Bool.eq_iff_iff]
    exact ⟨subN_iff.1 h1 i hi, subN_iff.1 h2 i hi⟩
theorem subN_zero (a : Nat) : MM.subN 0 a = true := subN_iff.2 fun i _ h => by rw [Nat.zero_testBit] at h; cases h
theorem subN_orL (a b : Nat) : MM.subN a (a ||| b) = true := subN_iff.2 fun i _ h => by rw [Nat.testBit_or, h]; rfl
theorem subN_orR (a b : Nat) : MM.subN b (a ||| b) = true := subN_iff.2 fun i _ h => by rw [Nat.testBit_or, h, Bool.or_true]
theorem subN_or (h1 : MM.subN a c = true) (h2 : MM.subN b c = true) : MM.subN (a ||| b) c = true := subN_iff.2 fun i hi h => by
  rw [Nat.testBit_or, Bool.or_eq_true] at h
  rcases h with h | h
  · exact subN_iff.1 h1 i hi h
  · exact subN_iff.1 h2 i hi h
theorem subN_andL (a b : Nat) : MM.subN (a &&& b) a = true := subN_iff.2 fun i _ h => by
  rw [Nat.testBit_and, Bool.and_eq_true] at h; exact h.1
theorem subN_andR (a b : Nat) : MM.subN (a &&& b) b = true := subN_iff.2 fun i _ h => by
  rw [Nat.testBit_and, Bool.and_eq_true] at h; exact h.2
theorem subN_and (h1 : MM.subN c a = true) (h2 : MM.subN c b = true) : MM.subN c (a &&& b) = true := subN_iff.2 fun i hi h => by
  rw [Nat.testBit_and, subN_iff.1 h1 i hi h, subN_iff.1 h2 i hi h]; rfl
theorem sub_strict (ha : a < 18446744073709551616) (hb : b < 18446744073709551616) (h : MM.subN a b = true) (hne : a ≠ b) : ∃ i, i < 64 ∧ a.testBit i = false ∧ b.testBit i = true := by
  apply Classical.byContradiction
  intro hn
  apply hne
  refine MM.ext64 ha hb fun i hi => ?_
  cases h1 : a.testBit i with
  | true => rw [subN_iff.1 h i hi h1]
  | false =>
    cases h2 : b.testBit i with
    | false => rfl
    | true => exact absurd ⟨i, hi, h1, h2⟩ hn
theorem rcnt_lt (ha : a < 18446744073709551616) (hb : b < 18446744073709551616) (h : MM.subN a b = true) (hne : a ≠ b) : RG.rcnt a < RG.rcnt b := by
  obtain ⟨i, hi, h1, h2⟩ := sub_strict ha hb h hne
  unfold RG.rcnt MM.els
  exact filter_lt (a := i) (List.mem_range.2 hi) (fun x hx => subN_iff.1 h x (List.mem_range.1 hx)) h1 h2
theorem or_lt (ha : a < 18446744073709551616) (hb : b < 18446744073709551616) : a ||| b < 18446744073709551616 := Nat.or_lt_two_pow (n := 64) ha hb
theorem and_lt (b : Nat) (ha : a < 18446744073709551616) : a &&& b < 18446744073709551616 := Nat.lt_of_le_of_lt Nat.and_le_left ha
end

/-- A factor: its kind, its names (and where their slice stands), its relation. -/
structure Fac where
  kind : Int
  A : Option Addr
  c : Nat
  names : List ByteArray
  n : Int
  l : List Nat
def namedB (xs : List ByteArray) : Bool := decide (1 ≤ xs.length) && decide (xs.length ≤ 64) && xs.all NM.right && decide (twc xs < 0)
/-- What a valid factor's relation must be. -/
def relB (kind n : Int) (l : List Nat) (len : Nat) : Bool :=
  if kind = 1 ∨ kind = 2 then decide (pts n = 0) else if kind = 3 then decide (n = (len : Int)) && rightB n l else if kind = 4 then decide (n = (len : Int)) && latB n l else false
def facB (f : Fac) : Bool := namedB f.names && relB f.kind f.n f.l f.names.length
def wordB (f : Fac) (w : Nat) : Bool := if f.kind = 1 then RG.lvB f.names.length w else if f.kind = 2 then MM.subN w (MM.belowN f.names.length) else if f.kind = 3 then gClosed f.n f.l w else (ptO f.n f.l w).isSome
def joinW (f : Fac) (a b : Nat) : Nat := if f.kind = 4 then raiseN f.n f.l a b else a ||| b
def botW (f : Fac) : Nat := if f.kind = 4 then wordN f.n f.l (((bottomR f.n f.l).getD 0 : Nat) : Int) else 0
def topW (f : Fac) : Nat := if f.kind = 1 then MM.belowN ((f.names.length : Int) - 1) else if f.kind = 2 then MM.belowN f.names.length else if f.kind = 3 then gTop f.n f.l else wordN f.n f.l (((topR f.n f.l).getD 0 : Nat) : Int)
def htW (f : Fac) : Nat := if f.kind = 1 then f.names.length - 1 else if f.kind = 2 then f.names.length else if f.kind = 3 then gHeight f.n f.l else top f.n f.l
def rkW (f : Fac) (w : Nat) : Nat :=
  if f.kind = 3 then ((metF (fun i => clW (pts f.n) (bt f.l) (MM.ofN [(i : Int)])) 64).filter fun x => MM.subN x w).length else if f.kind = 4 then hgt f.n f.l ((ptO f.n f.l w).getD 0) else RG.rcnt w
theorem raiseN_lt (n : Int) (l : List Nat) {a b : Nat} (ha : a < 18446744073709551616) (hb : b < 18446744073709551616) : raiseN n l a b < 18446744073709551616 := by
  unfold raiseN raiseF
  split
  · exact wordN_lt _ _ _
  · exact or_lt ha hb
theorem joinW_lt (f : Fac) {a b : Nat} (ha : a < 18446744073709551616) (hb : b < 18446744073709551616) : joinW f a b < 18446744073709551616 := by
  unfold joinW
  split
  · exact raiseN_lt _ _ ha hb
  · exact or_lt ha hb
theorem botW_lt (f : Fac) : botW f < 18446744073709551616 := by
  unfold botW
  split
  · exact wordN_lt _ _ _
  · omega
theorem topW_lt (f : Fac) : topW f < 18446744073709551616 := by
  unfold topW
  split
  · exact RG.rbelowN_lt _
  · split
    · exact RG.rbelowN_lt _
    · split
      · exact gTop_lt _ _
      · exact wordN_lt _ _ _
theorem named_len {xs : List ByteArray} (h : namedB xs = true) : 1 ≤ xs.length ∧ xs.length ≤ 64 := by
  unfold namedB at h
  simp only [Bool.and_eq_true, decide_eq_true_eq] at h
  exact h.1.1
theorem facB_len {f : Fac} (h : facB f = true) : 1 ≤ f.names.length ∧ f.names.length ≤ 64 := by
  unfold facB at h
  rw [Bool.and_eq_true] at h
  exact named_len h.1
theorem facB_kind {f : Fac} (h : facB f = true) : f.kind = 1 ∨ f.kind = 2 ∨ (f.kind = 3 ∧ rightB f.n f.l = true) ∨ (f.kind = 4 ∧ latB f.n f.l = true) := by
  unfold facB relB at h
  rw [Bool.and_eq_true] at h
  have h2 := h.2
  by_cases e1 : f.kind = 1
  · exact .inl e1
  · by_cases e2 : f.kind = 2
    · exact .inr (.inl e2)
    · rw [if_neg (by omega)] at h2
      by_cases e3 : f.kind = 3
      · rw [if_pos e3, Bool.and_eq_true] at h2
        exact .inr (.inr (.inl ⟨e3, h2.2⟩))
      · rw [if_neg e3] at h2
        by_cases e4 : f.kind = 4
        · rw [if_pos e4, Bool.and_eq_true] at h2
          exact .inr (.inr (.inr ⟨e4, h2.2⟩))
        · rw [if_neg e4] at h2; cases h2

/-- What holds of the words of a factor. -/
structure FL (f : Fac) : Prop where
  bot : wordB f (botW f) = true
  botle : ∀ w, wordB f w = true → MM.subN (botW f) w = true
  top : wordB f (topW f) = true
  topge : ∀ w, wordB f w = true → MM.subN w (topW f) = true
  joinIn : ∀ a b, wordB f a = true → wordB f b = true → wordB f (joinW f a b) = true
  joinL : ∀ a b, wordB f a = true → wordB f b = true → MM.subN a (joinW f a b) = true
  joinR : ∀ a b, wordB f a = true → wordB f b = true → MM.subN b (joinW f a b) = true
  joinLub : ∀ a b c, wordB f a = true → wordB f b = true → wordB f c = true → MM.subN a c = true → MM.subN b c = true → MM.subN (joinW f a b) c = true
  meetIn : ∀ a b, wordB f a = true → wordB f b = true → wordB f (a &&& b) = true
  rank : ∀ a b, a < 18446744073709551616 → b < 18446744073709551616 → wordB f a = true → wordB f b = true → MM.subN a b = true → a ≠ b → rkW f a < rkW f b
  rankle : ∀ a, a < 18446744073709551616 → wordB f a = true → rkW f a ≤ htW f

/-! Chains. -/
theorem lv_iff {n w : Nat} (hn : n ≤ 64) : RG.lvB n w = true ↔ ∃ k : Nat, k < n ∧ w = MM.belowN k := by
  constructor
  · intro h
    unfold RG.lvB at h
    rw [Bool.and_eq_true, decide_eq_true_eq] at h
    have := RG.ok_iff.1 h.1
    exact ⟨RG.rcnt w, by omega, h.2.symm⟩
  · rintro ⟨k, hk, rfl⟩
    exact (RG.lv_of (RG.ok_iff.2 ⟨by omega, by omega, by omega⟩) rfl).1
theorem below_nat0 : MM.belowN ((0 : Nat) : Int) = 0 := MM.belowN_none _ (by omega)
theorem or_belowN (i j : Nat) : MM.belowN i ||| MM.belowN j = MM.belowN ((max i j : Nat) : Int) := by
  rw [RG.or_below]
  congr 1
  omega
theorem and_belowN (i j : Nat) : MM.belowN i &&& MM.belowN j = MM.belowN ((min i j : Nat) : Int) := by
  rw [RG.and_below]
  congr 1
  omega
theorem sub_belowN (i j : Nat) (hi : i ≤ 64) : MM.subN (MM.belowN i) (MM.belowN j) = decide (i ≤ j) := by
  rw [RG.sub_below _ _ (by omega) (by omega), decide_eq_decide]
  omega
theorem fl_chain {f : Fac} (h : facB f = true) (hk : f.kind = 1) : FL f := by
  obtain ⟨h1, h2⟩ := facB_len h
  have hW : ∀ w, wordB f w = true ↔ ∃ k : Nat, k < f.names.length ∧ w = MM.belowN k := fun w => by
    unfold wordB
    rw [if_pos hk]
    exact lv_iff h2
  have hJ : ∀ a b, joinW f a b = a ||| b := fun a b => by unfold joinW; rw [if_neg (by omega)]
  have hB : botW f = 0 := by unfold botW; rw [if_neg (by omega)]
  have hT : topW f = MM.belowN ((f.names.length - 1 : Nat) : Int) := by
    unfold topW
    rw [if_pos hk]
    congr 1
    omega
  have hR : ∀ w, rkW f w = RG.rcnt w := fun w => by unfold rkW; rw [if_neg (by omega), if_neg (by omega)]
  exact {
    bot := (hW _).2 ⟨0, by omega, by rw [hB, below_nat0]⟩
    botle := fun w _ => by rw [hB]; exact subN_zero w
    top := (hW _).2 ⟨f.names.length - 1, by omega, hT⟩
    topge := fun w hw => by
      obtain ⟨k, hk2, rfl⟩ := (hW _).1 hw
      rw [hT, sub_belowN _ _ (by omega)]
      exact decide_eq_true (by omega)
    joinIn := fun a b ha hb => by
      obtain ⟨i, hi, rfl⟩ := (hW _).1 ha
      obtain ⟨j, hj, rfl⟩ := (hW _).1 hb
      rw [hJ, or_belowN]
      exact (hW _).2 ⟨max i j, by omega, rfl⟩
    joinL := fun a b _ _ => by rw [hJ]; exact subN_orL a b
    joinR := fun a b _ _ => by rw [hJ]; exact subN_orR a b
    joinLub := fun a b c _ _ _ h1 h2 => by rw [hJ]; exact subN_or h1 h2
    meetIn := fun a b ha hb => by
      obtain ⟨i, hi, rfl⟩ := (hW _).1 ha
      obtain ⟨j, hj, rfl⟩ := (hW _).1 hb
      rw [and_belowN]
      exact (hW _).2 ⟨min i j, by omega, rfl⟩
    rank := fun a b la lb _ _ hs hne => by rw [hR, hR]; exact rcnt_lt la lb hs hne
    rankle := fun a _ ha => by
      obtain ⟨i, hi, rfl⟩ := (hW _).1 ha
      rw [hR, RG.cnt_below i (by omega)]
      unfold htW
      rw [if_pos hk]
      omega }

/-! Powersets. -/
theorem fl_power {f : Fac} (h : facB f = true) (hk : f.kind = 2) : FL f := by
  obtain ⟨h1, h2⟩ := facB_len h
  have hW : ∀ w, wordB f w = MM.subN w (MM.belowN f.names.length) := fun w => by
    unfold wordB
    rw [if_neg (by omega), if_pos hk]
  have hJ : ∀ a b, joinW f a b = a ||| b := fun a b => by unfold joinW; rw [if_neg (by omega)]
  have hB : botW f = 0 := by unfold botW; rw [if_neg (by omega)]
  have hT : topW f = MM.belowN f.names.length := by unfold topW; rw [if_neg (by omega), if_pos hk]
  have hR : ∀ w, rkW f w = RG.rcnt w := fun w => by unfold rkW; rw [if_neg (by omega), if_neg (by omega)]
  exact {
    bot := by rw [hW, hB]; exact subN_zero _
    botle := fun w _ => by rw [hB]; exact subN_zero w
    top := by rw [hW, hT]; exact subN_refl _
    topge := fun w hw => by rw [hT]; rw [hW] at hw; exact hw
    joinIn := fun a b ha hb => by rw [hW] at ha hb ⊢; rw [hJ]; exact subN_or ha hb
    joinL := fun a b _ _ => by rw [hJ]; exact subN_orL a b
    joinR := fun a b _ _ => by rw [hJ]; exact subN_orR a b
    joinLub := fun a b c _ _ _ h1 h2 => by rw [hJ]; exact subN_or h1 h2
    meetIn := fun a b ha _ => by rw [hW] at ha ⊢; exact subN_trans (subN_andL a b) ha
    rank := fun a b la lb _ _ hs hne => by rw [hR, hR]; exact rcnt_lt la lb hs hne
    rankle := fun a la ha => by
      rw [hW] at ha
      have e : htW f = RG.rcnt (MM.belowN f.names.length) := by
        unfold htW
        rw [if_neg (by omega), if_pos hk, RG.cnt_below _ h2]
      rw [hR, e]
      by_cases hne : a = MM.belowN f.names.length
      · rw [hne]; exact Nat.le_refl _
      · exact Nat.le_of_lt (rcnt_lt la (RG.rbelowN_lt _) ha hne) }

/-! Grids. -/
theorem ncls_congr {p : Nat} {R S : Nat → Nat → Bool} (h : ∀ i j, i < p → j < p → R i j = S i j) : nCls p R = nCls p S := by
  unfold nCls
  congr 1
  exact List.filter_congr fun i hi => fstB_congr h (List.mem_range.1 hi)
theorem fl_grid {f : Fac} (hk : f.kind = 3) (hr : rightB f.n f.l = true) : FL f := by
  obtain ⟨p, h1, hp, hn, hpp, hcb⟩ := right_has hr
  have hS := right_closed hr
  rw [hpp] at hS
  have hcl : ∀ w, gClose f.n f.l w = clW p (bt f.l) w := fun w => by unfold gClose; rw [hr, hpp]; rfl
  have hW : ∀ w, wordB f w = true ↔ clW p (bt f.l) w = w := fun w => by
    unfold wordB
    rw [if_neg (by omega), if_neg (by omega), if_pos hk]
    unfold gClosed
    rw [hr, Bool.true_and, beq_iff_eq, hcl]
  have hJ : ∀ a b, joinW f a b = a ||| b := fun a b => by unfold joinW; rw [if_neg (by omega)]
  have hB : botW f = 0 := by unfold botW; rw [if_neg (by omega)]
  have hT : topW f = mkW p (fun _ _ => true) := by
    unfold topW
    rw [if_neg (by omega), if_neg (by omega), if_pos hk]
    unfold gTop
    rw [hr, hpp]; rfl
  have hR : ∀ w, rkW f w = ((metF (fun i => clW p (bt f.l) (MM.ofN [(i : Int)])) 64).filter fun x => MM.subN x w).length := fun w => by unfold rkW; rw [if_pos hk, hpp]
  have ob0 : ∀ o x, ob 0 o x = false := fun o x => Nat.zero_testBit _
  exact {
    bot := by
      rw [hW, hB]
      refine clW_fix hp hS (by omega) (fun o x _ _ h => ?_) fun o x q y _ _ _ _ h => ?_
      · rw [ob0] at h; cases h
      · rw [ob0] at h; cases h
    botle := fun w _ => by rw [hB]; exact subN_zero w
    top := by
      rw [hW, hT]
      exact clW_fix hp hS (mkW_lt _ _) (Tight.mk _ _) fun o x q y ho hx _ _ _ _ _ => ob_in hp ho hx
    topge := fun w hw => by
      have hw2 := (hW w).1 hw
      rw [hT]
      refine sub_ob.2 fun o x ho hx h => ?_
      have ht := clW_tight p (bt f.l) w o x ho hx (by rw [hw2]; exact h)
      exact ob_in hp ht.1 ht.2
    joinIn := fun a b ha hb => by
      have ha2 := (hW a).1 ha
      have hb2 := (hW b).1 hb
      rw [hJ, hW]
      have := clW_or hp hS a b
      rw [ha2, hb2] at this
      exact this
    joinL := fun a b _ _ => by rw [hJ]; exact subN_orL a b
    joinR := fun a b _ _ => by rw [hJ]; exact subN_orR a b
    joinLub := fun a b c _ _ _ h1 h2 => by rw [hJ]; exact subN_or h1 h2
    meetIn := fun a b ha hb => by
      have ha2 := (hW a).1 ha
      have hb2 := (hW b).1 hb
      rw [hW]
      have := clW_and hp hS a b
      rw [ha2, hb2] at this
      exact this
    rank := fun a b la lb ha hb hs hne => by
      have ha2 := (hW a).1 ha
      have hb2 := (hW b).1 hb
      obtain ⟨i, hi, h1, h2⟩ := sub_strict la lb hs hne
      rw [hR, hR]
      have h3 : ob b (i / 8) (i % 8) = true := by unfold ob; rw [show 8 * (i / 8) + i % 8 = i by omega]; exact h2
      obtain ⟨h4, h5⟩ := clW_tight p (bt f.l) b (i / 8) (i % 8) (by omega) (by omega) (by rw [hb2]; exact h3)
      have h6 : clW p (bt f.l) (MM.ofN [(i : Int)]) ≠ 0 := (cone_zero hp hS hi).2 ⟨h4, h5⟩
      refine filter_lt (a := clW p (bt f.l) (MM.ofN [(i : Int)])) ((metF_mem _ _ _).2 ⟨h6, i, hi, rfl⟩) (fun x _ hx => subN_trans hx hs) ?_ ?_
      · rw [Bool.eq_false_iff]
        intro h7
        have h8 : ob (clW p (bt f.l) (MM.ofN [(i : Int)])) (i / 8) (i % 8) = true := clW_has hp hS h4 h5 (by rw [one_bit i _ _ hi]; exact decide_eq_true (by omega))
        have h9 := sub_ob.1 h7 (i / 8) (i % 8) (by omega) (by omega) h8
        unfold ob at h9
        rw [show 8 * (i / 8) + i % 8 = i by omega, h1] at h9
        cases h9
      · refine clW_least hp (fun o x q y ho hx hq hy g1 g2 g3 => ?_) fun o x ho hx h => ?_
        · rw [← hb2] at g1 ⊢
          exact clW_dcl hp hS b o x q y ho hx hq hy g1 g2 g3
        · rw [one_bit i o x hi, decide_eq_true_eq] at h
          unfold ob
          rw [h]; exact h2
    rankle := fun a _ _ => by
      have e : htW f = (metF (fun i => clW p (bt f.l) (MM.ofN [(i : Int)])) 64).length := by
        unfold htW
        rw [if_neg (by omega), if_neg (by omega), if_pos hk]
        unfold gHeight
        rw [hr, if_pos rfl, hpp, height_count hp hS, ncls_congr fun i j hi hj => clo_self hS hi hj]
      rw [hR, e]
      exact List.length_filter_le _ _ }

/-! Tables. -/
theorem lat_ord {n : Int} {l : List Nat} (h : latB n l = true) : ordR n l = true := by
  unfold latB at h
  simp only [Bool.and_eq_true] at h
  exact h.1.2
theorem pt_iff {n : Int} {l : List Nat} (L : Lat (pts n) (hasR n l)) {w : Nat} : (ptO n l w).isSome = true ↔ ∃ i : Nat, i < pts n ∧ w = wordN n l i := by
  constructor
  · intro h
    obtain ⟨k, hk⟩ := Option.isSome_iff_exists.1 h
    obtain ⟨h1, h2⟩ := fnd_some hk
    unfold ptT at h2
    exact ⟨k, h1, (by simpa using h2 : wordN n l k = w).symm⟩
  · rintro ⟨i, hi, rfl⟩
    rw [pt_word L hi]; rfl
theorem fl_table {f : Fac} (hk : f.kind = 4) (hl : latB f.n f.l = true) : FL f := by
  have L := lat_of hl
  have ho := lat_ord hl
  have hW : ∀ w, wordB f w = true ↔ ∃ i : Nat, i < pts f.n ∧ w = wordN f.n f.l i := fun w => by
    unfold wordB
    rw [if_neg (by omega), if_neg (by omega), if_neg (by omega)]
    exact pt_iff L
  have hJ : ∀ i j : Nat, i < pts f.n → j < pts f.n → joinW f (wordN f.n f.l i) (wordN f.n f.l j) = wordN f.n f.l (bJ (pts f.n) (hasR f.n f.l) i j : Nat) := fun i j hi hj => by
    unfold joinW
    rw [if_pos hk, word_raise L hi hj]; rfl
  have hB : botW f = wordN f.n f.l (((endO (pts f.n) (hasR f.n f.l)).getD 0 : Nat) : Int) := by unfold botW; rw [if_pos hk]; rfl
  have hT : topW f = wordN f.n f.l (((endO (pts f.n) (flp (hasR f.n f.l))).getD 0 : Nat) : Int) := by
    unfold topW
    rw [if_neg (by omega), if_neg (by omega), if_neg (by omega)]; rfl
  have hR : ∀ i : Nat, i < pts f.n → rkW f (wordN f.n f.l i) = hgt f.n f.l i := fun i hi => by
    unfold rkW
    rw [if_neg (by omega), if_pos hk, pt_word L hi]; rfl
  obtain ⟨b1, b2⟩ := end_spec L
  obtain ⟨t1, t2⟩ := end_spec L.flip
  exact {
    bot := (hW _).2 ⟨_, b1, hB⟩
    botle := fun w hw => by
      obtain ⟨i, hi, rfl⟩ := (hW _).1 hw
      rw [hB, word_sub L b1 hi]
      exact b2 i hi
    top := (hW _).2 ⟨_, t1, hT⟩
    topge := fun w hw => by
      obtain ⟨i, hi, rfl⟩ := (hW _).1 hw
      rw [hT, word_sub L hi t1]
      exact t2 i hi
    joinIn := fun a b ha hb => by
      obtain ⟨i, hi, rfl⟩ := (hW _).1 ha
      obtain ⟨j, hj, rfl⟩ := (hW _).1 hb
      exact (hW _).2 ⟨_, (bJ_spec L hi hj).1, hJ i j hi hj⟩
    joinL := fun a b ha hb => by
      obtain ⟨i, hi, rfl⟩ := (hW _).1 ha
      obtain ⟨j, hj, rfl⟩ := (hW _).1 hb
      obtain ⟨k1, k2, k3, k4⟩ := bJ_spec L hi hj
      rw [hJ i j hi hj, word_sub L hi k1]
      exact k2
    joinR := fun a b ha hb => by
      obtain ⟨i, hi, rfl⟩ := (hW _).1 ha
      obtain ⟨j, hj, rfl⟩ := (hW _).1 hb
      obtain ⟨k1, k2, k3, k4⟩ := bJ_spec L hi hj
      rw [hJ i j hi hj, word_sub L hj k1]
      exact k3
    joinLub := fun a b c ha hb hc h1 h2 => by
      obtain ⟨i, hi, rfl⟩ := (hW _).1 ha
      obtain ⟨j, hj, rfl⟩ := (hW _).1 hb
      obtain ⟨k, hk3, rfl⟩ := (hW _).1 hc
      obtain ⟨k1, k2, k3, k4⟩ := bJ_spec L hi hj
      rw [word_sub L hi hk3] at h1
      rw [word_sub L hj hk3] at h2
      rw [hJ i j hi hj, word_sub L k1 hk3]
      exact k4 k hk3 h1 h2
    meetIn := fun a b ha hb => by
      obtain ⟨i, hi, rfl⟩ := (hW _).1 ha
      obtain ⟨j, hj, rfl⟩ := (hW _).1 hb
      exact (hW _).2 ⟨_, (bJ_spec L.flip hi hj).1, (word_meet L hi hj).symm⟩
    rank := fun a b _ _ ha hb hs hne => by
      obtain ⟨i, hi, rfl⟩ := (hW _).1 ha
      obtain ⟨j, hj, rfl⟩ := (hW _).1 hb
      rw [word_sub L hi hj, hasR_nat hi hj] at hs
      rw [hR i hi, hR j hj]
      refine hgt_step ho ?_
      rw [stp_eq, hs]
      have : i ≠ j := fun e => hne (by rw [e])
      simp [hi, hj, this]
    rankle := fun a _ ha => by
      obtain ⟨i, hi, rfl⟩ := (hW _).1 ha
      rw [hR i hi]
      unfold htW
      rw [if_neg (by omega), if_neg (by omega), if_neg (by omega)]
      exact top_ge ho i }
theorem fl_of {f : Fac} (h : facB f = true) : FL f := by
  rcases facB_kind h with e | e | ⟨e, h2⟩ | ⟨e, h2⟩
  · exact fl_chain h e
  · exact fl_power h e
  · exact fl_grid e h2
  · exact fl_table e h2

/-! Elements. -/
def EW (e : List Nat) : Prop := e.length = 8 ∧ ∀ x ∈ e, x < 18446744073709551616
theorem EW.lt {e : List Nat} (h : EW e) (i : Nat) : e.getD i 0 < 18446744073709551616 := by
  rw [List.getD_eq_getElem?_getD]
  cases hh : e[i]? with
  | none => simp
  | some x => exact h.2 x (List.mem_of_getElem? hh)
theorem EW.ext {a b : List Nat} (ha : EW a) (hb : EW b) (h : ∀ i, i < 8 → a.getD i 0 = b.getD i 0) : a = b :=
  List.ext_getElem (by rw [ha.1, hb.1]) fun i h1 h2 => by
    have := h i (by rw [← ha.1]; exact h1)
    rw [List.getD_eq_getElem?_getD, List.getD_eq_getElem?_getD, List.getElem?_eq_getElem h1, List.getElem?_eq_getElem h2] at this
    simpa using this
theorem EW.map {F : Nat → Nat} (h : ∀ i, F i < 18446744073709551616) : EW ((List.range 8).map F) := ⟨by simp, fun x hx => by
  obtain ⟨i, _, rfl⟩ := List.mem_map.1 hx
  exact h i⟩
def f0 : Fac := ⟨0, none, 0, [], 0, zs⟩
def rightS (t : Bool) (fs : List Fac) : Bool := decide (1 ≤ fs.length) && decide (fs.length ≤ 8) && (t || decide (fs.length = 1)) && fs.all facB
def slotB (fs : List Fac) (e : List Nat) (i : Nat) : Bool := if i < fs.length then wordB (fs.getD i f0) (e.getD i 0) else e.getD i 0 == 0
def fitsE (t : Bool) (fs : List Fac) (e : List Nat) : Bool := rightS t fs && (List.range 8).all (slotB fs e)
def leqE (a b : List Nat) : Bool := (List.range 8).all fun i => MM.subN (a.getD i 0) (b.getD i 0)
def joinS (fs : List Fac) (i x y : Nat) : Nat := if i < fs.length then joinW (fs.getD i f0) x y else x ||| y
def joinE (fs : List Fac) (a b : List Nat) : List Nat := (List.range 8).map fun i => joinS fs i (a.getD i 0) (b.getD i 0)
def meetE (a b : List Nat) : List Nat := (List.range 8).map fun i => a.getD i 0 &&& b.getD i 0
def endS (fs : List Fac) (F : Fac → Nat) (i : Nat) : Nat := if i < fs.length then F (fs.getD i f0) else 0
def endE (t : Bool) (fs : List Fac) (F : Fac → Nat) : List Nat := if rightS t fs then (List.range 8).map (endS fs F) else List.replicate 8 0
def heightE (t : Bool) (fs : List Fac) : Nat := if rightS t fs then ((List.range fs.length).map fun i => htW (fs.getD i f0)).sum else 0
def rankE (fs : List Fac) (e : List Nat) : Nat := ((List.range fs.length).map fun i => rkW (fs.getD i f0) (e.getD i 0)).sum
theorem joinS_lt (fs : List Fac) (i : Nat) {x y : Nat} (hx : x < 18446744073709551616) (hy : y < 18446744073709551616) : joinS fs i x y < 18446744073709551616 := by
  unfold joinS
  split
  · exact joinW_lt _ hx hy
  · exact or_lt hx hy
theorem joinE_ew (fs : List Fac) {a b : List Nat} (ha : EW a) (hb : EW b) : EW (joinE fs a b) := EW.map fun i => joinS_lt fs i (ha.lt i) (hb.lt i)
theorem meetE_ew {a : List Nat} (b : List Nat) (ha : EW a) : EW (meetE a b) := EW.map fun i => and_lt _ (ha.lt i)
theorem EW.zeros : EW (List.replicate 8 0) := ⟨by simp, fun x hx => by rw [List.eq_of_mem_replicate hx]; omega⟩
theorem endE_ew (t : Bool) (fs : List Fac) {F : Fac → Nat} (hF : ∀ f, F f < 18446744073709551616) : EW (endE t fs F) := by
  unfold endE
  split
  · refine EW.map fun i => ?_
    unfold endS
    split
    · exact hF _
    · omega
  · exact EW.zeros
theorem joinE_at (fs : List Fac) (a b : List Nat) {i : Nat} (h : i < 8) : (joinE fs a b).getD i 0 = joinS fs i (a.getD i 0) (b.getD i 0) := map_getD _ 8 i h
theorem meetE_at (a b : List Nat) {i : Nat} (h : i < 8) : (meetE a b).getD i 0 = a.getD i 0 &&& b.getD i 0 := map_getD (fun i => a.getD i 0 &&& b.getD i 0) 8 i h
theorem endE_at {t : Bool} {fs : List Fac} (F : Fac → Nat) (hr : rightS t fs = true) {i : Nat} (h : i < 8) : (endE t fs F).getD i 0 = endS fs F i := by
  unfold endE
  rw [hr, if_pos rfl]
  exact map_getD _ 8 i h
theorem fits_iff {t : Bool} {fs : List Fac} {e : List Nat} : fitsE t fs e = true ↔ rightS t fs = true ∧ ∀ i, i < 8 → slotB fs e i = true := by
  unfold fitsE
  rw [Bool.and_eq_true, List.all_eq_true]
  exact and_congr_right fun _ => ⟨fun h i hi => h i (List.mem_range.2 hi), fun h i hi => h i (List.mem_range.1 hi)⟩
theorem leq_iff {a b : List Nat} : leqE a b = true ↔ ∀ i, i < 8 → MM.subN (a.getD i 0) (b.getD i 0) = true := by
  unfold leqE
  rw [List.all_eq_true]
  exact ⟨fun h i hi => h i (List.mem_range.2 hi), fun h i hi => h i (List.mem_range.1 hi)⟩
theorem leq_anti {a b : List Nat} (ha : EW a) (hb : EW b) (h1 : leqE a b = true) (h2 : leqE b a = true) : a = b :=
  EW.ext ha hb fun i hi => subN_anti (ha.lt i) (hb.lt i) (leq_iff.1 h1 i hi) (leq_iff.1 h2 i hi)
theorem leq_refl (a : List Nat) : leqE a a = true := leq_iff.2 fun _ _ => subN_refl _
theorem leq_trans {a b c : List Nat} (h1 : leqE a b = true) (h2 : leqE b c = true) : leqE a c = true := leq_iff.2 fun i hi => subN_trans (leq_iff.1 h1 i hi) (leq_iff.1 h2 i hi)
theorem slot_in {fs : List Fac} {e : List Nat} {i : Nat} (h : i < fs.length) : slotB fs e i = wordB (fs.getD i f0) (e.getD i 0) := by unfold slotB; rw [if_pos h]
theorem slot_out {fs : List Fac} {e : List Nat} {i : Nat} (h : ¬ i < fs.length) : slotB fs e i = true ↔ e.getD i 0 = 0 := by unfold slotB; rw [if_neg h, beq_iff_eq]
theorem joinS_in {fs : List Fac} {i x y : Nat} (h : i < fs.length) : joinS fs i x y = joinW (fs.getD i f0) x y := by unfold joinS; rw [if_pos h]
theorem joinS_out {fs : List Fac} {i x y : Nat} (h : ¬ i < fs.length) : joinS fs i x y = x ||| y := by unfold joinS; rw [if_neg h]
theorem right_len {t : Bool} {fs : List Fac} (h : rightS t fs = true) : 1 ≤ fs.length ∧ fs.length ≤ 8 := by
  unfold rightS at h
  simp only [Bool.and_eq_true, decide_eq_true_eq] at h
  exact h.1.1
theorem right_fac {t : Bool} {fs : List Fac} (h : rightS t fs = true) {i : Nat} (hi : i < fs.length) : facB (fs.getD i f0) = true := by
  unfold rightS at h
  simp only [Bool.and_eq_true, List.all_eq_true] at h
  rw [List.getD_eq_getElem?_getD, List.getElem?_eq_getElem hi]
  exact h.2 _ (List.getElem_mem hi)
section
variable {t : Bool} {fs : List Fac} {a b c : List Nat}
theorem right_fl (h : rightS t fs = true) {i : Nat} (hi : i < fs.length) : FL (fs.getD i f0) := fl_of (right_fac h hi)
theorem fits_end (hr : rightS t fs = true) {F : Fac → Nat} (hF : ∀ f, FL f → wordB f (F f) = true) : fitsE t fs (endE t fs F) = true := fits_iff.2 ⟨hr, fun i hi => by
  by_cases h : i < fs.length
  · rw [slot_in h, endE_at F hr hi]
    unfold endS
    rw [if_pos h]
    exact hF _ (right_fl hr h)
  · rw [slot_out h, endE_at F hr hi]
    unfold endS
    rw [if_neg h]⟩
theorem fits_bot (hr : rightS t fs = true) : fitsE t fs (endE t fs botW) = true := fits_end hr fun _ h => h.bot
theorem fits_top (hr : rightS t fs = true) : fitsE t fs (endE t fs topW) = true := fits_end hr fun _ h => h.top
theorem bot_leq (ha : fitsE t fs a = true) : leqE (endE t fs botW) a = true := by
  obtain ⟨hr, hs⟩ := fits_iff.1 ha
  refine leq_iff.2 fun i hi => ?_
  rw [endE_at _ hr hi]
  unfold endS
  by_cases h : i < fs.length
  · rw [if_pos h]
    exact (right_fl hr h).botle _ (by rw [← slot_in h]; exact hs i hi)
  · rw [if_neg h]; exact subN_zero _
theorem leq_top (ha : fitsE t fs a = true) : leqE a (endE t fs topW) = true := by
  obtain ⟨hr, hs⟩ := fits_iff.1 ha
  refine leq_iff.2 fun i hi => ?_
  rw [endE_at _ hr hi]
  unfold endS
  by_cases h : i < fs.length
  · rw [if_pos h]
    exact (right_fl hr h).topge _ (by rw [← slot_in h]; exact hs i hi)
  · rw [(slot_out h).1 (hs i hi)]; exact subN_zero _
theorem fits_join (ha : fitsE t fs a = true) (hb : fitsE t fs b = true) : fitsE t fs (joinE fs a b) = true := by
  obtain ⟨hr, hs⟩ := fits_iff.1 ha
  obtain ⟨_, hu⟩ := fits_iff.1 hb
  refine fits_iff.2 ⟨hr, fun i hi => ?_⟩
  by_cases h : i < fs.length
  · rw [slot_in h, joinE_at fs a b hi, joinS_in h]
    exact (right_fl hr h).joinIn _ _ (by rw [← slot_in h]; exact hs i hi) (by rw [← slot_in h]; exact hu i hi)
  · rw [slot_out h, joinE_at fs a b hi, joinS_out h, (slot_out h).1 (hs i hi), (slot_out h).1 (hu i hi)]; rfl
theorem fits_meet (ha : fitsE t fs a = true) (hb : fitsE t fs b = true) : fitsE t fs (meetE a b) = true := by
  obtain ⟨hr, hs⟩ := fits_iff.1 ha
  obtain ⟨_, hu⟩ := fits_iff.1 hb
  refine fits_iff.2 ⟨hr, fun i hi => ?_⟩
  by_cases h : i < fs.length
  · rw [slot_in h, meetE_at a b hi]
    exact (right_fl hr h).meetIn _ _ (by rw [← slot_in h]; exact hs i hi) (by rw [← slot_in h]; exact hu i hi)
  · rw [slot_out h, meetE_at a b hi, (slot_out h).1 (hs i hi)]; simp
theorem leq_joinL (ha : fitsE t fs a = true) (hb : fitsE t fs b = true) : leqE a (joinE fs a b) = true := by
  obtain ⟨hr, hs⟩ := fits_iff.1 ha
  obtain ⟨_, hu⟩ := fits_iff.1 hb
  refine leq_iff.2 fun i hi => ?_
  rw [joinE_at fs a b hi]
  by_cases h : i < fs.length
  · rw [joinS_in h]
    exact (right_fl hr h).joinL _ _ (by rw [← slot_in h]; exact hs i hi) (by rw [← slot_in h]; exact hu i hi)
  · rw [joinS_out h]; exact subN_orL _ _
theorem leq_joinR (ha : fitsE t fs a = true) (hb : fitsE t fs b = true) : leqE b (joinE fs a b) = true := by
  obtain ⟨hr, hs⟩ := fits_iff.1 ha
  obtain ⟨_, hu⟩ := fits_iff.1 hb
  refine leq_iff.2 fun i hi => ?_
  rw [joinE_at fs a b hi]
  by_cases h : i < fs.length
  · rw [joinS_in h]
    exact (right_fl hr h).joinR _ _ (by rw [← slot_in h]; exact hs i hi) (by rw [← slot_in h]; exact hu i hi)
  · rw [joinS_out h]; exact subN_orR _ _
theorem join_lub (ha : fitsE t fs a = true) (hb : fitsE t fs b = true) (hc : fitsE t fs c = true) (h1 : leqE a c = true) (h2 : leqE b c = true) : leqE (joinE fs a b) c = true := by
  obtain ⟨hr, hs⟩ := fits_iff.1 ha
  obtain ⟨_, hu⟩ := fits_iff.1 hb
  obtain ⟨_, hv⟩ := fits_iff.1 hc
  refine leq_iff.2 fun i hi => ?_
  rw [joinE_at fs a b hi]
  by_cases h : i < fs.length
  · rw [joinS_in h]
    exact (right_fl hr h).joinLub _ _ _ (by rw [← slot_in h]; exact hs i hi) (by rw [← slot_in h]; exact hu i hi) (by rw [← slot_in h]; exact hv i hi) (leq_iff.1 h1 i hi) (leq_iff.1 h2 i hi)
  · rw [joinS_out h]; exact subN_or (leq_iff.1 h1 i hi) (leq_iff.1 h2 i hi)
theorem leq_meetL (a b : List Nat) : leqE (meetE a b) a = true := leq_iff.2 fun i hi => by rw [meetE_at a b hi]; exact subN_andL _ _
theorem leq_meetR (a b : List Nat) : leqE (meetE a b) b = true := leq_iff.2 fun i hi => by rw [meetE_at a b hi]; exact subN_andR _ _
theorem meet_glb (h1 : leqE c a = true) (h2 : leqE c b = true) : leqE c (meetE a b) = true := leq_iff.2 fun i hi => by rw [meetE_at a b hi]; exact subN_and (leq_iff.1 h1 i hi) (leq_iff.1 h2 i hi)
theorem join_assoc (ea : EW a) (eb : EW b) (ec : EW c) (ha : fitsE t fs a = true) (hb : fitsE t fs b = true) (hc : fitsE t fs c = true) : joinE fs a (joinE fs b c) = joinE fs (joinE fs a b) c := by
  have hbc := fits_join hb hc
  have hab := fits_join ha hb
  have h1 := fits_join ha hbc
  have h2 := fits_join hab hc
  refine leq_anti (joinE_ew fs ea (joinE_ew fs eb ec)) (joinE_ew fs (joinE_ew fs ea eb) ec) ?_ ?_
  · refine join_lub ha hbc h2 (leq_trans (leq_joinL ha hb) (leq_joinL hab hc)) (join_lub hb hc h2 (leq_trans (leq_joinR ha hb) (leq_joinL hab hc)) (leq_joinR hab hc))
  · refine join_lub hab hc h1 (join_lub ha hb h1 (leq_joinL ha hbc) (leq_trans (leq_joinL hb hc) (leq_joinR ha hbc))) (leq_trans (leq_joinR hb hc) (leq_joinR ha hbc))
theorem join_absorb (ea : EW a) (ha : fitsE t fs a = true) (hb : fitsE t fs b = true) : joinE fs a (meetE a b) = a := by
  have hm := fits_meet ha hb
  exact leq_anti (joinE_ew fs ea (meetE_ew b ea)) ea (join_lub ha hm ha (leq_refl a) (leq_meetL a b)) (leq_joinL ha hm)
theorem meet_absorb (ea : EW a) (ha : fitsE t fs a = true) (hb : fitsE t fs b = true) : meetE a (joinE fs a b) = a :=
  leq_anti (meetE_ew _ ea) ea (leq_meetL _ _) (meet_glb (leq_refl a) (leq_joinL ha hb))
end
/-! Ranks. -/
theorem sum_le {F G : Nat → Nat} : ∀ n, (∀ i, i < n → F i ≤ G i) → ((List.range n).map F).sum ≤ ((List.range n).map G).sum
  | 0, _ => Nat.le_refl _
  | n + 1, h => by
    have h1 := sum_le n fun i hi => h i (by omega)
    have h2 := h n (by omega)
    simp only [List.range_succ, List.map_append, List.sum_append, List.map_cons, List.map_nil, List.sum_cons, List.sum_nil]
    omega
theorem sum_lt {F G : Nat → Nat} : ∀ n, (∀ i, i < n → F i ≤ G i) → (∃ i, i < n ∧ F i < G i) → ((List.range n).map F).sum < ((List.range n).map G).sum
  | 0, _, h => by obtain ⟨i, hi, _⟩ := h; omega
  | n + 1, h, hx => by
    have h1 := sum_le n fun i hi => h i (by omega)
    have h2 := h n (by omega)
    simp only [List.range_succ, List.map_append, List.sum_append, List.map_cons, List.map_nil, List.sum_cons, List.sum_nil]
    obtain ⟨i, hi, hlt⟩ := hx
    by_cases e : i = n
    · subst e; omega
    · have := sum_lt n (fun i hi => h i (by omega)) ⟨i, by omega, hlt⟩
      omega
section
variable {t : Bool} {fs : List Fac} {a b : List Nat}
theorem rank_le (ea : EW a) (ha : fitsE t fs a = true) : rankE fs a ≤ heightE t fs := by
  obtain ⟨hr, hs⟩ := fits_iff.1 ha
  have hl := right_len hr
  unfold rankE heightE
  rw [hr, if_pos rfl]
  exact sum_le _ fun i hi => (right_fl hr hi).rankle _ (ea.lt i) (by rw [← slot_in hi]; exact hs i (by omega))
theorem rank_lt (ea : EW a) (eb : EW b) (ha : fitsE t fs a = true) (hb : fitsE t fs b = true) (h : leqE a b = true) (hne : a ≠ b) : rankE fs a < rankE fs b := by
  obtain ⟨hr, hs⟩ := fits_iff.1 ha
  obtain ⟨_, hu⟩ := fits_iff.1 hb
  have hl := right_len hr
  have h1 : ∀ i, i < fs.length → a.getD i 0 ≠ b.getD i 0 → rkW (fs.getD i f0) (a.getD i 0) < rkW (fs.getD i f0) (b.getD i 0) := fun i hi he =>
    (right_fl hr hi).rank _ _ (ea.lt i) (eb.lt i) (by rw [← slot_in hi]; exact hs i (by omega)) (by rw [← slot_in hi]; exact hu i (by omega)) (leq_iff.1 h i (by omega)) he
  unfold rankE
  refine sum_lt _ (fun i hi => ?_) ?_
  · by_cases he : a.getD i 0 = b.getD i 0
    · rw [he]; exact Nat.le_refl _
    · exact Nat.le_of_lt (h1 i hi he)
  · apply Classical.byContradiction
    intro hn
    apply hne
    refine EW.ext ea eb fun i hi => ?_
    by_cases hi2 : i < fs.length
    · apply Classical.byContradiction
      intro he
      exact hn ⟨i, hi2, h1 i hi2 he⟩
    · rw [(slot_out hi2).1 (hs i hi), (slot_out hi2).1 (hu i hi)]
end
/-- One step of the walk up. -/
theorem step_rank {t : Bool} {fs : List Fac} {a x : List Nat} (ea : EW a) (ex : EW x) (ha : fitsE t fs a = true) (hx : fitsE t fs x = true) (hne : joinE fs a x ≠ a) : rankE fs a + 1 ≤ rankE fs (joinE fs a x) :=
  rank_lt ea (joinE_ew fs ea ex) ha (fits_join ha hx) (leq_joinL ha hx) (fun e => hne e.symm)
end Go.Proofs.YtpgkcddhpeoiiaaDoor
