/-
  The five statements' functions of layer 1 return true. Conditions: the table of math/bits in memory; the slice reads as a list.
-/
import Derived.Test.YtemmjidaigbdfaaDoorMaskE
namespace Go.Proofs.YtemmjidaigbdfaaDoor
open Go.RowKit

theorem subN_less (s : Nat) (i : Int) : MM.subN (MM.lessN s i) s = true := by
  unfold MM.subN
  rw [List.all_eq_true]
  intro k hk
  rw [MM.mem_els, MM.lessN_bit] at hk
  have := hk.2
  simp only [Bool.and_eq_true] at this
  exact this.1
theorem hasN_less (s : Nat) (i : Int) : MM.hasN (MM.lessN s i) i = false := by
  unfold MM.hasN
  by_cases h : 0 ≤ i ∧ i < 64
  · rw [MM.lessN_bit]
    simp only [h, and_self, decide_true, Bool.true_and]
    have e : decide (i = (i.toNat : Int) ∧ i.toNat < 64) = true := by simp only [decide_eq_true_eq]; omega
    rw [e]; simp
  · simp [h]
theorem withN_less (s : Nat) (hs : s < 18446744073709551616) (i : Int) : MM.withN (MM.lessN s i) i = MM.withN s i := by
  refine MM.ext64 (MM.withN_lt (MM.lessN_lt hs i) i) (MM.withN_lt hs i) fun k hk => ?_
  rw [MM.withN_bit, MM.withN_bit, MM.lessN_bit]
  cases decide (i = (k : Int) ∧ k < 64) <;> simp [hk]

set_option maxHeartbeats 800000 in
theorem maskOf_law (A : Option Addr) (c : Nat) (xs : List Int) (s : Nat) (i : Int) (hs : s < 18446744073709551616) (w : World) (hA : Ints w A xs) (hT : Tab w) :
    Calls Tryd.prog 3 #[.slice A xs.length c, .int .u64 s, .int .i64 i] w fun e w' => e = .returned (.bool true) ∧ Below w.heap.size w w' := by
  have HA := Lib.hid hA; clear hA
  have HT := Lib.hid hT; clear hT
  by_cases hl : xs.length ≤ 100
  · have e1 := hasN_less s i
    have e2 := subN_less s i
    have e3 := withN_less s hs i
    have e4 := MM.withN_els hs i
    have hless := MM.lessN_lt hs i
    have h64 := MM.els_length s
    generalize hn : xs.length = n at *
    have HN := Lib.hid hn; clear hn
    have hcall1 := of_any A c xs w (by rw [HN.out]; omega) HA.out
    have hcall2 := refOf_any A c xs w (by rw [HN.out]; omega) HA.out
    rw [HN.out] at hcall1 hcall2
    have H1 := Lib.hid hcall1; clear hcall1
    have H2 := Lib.hid hcall2; clear hcall2
    go_enter Tryd.func3, Tryd.ntmps3
    go_wp2_with fail
    refine H1.out.mono ?_
    rintro e w1 ⟨rfl, rfl⟩
    go_wp2_with fail
    refine H2.out.mono ?_
    rintro e w1 ⟨rfl, rfl⟩
    go_wp2_with fail
    refine (has_any s hs i _).mono ?_
    rintro e w1 ⟨rfl, rfl⟩
    go_wp2_with fail
    refine (refHas_any s hs i _).mono ?_
    rintro e w1 ⟨rfl, rfl⟩
    go_wp2_with fail
    refine (refList_any s hs _).mono ?_
    rintro e w1 ⟨B, cb, rfl, hown, hb1⟩
    have HB1 := Lib.hid hb1
    have hbs := hb1.size
    clear hb1
    generalize hm : (MM.els s).length = m at *
    have HM := Lib.hid hm; clear hm
    have hown' : w1.ownsRow w.heap.size 3 1 (.slice B m cb) m (cells (ei (MM.els s))) := by
      have h4 := hown
      unfold OwnI at h4
      rw [ei_length, HM.out] at h4
      exact h4
    clear hown
    have HE4 := Lib.hid e4; clear e4
    go_wp2_with (at_builtin; refine wpList_more _ rfl _ _ 22 rfl 3 (.int .i64 0) 1 8 Tryd.underlying22 infoInt rfl (by decide) (by decide) w.heap.size B m cb (cells (ei (MM.els s))) rfl (hown'.alloc _) w1.heap.size 1 1 [.int .i64 i] rfl rfl (by decide) (one_new _ _ _) ?c1 ?c2 ?c3 ?_; (case c1 => simp [Value.oneCell']); (case c2 => omega); (case c3 => simp; omega); intro A2 c2 w2 hown2 hb2 _)
    rw [← cells_snoc] at hown2
    have HB2 := Lib.hid ((HB1.out.alloc hbs _).trans hb2)
    have hI2 : Ints w2 A2 (ei (MM.els s) ++ [i]) := Sl.of_own hown2
    have hlen : (ei (MM.els s) ++ [i]).length = m + 1 := by rw [List.length_append, ei_length, HM.out]; rfl
    have hcall := refOf_any A2 c2 (ei (MM.els s) ++ [i]) w2 (by omega) hI2
    rw [hlen, show ei (MM.els s) ++ [i] = (MM.els s).map Int.ofNat ++ [i] from rfl, HE4.out] at hcall
    have HC := Lib.hid hcall
    clear hcall hlen hI2 hown2 hb2 hown'
    refine HC.out.mono ?_
    rintro e w3 ⟨rfl, rfl⟩
    go_wp2_with fail
    refine (without_any s hs i _).mono ?_
    rintro e w3 ⟨rfl, rfl⟩
    go_wp2_with fail
    refine (with_any s hs i _).mono ?_
    rintro e w3 ⟨rfl, rfl⟩
    go_wp2_with fail
    refine (refHas_any _ hless i _).mono ?_
    rintro e w3 ⟨rfl, rfl⟩
    rw [e1]
    go_wp2_with fail
    refine (refSub_any _ _ hless hs _).mono ?_
    rintro e w3 ⟨rfl, hb3⟩
    rw [e2]
    have HB3 := Lib.hid (HB2.out.trans (hb3.mono HB2.out.size))
    clear hb3
    go_wp2_with fail
    refine (with_any _ hless i _).mono ?_
    rintro e w4 ⟨rfl, rfl⟩
    rw [e3]
    go_wp2_with fail
    refine (alive_any _ (HT.out.below HB3.out)).mono ?_
    rintro e w4 ⟨rfl, hb4⟩
    have HB4 := Lib.hid (HB3.out.trans (hb4.mono HB3.out.size))
    clear hb4
    go_wp2
    go_ret
    exact ⟨rfl, HB4.out⟩
  · generalize xs.length = n at *
    have hl2 : 100 < n := by omega
    clear hl
    go_enter Tryd.func3, Tryd.ntmps3
    go_wp2_with (go_at_call 8; refine (alive_any _ HT.out).mono ?_; rintro e w4 ⟨rfl, hb4⟩)
    go_ret
    exact ⟨rfl, hb4⟩

set_option maxHeartbeats 800000 in
theorem maskCounts_law (a b : Nat) (n : Int) (ha : a < 18446744073709551616) (hb : b < 18446744073709551616) (w : World) (hT : Tab w) :
    Calls Tryd.prog 4 #[.int .u64 a, .int .u64 b, .int .i64 n] w fun e w' => e = .returned (.bool true) ∧ Below w.heap.size w w' := by
  have HT := Lib.hid hT; clear hT
  have h64 := MM.els_length a
  go_enter Tryd.func4, Tryd.ntmps4
  go_wp2_with fail
  refine (sub_any a b ha hb _).mono ?_
  rintro e w1 ⟨rfl, rfl⟩
  go_wp2_with fail
  refine (refSub_any a b ha hb _).mono ?_
  rintro e w1 ⟨rfl, hb1⟩
  have HB1 := Lib.hid hb1; clear hb1
  go_wp2_with fail
  refine (count_any a ha _).mono ?_
  rintro e w2 ⟨rfl, rfl⟩
  go_wp2_with fail
  refine (refList_any a ha _).mono ?_
  rintro e w2 ⟨B, cb, rfl, _, hb2⟩
  have HB2 := Lib.hid (HB1.out.trans (hb2.mono HB1.out.size))
  clear hb2
  go_wp2_with fail
  refine (below_any n _).mono ?_
  rintro e w3 ⟨rfl, rfl⟩
  go_wp2_with fail
  refine (refBelow_any n _).mono ?_
  rintro e w3 ⟨rfl, hb3⟩
  have HB3 := Lib.hid (HB2.out.trans (hb3.mono HB2.out.size))
  clear hb3
  go_wp2_with fail
  refine (alive_any _ (HT.out.below HB3.out)).mono ?_
  rintro e w4 ⟨rfl, hb4⟩
  have HB4 := Lib.hid (HB3.out.trans (hb4.mono HB3.out.size))
  clear hb4
  go_wp2
  go_ret
  exact ⟨rfl, HB4.out⟩

theorem sub_or (a b : Nat) : MM.subN a (a ||| b) = true := by
  unfold MM.subN; rw [List.all_eq_true]; intro k hk
  rw [MM.mem_els] at hk
  rw [Nat.testBit_or, hk.2]; rfl
theorem and_sub (a b : Nat) : MM.subN (a &&& b) a = true := by
  unfold MM.subN; rw [List.all_eq_true]; intro k hk
  rw [MM.mem_els, Nat.testBit_and] at hk
  have := hk.2
  simp only [Bool.and_eq_true] at this
  exact this.1
theorem sub_has (a b : Nat) (i : Int) (h : MM.subN a b = true) (h1 : MM.hasN a i = true) : MM.hasN b i = true := by
  unfold MM.subN at h
  rw [List.all_eq_true] at h
  unfold MM.hasN at h1 ⊢
  simp only [Bool.and_eq_true, decide_eq_true_eq] at h1 ⊢
  exact ⟨h1.1, h _ (MM.mem_els.2 ⟨by omega, h1.2⟩)⟩

set_option maxHeartbeats 400000 in
theorem back_core (a b o d q na nb no nd nq : Nat) (i : Int) (x y z : Bool) (w : World) (xs : List Int)
    (HT : Hid (Tab w)) (eor : bits BinOp.or IntKind.u64 (a : Int) (b : Int) = (o : Int)) (eand : bits BinOp.and IntKind.u64 (a : Int) (b : Int) = (d : Int))
    (bna : na ≤ 64) (bnb : nb ≤ 64) (bno : no ≤ 64) (bnd : nd ≤ 64) (bnq : nq ≤ 64)
    (hxyz : x = true → y = true → z = true) (hsum : na + nb = no + nd) (hq : (q = a ∧ nq = na) ∨ (q ≠ a ∧ nq = na + 1))
    (HL : Hid (Calls Tryd.prog 24 #[.int .u64 a] w fun e w' => ∃ A c, e = .returned (.slice A na c) ∧ OwnI w' w.heap.size A c xs ∧ Below w.heap.size w w'))
    (HO : Hid (∀ A c W, Ints W A xs → Calls Tryd.prog 9 #[.slice A na c] W fun e w' => e = .returned (.int .u64 a) ∧ W = w'))
    (S1 : Hid (∀ W, Calls Tryd.prog 17 #[.int .u64 a, .int .u64 o] W fun e w' => e = .returned (.bool true) ∧ W = w'))
    (S2 : Hid (∀ W, Calls Tryd.prog 17 #[.int .u64 d, .int .u64 a] W fun e w' => e = .returned (.bool true) ∧ W = w'))
    (S3 : Hid (∀ W, Calls Tryd.prog 17 #[.int .u64 a, .int .u64 b] W fun e w' => e = .returned (.bool x) ∧ W = w'))
    (S4 : Hid (∀ W, Calls Tryd.prog 11 #[.int .u64 a, .int .i64 i] W fun e w' => e = .returned (.bool y) ∧ W = w'))
    (S5 : Hid (∀ W, Calls Tryd.prog 11 #[.int .u64 b, .int .i64 i] W fun e w' => e = .returned (.bool z) ∧ W = w'))
    (S6 : Hid (∀ W, Calls Tryd.prog 15 #[.int .u64 a, .int .i64 i] W fun e w' => e = .returned (.int .u64 q) ∧ W = w'))
    (C1 : Hid (∀ W, Calls Tryd.prog 18 #[.int .u64 q] W fun e w' => e = .returned (.int .i64 nq) ∧ W = w'))
    (C2 : Hid (∀ W, Calls Tryd.prog 18 #[.int .u64 a] W fun e w' => e = .returned (.int .i64 na) ∧ W = w'))
    (C3 : Hid (∀ W, Calls Tryd.prog 18 #[.int .u64 b] W fun e w' => e = .returned (.int .i64 nb) ∧ W = w'))
    (C4 : Hid (∀ W, Calls Tryd.prog 18 #[.int .u64 o] W fun e w' => e = .returned (.int .i64 no) ∧ W = w'))
    (C5 : Hid (∀ W, Calls Tryd.prog 18 #[.int .u64 d] W fun e w' => e = .returned (.int .i64 nd) ∧ W = w')) :
    Calls Tryd.prog 7 #[.int .u64 a, .int .u64 b, .int .i64 i] w fun e w' => e = .returned (.bool true) ∧ Below w.heap.size w w' := by
  have hb1 : ((na : Int) + (nb : Int) == (no : Int) + (nd : Int)) = true := by rw [beq_iff_eq]; omega
  clear hsum
  rcases hq with ⟨h1, h2⟩ | ⟨h1, h2⟩
  · subst h1 h2
    cases x
    · clear hxyz
      go_enter Tryd.func7, Tryd.ntmps7
      go_wp2_with fail
      refine HL.out.mono ?_
      rintro e w1 ⟨A, c, rfl, hown, hbw⟩
      have HBW := Lib.hid hbw
      have HI := Lib.hid hown.ints
      clear hbw hown
      go_wp2_with fail
      refine (HO.out A c w1 HI.out).mono ?_
      rintro e w' ⟨rfl, rfl⟩
      go_wp2_with ((first | (with_reducible refine (S1.out _).mono ?_) | (with_reducible refine (S2.out _).mono ?_) | (with_reducible refine (S3.out _).mono ?_) | (with_reducible refine (S4.out _).mono ?_) | (with_reducible refine (S5.out _).mono ?_) | (with_reducible refine (S6.out _).mono ?_) | (with_reducible refine (C1.out _).mono ?_) | (with_reducible refine (C2.out _).mono ?_) | (with_reducible refine (C3.out _).mono ?_) | (with_reducible refine (C4.out _).mono ?_) | (with_reducible refine (C5.out _).mono ?_)); rintro e w' ⟨rfl, rfl⟩)
      refine (alive_any _ (HT.out.below HBW.out)).mono ?_
      rintro e w4 ⟨rfl, hb4⟩
      have HB4 := Lib.hid (HBW.out.trans (hb4.mono HBW.out.size))
      clear hb4
      go_wp2
      go_ret
      exact ⟨rfl, HB4.out⟩
    · cases y
      · clear hxyz
        go_enter Tryd.func7, Tryd.ntmps7
        go_wp2_with fail
        refine HL.out.mono ?_
        rintro e w1 ⟨A, c, rfl, hown, hbw⟩
        have HBW := Lib.hid hbw
        have HI := Lib.hid hown.ints
        clear hbw hown
        go_wp2_with fail
        refine (HO.out A c w1 HI.out).mono ?_
        rintro e w' ⟨rfl, rfl⟩
        go_wp2_with ((first | (with_reducible refine (S1.out _).mono ?_) | (with_reducible refine (S2.out _).mono ?_) | (with_reducible refine (S3.out _).mono ?_) | (with_reducible refine (S4.out _).mono ?_) | (with_reducible refine (S5.out _).mono ?_) | (with_reducible refine (S6.out _).mono ?_) | (with_reducible refine (C1.out _).mono ?_) | (with_reducible refine (C2.out _).mono ?_) | (with_reducible refine (C3.out _).mono ?_) | (with_reducible refine (C4.out _).mono ?_) | (with_reducible refine (C5.out _).mono ?_)); rintro e w' ⟨rfl, rfl⟩)
        refine (alive_any _ (HT.out.below HBW.out)).mono ?_
        rintro e w4 ⟨rfl, hb4⟩
        have HB4 := Lib.hid (HBW.out.trans (hb4.mono HBW.out.size))
        clear hb4
        go_wp2
        go_ret
        exact ⟨rfl, HB4.out⟩
      · obtain rfl : z = true := hxyz rfl rfl
        clear hxyz
        go_enter Tryd.func7, Tryd.ntmps7
        go_wp2_with fail
        refine HL.out.mono ?_
        rintro e w1 ⟨A, c, rfl, hown, hbw⟩
        have HBW := Lib.hid hbw
        have HI := Lib.hid hown.ints
        clear hbw hown
        go_wp2_with fail
        refine (HO.out A c w1 HI.out).mono ?_
        rintro e w' ⟨rfl, rfl⟩
        go_wp2_with ((first | (with_reducible refine (S1.out _).mono ?_) | (with_reducible refine (S2.out _).mono ?_) | (with_reducible refine (S3.out _).mono ?_) | (with_reducible refine (S4.out _).mono ?_) | (with_reducible refine (S5.out _).mono ?_) | (with_reducible refine (S6.out _).mono ?_) | (with_reducible refine (C1.out _).mono ?_) | (with_reducible refine (C2.out _).mono ?_) | (with_reducible refine (C3.out _).mono ?_) | (with_reducible refine (C4.out _).mono ?_) | (with_reducible refine (C5.out _).mono ?_)); rintro e w' ⟨rfl, rfl⟩)
        refine (alive_any _ (HT.out.below HBW.out)).mono ?_
        rintro e w4 ⟨rfl, hb4⟩
        have HB4 := Lib.hid (HBW.out.trans (hb4.mono HBW.out.size))
        clear hb4
        go_wp2
        go_ret
        exact ⟨rfl, HB4.out⟩
  · have hne : ((q : Int) != (a : Int)) = true := by rw [bne_iff_ne]; omega
    have hne2 : (q != a) = true := by rw [bne_iff_ne]; exact h1
    clear h1
    subst h2
    cases x
    · clear hxyz
      go_enter Tryd.func7, Tryd.ntmps7
      go_wp2_with fail
      refine HL.out.mono ?_
      rintro e w1 ⟨A, c, rfl, hown, hbw⟩
      have HBW := Lib.hid hbw
      have HI := Lib.hid hown.ints
      clear hbw hown
      go_wp2_with fail
      refine (HO.out A c w1 HI.out).mono ?_
      rintro e w' ⟨rfl, rfl⟩
      go_wp2_with ((first | (with_reducible refine (S1.out _).mono ?_) | (with_reducible refine (S2.out _).mono ?_) | (with_reducible refine (S3.out _).mono ?_) | (with_reducible refine (S4.out _).mono ?_) | (with_reducible refine (S5.out _).mono ?_) | (with_reducible refine (S6.out _).mono ?_) | (with_reducible refine (C1.out _).mono ?_) | (with_reducible refine (C2.out _).mono ?_) | (with_reducible refine (C3.out _).mono ?_) | (with_reducible refine (C4.out _).mono ?_) | (with_reducible refine (C5.out _).mono ?_)); rintro e w' ⟨rfl, rfl⟩)
      refine (alive_any _ (HT.out.below HBW.out)).mono ?_
      rintro e w4 ⟨rfl, hb4⟩
      have HB4 := Lib.hid (HBW.out.trans (hb4.mono HBW.out.size))
      clear hb4
      go_wp2
      go_ret
      exact ⟨rfl, HB4.out⟩
    · cases y
      · clear hxyz
        go_enter Tryd.func7, Tryd.ntmps7
        go_wp2_with fail
        refine HL.out.mono ?_
        rintro e w1 ⟨A, c, rfl, hown, hbw⟩
        have HBW := Lib.hid hbw
        have HI := Lib.hid hown.ints
        clear hbw hown
        go_wp2_with fail
        refine (HO.out A c w1 HI.out).mono ?_
        rintro e w' ⟨rfl, rfl⟩
        go_wp2_with ((first | (with_reducible refine (S1.out _).mono ?_) | (with_reducible refine (S2.out _).mono ?_) | (with_reducible refine (S3.out _).mono ?_) | (with_reducible refine (S4.out _).mono ?_) | (with_reducible refine (S5.out _).mono ?_) | (with_reducible refine (S6.out _).mono ?_) | (with_reducible refine (C1.out _).mono ?_) | (with_reducible refine (C2.out _).mono ?_) | (with_reducible refine (C3.out _).mono ?_) | (with_reducible refine (C4.out _).mono ?_) | (with_reducible refine (C5.out _).mono ?_)); rintro e w' ⟨rfl, rfl⟩)
        refine (alive_any _ (HT.out.below HBW.out)).mono ?_
        rintro e w4 ⟨rfl, hb4⟩
        have HB4 := Lib.hid (HBW.out.trans (hb4.mono HBW.out.size))
        clear hb4
        go_wp2
        go_ret
        exact ⟨rfl, HB4.out⟩
      · obtain rfl : z = true := hxyz rfl rfl
        clear hxyz
        go_enter Tryd.func7, Tryd.ntmps7
        go_wp2_with fail
        refine HL.out.mono ?_
        rintro e w1 ⟨A, c, rfl, hown, hbw⟩
        have HBW := Lib.hid hbw
        have HI := Lib.hid hown.ints
        clear hbw hown
        go_wp2_with fail
        refine (HO.out A c w1 HI.out).mono ?_
        rintro e w' ⟨rfl, rfl⟩
        go_wp2_with ((first | (with_reducible refine (S1.out _).mono ?_) | (with_reducible refine (S2.out _).mono ?_) | (with_reducible refine (S3.out _).mono ?_) | (with_reducible refine (S4.out _).mono ?_) | (with_reducible refine (S5.out _).mono ?_) | (with_reducible refine (S6.out _).mono ?_) | (with_reducible refine (C1.out _).mono ?_) | (with_reducible refine (C2.out _).mono ?_) | (with_reducible refine (C3.out _).mono ?_) | (with_reducible refine (C4.out _).mono ?_) | (with_reducible refine (C5.out _).mono ?_)); rintro e w' ⟨rfl, rfl⟩)
        refine (alive_any _ (HT.out.below HBW.out)).mono ?_
        rintro e w4 ⟨rfl, hb4⟩
        have HB4 := Lib.hid (HBW.out.trans (hb4.mono HBW.out.size))
        clear hb4
        go_wp2
        go_ret
        exact ⟨rfl, HB4.out⟩

theorem maskBack_law (a b : Nat) (i : Int) (ha : a < 18446744073709551616) (hb : b < 18446744073709551616) (w : World) (hT : Tab w) :
    Calls Tryd.prog 7 #[.int .u64 a, .int .u64 b, .int .i64 i] w fun e w' => e = .returned (.bool true) ∧ Below w.heap.size w w' := by
  have hab : (a ||| b) < 18446744073709551616 := Nat.or_lt_two_pow (n := 64) ha hb
  have hnb : (a &&& b) < 18446744073709551616 := Nat.lt_of_le_of_lt Nat.and_le_left ha
  have hwl := MM.withN_lt ha i
  have hofn : MM.ofN (ei (MM.els a)) = a := MM.ofN_els ha
  have hwc := MM.withN_count a i
  refine back_core a b (a ||| b) (a &&& b) (MM.withN a i) _ _ _ _ _ i _ _ _ w (ei (MM.els a)) hT (u64_or_nat a b ha hb) (u64_and_nat a b ha hb)
    (MM.els_length a) (MM.els_length b) (MM.els_length (a ||| b)) (MM.els_length (a &&& b)) (MM.els_length (MM.withN a i)) (sub_has a b i) (MM.els_count a b) ?_
    (list_any a ha w hT) (fun A c W hI => ?_) (fun W => ?_) (fun W => ?_) (fun W => sub_any a b ha hb W) (fun W => has_any a ha i W) (fun W => has_any b hb i W) (fun W => with_any a ha i W)
    (fun W => count_any _ hwl W) (fun W => count_any a ha W) (fun W => count_any b hb W) (fun W => count_any _ hab W) (fun W => count_any _ hnb W)
  · by_cases h : MM.withN a i = a
    · exact .inl ⟨h, by rw [hwc, if_pos h]; rfl⟩
    · exact .inr ⟨h, by rw [hwc, if_neg h]⟩
  · have h := of_any A c (ei (MM.els a)) W (by rw [ei_length]; have := MM.els_length a; omega) hI
    rw [ei_length, hofn] at h
    exact h
  · have h := sub_any a (a ||| b) ha hab W
    rw [sub_or] at h
    exact h
  · have h := sub_any (a &&& b) a hnb ha W
    rw [and_sub] at h
    exact h
end Go.Proofs.YtemmjidaigbdfaaDoor
