/-
  The three statements of layer 4, walked. Conditions: words below 2^64.
-/
import Derived.Test.YtojbmahapomoeaaRungA
namespace Go.Proofs.Ytojbmahapomoeaa
open Go.RowKit

set_option maxHeartbeats 800000 in
theorem rungWord_law (n k : Int) (s : Nat) (hs : s < 18446744073709551616) (w : World) :
    Calls Try.prog 3 #[.int .i64 n, .int .i64 k, .int .u64 s] w fun e w' => e = .returned (.bool true) ∧ Below w.heap.size w w' := by
  go_enter Try.func3, Try.ntmps3
  go_wp2_with fail
  refine (rungWord_any n k _).mono ?_
  rintro e w1 ⟨rfl, rfl⟩
  go_wp2_with fail
  refine (refWord_any n k _).mono ?_
  rintro e w1 ⟨rfl, hb1⟩
  have HB1 := Lib.hid hb1; clear hb1
  go_wp2_with fail
  refine (rungLevel_any n s hs _).mono ?_
  rintro e w2 ⟨rfl, rfl⟩
  go_wp2_with fail
  refine (refLevel_any n s _).mono ?_
  rintro e w2 ⟨rfl, hb2⟩
  have HB2 := Lib.hid (HB1.out.trans (hb2.mono HB1.out.size))
  clear hb2
  go_wp2_with fail
  refine (rungRight_any n s hs _).mono ?_
  rintro e w3 ⟨rfl, rfl⟩
  go_wp2_with fail
  refine (alive_any _).mono ?_
  rintro e w3 ⟨rfl, rfl⟩
  go_wp2
  go_ret
  exact ⟨rfl, HB2.out⟩

set_option maxHeartbeats 800000 in
theorem rungBack_law (n k : Int) (w : World) :
    Calls Try.prog 4 #[.int .i64 n, .int .i64 k] w fun e w' => e = .returned (.bool true) ∧ Below w.heap.size w w' := by
  cases hok : RG.okR n k with
  | false =>
    have hw := RG.wR_out hok
    have h := RG.no_iff.1 hok
    go_enter Try.func4, Try.ntmps4
    go_wp2_with fail
    refine (rungWord_any n k _).mono ?_
    rintro e w1 ⟨rfl, rfl⟩
    rw [hok, hw]
    have HH := Lib.hid h
    clear hok hw h
    by_cases h1 : n < 1
    · go_wp2_with (go_at_call 11; refine (alive_any _).mono ?_; rintro e w' ⟨rfl, rfl⟩)
      go_ret
      exact ⟨rfl, Below.refl _ _⟩
    · by_cases h2 : n > 64
      · go_wp2_with (go_at_call 11; refine (alive_any _).mono ?_; rintro e w' ⟨rfl, rfl⟩)
        go_ret
        exact ⟨rfl, Below.refl _ _⟩
      · by_cases h3 : k < 0
        · go_wp2_with (go_at_call 11; refine (alive_any _).mono ?_; rintro e w' ⟨rfl, rfl⟩)
          go_ret
          exact ⟨rfl, Below.refl _ _⟩
        · have h4 : n ≤ k := by have := HH.out; omega
          go_wp2_with (go_at_call 11; refine (alive_any _).mono ?_; rintro e w' ⟨rfl, rfl⟩)
          go_ret
          exact ⟨rfl, Below.refl _ _⟩
  | true =>
    obtain ⟨h0, h1, h2⟩ := RG.ok_iff.1 hok
    have hw := RG.wR_in hok
    obtain ⟨m, rfl⟩ := Int.eq_ofNat_of_zero_le h0
    have hlt := RG.belowN_lt m
    obtain ⟨hl, hc⟩ := RG.lv_of hok rfl
    have hlv : RG.lv n (MM.belowN m) = m := by rw [RG.lv_in hl, hc]
    have hwr : wrap64 (n - 1) = n - 1 := by unfold wrap64; omega
    have htop : RG.okR n (n - 1) = true := RG.ok_iff.2 (by omega)
    have ht := RG.wR_in htop
    have htl := RG.belowN_lt (n - 1)
    have hsub : MM.subN (MM.belowN m) (MM.belowN (n - 1)) = true := by rw [RG.sub_below _ _ (by omega) (by omega)]; simp; omega
    have hcnt : ((MM.els (MM.belowN (n - 1))).length : Int) = n - 1 := by
      have := RG.cnt_below (n - 1).toNat (by omega)
      rw [Int.toNat_of_nonneg (by omega)] at this
      unfold RG.cnt at this
      omega
    have hcall1 := fun w => rungLevel_any n (MM.belowN m) hlt w
    have hcall2 := fun w => rungRight_any n (MM.belowN m) hlt w
    have hcall3 := fun w => rungTop_any n w
    have hcall4 := fun w => sub_any (MM.belowN m) (MM.belowN (n - 1)) hlt htl w
    have hcall5 := fun w => count_any (MM.belowN (n - 1)) htl w
    have hcall0 := fun w => rungWord_any n m w
    rw [hok, hw] at hcall0
    rw [hl, hlv] at hcall1
    rw [hl] at hcall2
    rw [hwr, ht] at hcall3
    rw [hsub] at hcall4
    rw [hcnt] at hcall5
    generalize MM.belowN m = p at *
    generalize MM.belowN (n - 1) = q at *
    have H0 := Lib.hid hcall0
    have H1 := Lib.hid hcall1
    have H2 := Lib.hid hcall2
    have H3 := Lib.hid hcall3
    have H4 := Lib.hid hcall4
    have H5 := Lib.hid hcall5
    clear hcall0 hcall1 hcall2 hcall3 hcall4 hcall5 hok hw hl hc hlv htop ht hsub hcnt
    go_enter Try.func4, Try.ntmps4
    go_wp2_with fail
    refine (H0.out _).mono ?_
    rintro e w1 ⟨rfl, rfl⟩
    go_wp2_with fail
    refine (H1.out _).mono ?_
    rintro e w1 ⟨rfl, rfl⟩
    go_wp2_with fail
    refine (H2.out _).mono ?_
    rintro e w1 ⟨rfl, rfl⟩
    go_wp2_with fail
    refine (H3.out _).mono ?_
    rintro e w1 ⟨rfl, rfl⟩
    go_wp2_with fail
    refine (H4.out _).mono ?_
    rintro e w1 ⟨rfl, rfl⟩
    go_wp2_with fail
    refine (H3.out _).mono ?_
    rintro e w1 ⟨rfl, rfl⟩
    go_wp2_with fail
    refine (H5.out _).mono ?_
    rintro e w1 ⟨rfl, rfl⟩
    go_wp2_with fail
    refine (alive_any _).mono ?_
    rintro e w1 ⟨rfl, rfl⟩
    go_wp2
    go_ret
    exact ⟨rfl, Below.refl _ _⟩

set_option maxHeartbeats 1600000 in
theorem rungOrder_law (n i j : Int) (w : World) :
    Calls Try.prog 5 #[.int .i64 n, .int .i64 i, .int .i64 j] w fun e w' => e = .returned (.bool true) ∧ Below w.heap.size w w' := by
  cases hoi : RG.okR n i with
  | false =>
    go_enter Try.func5, Try.ntmps5
    go_wp2_with fail
    refine (rungWord_any n i _).mono ?_
    rintro e w1 ⟨rfl, rfl⟩
    rw [hoi]
    clear hoi
    go_wp2_with fail
    refine (rungWord_any n j _).mono ?_
    rintro e w1 ⟨rfl, rfl⟩
    go_wp2_with (go_at_call 11; refine (alive_any _).mono ?_; rintro e w' ⟨rfl, rfl⟩)
    go_ret
    exact ⟨rfl, Below.refl _ _⟩
  | true =>
    cases hoj : RG.okR n j with
    | false =>
      go_enter Try.func5, Try.ntmps5
      go_wp2_with fail
      refine (rungWord_any n i _).mono ?_
      rintro e w1 ⟨rfl, rfl⟩
      rw [hoi]
      clear hoi
      go_wp2_with fail
      refine (rungWord_any n j _).mono ?_
      rintro e w1 ⟨rfl, rfl⟩
      rw [hoj]
      clear hoj
      go_wp2_with (go_at_call 11; refine (alive_any _).mono ?_; rintro e w' ⟨rfl, rfl⟩)
      go_ret
      exact ⟨rfl, Below.refl _ _⟩
    | true =>
      obtain ⟨i0, i1, n1⟩ := RG.ok_iff.1 hoi
      obtain ⟨j0, j1, _⟩ := RG.ok_iff.1 hoj
      have c1 := fun w => rungWord_any n i w
      rw [RG.wR_in hoi, hoi] at c1
      have c2 := fun w => rungWord_any n j w
      rw [RG.wR_in hoj, hoj] at c2
      have li := RG.belowN_lt i
      have lj := RG.belowN_lt j
      have c5 := fun w => sub_any (MM.belowN i) (MM.belowN j) li lj w
      rw [RG.sub_below i j (by omega) (by omega)] at c5
      have eo := u64_or_nat (MM.belowN i) (MM.belowN j) li lj
      have ea := u64_and_nat (MM.belowN i) (MM.belowN j) li lj
      rw [RG.or_below] at eo
      rw [RG.and_below] at ea
      rcases Int.lt_trichotomy i j with hij | hij | hij
      · rw [show max i j = j by omega] at eo
        rw [show min i j = i by omega] at ea
        rw [show decide (i ≤ j) = true by simp; omega] at c5
        generalize MM.belowN i = p at *
        generalize MM.belowN j = q at *
        have C1 := Lib.hid c1
        have C2 := Lib.hid c2
        have C5 := Lib.hid c5
        clear c1 c2 c5 hoi hoj i0 i1 n1 j0 j1
        go_enter Try.func5, Try.ntmps5
        go_wp2_with fail
        refine (C1.out _).mono ?_
        rintro e w1 ⟨rfl, rfl⟩
        go_wp2_with fail
        refine (C2.out _).mono ?_
        rintro e w1 ⟨rfl, rfl⟩
        go_wp2_with fail
        refine (C2.out _).mono ?_
        rintro e w1 ⟨rfl, rfl⟩
        go_wp2_with fail
        refine (C1.out _).mono ?_
        rintro e w1 ⟨rfl, rfl⟩
        go_wp2_with fail
        refine (C5.out _).mono ?_
        rintro e w1 ⟨rfl, rfl⟩
        go_wp2_with (go_at_call 11; refine (alive_any _).mono ?_; rintro e w' ⟨rfl, rfl⟩)
        go_ret
        exact ⟨rfl, Below.refl _ _⟩
      · subst hij
        rw [show max i i = i by omega] at eo
        rw [show min i i = i by omega] at ea
        rw [show decide (i ≤ i) = true by simp] at c5
        generalize MM.belowN i = p at *
        have C1 := Lib.hid c1
        have C2 := Lib.hid c2
        have C5 := Lib.hid c5
        clear c1 c2 c5 hoi hoj i0 i1 n1 j0 j1
        go_enter Try.func5, Try.ntmps5
        go_wp2_with fail
        refine (C1.out _).mono ?_
        rintro e w1 ⟨rfl, rfl⟩
        go_wp2_with fail
        refine (C2.out _).mono ?_
        rintro e w1 ⟨rfl, rfl⟩
        go_wp2_with fail
        refine (C2.out _).mono ?_
        rintro e w1 ⟨rfl, rfl⟩
        go_wp2_with fail
        refine (C1.out _).mono ?_
        rintro e w1 ⟨rfl, rfl⟩
        go_wp2_with fail
        refine (C5.out _).mono ?_
        rintro e w1 ⟨rfl, rfl⟩
        go_wp2_with (go_at_call 11; refine (alive_any _).mono ?_; rintro e w' ⟨rfl, rfl⟩)
        go_ret
        exact ⟨rfl, Below.refl _ _⟩
      · rw [show max i j = i by omega] at eo
        rw [show min i j = j by omega] at ea
        rw [show decide (i ≤ j) = false by simp; omega] at c5
        generalize MM.belowN i = p at *
        generalize MM.belowN j = q at *
        have C1 := Lib.hid c1
        have C2 := Lib.hid c2
        have C5 := Lib.hid c5
        clear c1 c2 c5 hoi hoj i0 i1 n1 j0 j1
        go_enter Try.func5, Try.ntmps5
        go_wp2_with fail
        refine (C1.out _).mono ?_
        rintro e w1 ⟨rfl, rfl⟩
        go_wp2_with fail
        refine (C2.out _).mono ?_
        rintro e w1 ⟨rfl, rfl⟩
        go_wp2_with fail
        refine (C1.out _).mono ?_
        rintro e w1 ⟨rfl, rfl⟩
        go_wp2_with fail
        refine (C2.out _).mono ?_
        rintro e w1 ⟨rfl, rfl⟩
        go_wp2_with fail
        refine (C5.out _).mono ?_
        rintro e w1 ⟨rfl, rfl⟩
        go_wp2_with (go_at_call 11; refine (alive_any _).mono ?_; rintro e w' ⟨rfl, rfl⟩)
        go_ret
        exact ⟨ret_eq (bool_eq (by simp; omega)), Below.refl _ _⟩
end Go.Proofs.Ytojbmahapomoeaa
