/-
  The document's Same on trees, by recursion. Conditions: fewer than 2^31 trees.
-/
import Derived.Test.YtnaaejemanmgnaaTreeC
namespace Go.Proofs.Ytnaaejemanmgnaa
open Go.RowKit LX TR

theorem tk_parts (t u : Tk) : decide (t = u) = (decide (t.k = u.k) && (decide (t.s = u.s) && decide (t.p = u.p))) := by
  obtain ⟨k1, s1, p1⟩ := t
  obtain ⟨k2, s2, p2⟩ := u
  rw [Bool.eq_iff_iff]; simp
theorem tsame_len : ∀ {a b : List Tr}, ¬ a.length = b.length → TR.same a b = false
  | [], [], h => absurd rfl h
  | [], _ :: _, _ => by simp [TR.same]
  | .mk .. :: _, [], _ => by simp [TR.same]
  | .mk _ _ _ _ _ :: r, .mk _ _ _ _ _ :: q, h => by
    rw [TR.same, tsame_len (a := r) (b := q) (by simpa using h)]
    simp
set_option maxRecDepth 100000 in
set_option maxHeartbeats 1600000 in
theorem refSame9_any : ∀ (N : Nat) (a b : List Tr) (A B : Option Addr) (c d : Nat) (w : World), (nodes a).length ≤ N → N ≤ 2147483648 → Trs w w.heap.size A a → Trs w w.heap.size B b →
    Calls Try.prog 11 #[.slice A a.length c, .slice B b.length d] w fun e w' => e = .returned (.bool (TR.same a b)) ∧ Dr w w' := by
  intro N
  induction N with
  | zero =>
    intro a b A B c d w hl _ _ _
    obtain rfl : a = [] := List.eq_nil_of_length_eq_zero (by have := length_nodes a; omega)
    by_cases hb : b.length = 0
    · obtain rfl : b = [] := List.eq_nil_of_length_eq_zero hb
      rw [TR.same_refl]
      simp only [List.length_nil]
      go_enter Try.func11, Try.ntmps11
      go_wp2
      go_loop [5] (fun iv => iv = .int .i64 0) (fun _ => 0)
      case atStart => rfl
      case round =>
        obtain rfl := hrel
        go_wp2
        go_ret
        exact ⟨rfl, Dr.refl _⟩
    · rw [tsame_len (by simp; omega)]
      have hne : ((0 : Int) != (b.length : Int)) = true := by simp; omega
      simp only [List.length_nil]
      generalize b.length = m at *
      go_enter Try.func11, Try.ntmps11
      go_wp2
      go_ret
      exact ⟨rfl, Dr.refl _⟩
  | succ N ih =>
    intro a b A B c d w hl hN hA hB
    have IH := Lib.hid ih; clear ih
    have HA := Lib.hid hA; clear hA
    have HB := Lib.hid hB; clear hB
    by_cases hab : a.length = b.length
    · have hln := length_nodes a
      have HDA : Hid (∀ i, i < a.length → a.drop i = a.getD i r0 :: a.drop (i + 1)) := fun i => drop_cons
      have HDB : Hid (∀ i, i < b.length → b.drop i = b.getD i r0 :: b.drop (i + 1)) := fun i => drop_cons
      have HND : Hid (∀ i, i < a.length → (nodes (a.getD i r0).ks).length ≤ N) := fun i hi => by
        have := nodes_kid (getD_mem hi)
        omega
      have HKA := Lib.hid (fun i (hi : i < a.length) => HA.out.kidAt hi)
      have HKB := Lib.hid (fun i (hi : i < b.length) => HB.out.kidAt hi)
      have HE0 : Hid (TR.same (a.drop 0) (b.drop 0) = TR.same a b) := by rw [List.drop_zero, List.drop_zero]; exact rfl
      have HEE : Hid (∀ i, ¬ i < a.length → TR.same (a.drop i) (b.drop i) = true) := fun i hi => by
        rw [List.drop_eq_nil_of_le (by omega), List.drop_eq_nil_of_le (by omega), TR.same_refl]
      generalize hR : TR.same a b = R at *
      clear hR
      have HM := Lib.hid hab.symm
      rw [← hab]
      clear hab
      generalize hn : a.length = n at *
      have HN := Lib.hid hn; clear hn
      go_enter Try.func11, Try.ntmps11
      go_wp2
      go_loopw [5] (fun iv wr => ∃ i : Nat, i ≤ n ∧ iv = .int .i64 i ∧ Hid (TR.same (a.drop i) (b.drop i) = R) ∧ Hid (Dr w wr)) (fun iv _ => n - (intOf iv).toNat)
      case atStart => exact ⟨0, by omega, rfl, HE0.out, Dr.refl _⟩
      case round =>
        obtain ⟨i, hi, rfl, HI, HW⟩ := hrel
        by_cases hlt : i < n
        · obtain ⟨b1, o1, rfl, _, hca⟩ := (HA.out.below HW.out.below).at (k := i) (by rw [HN.out]; exact hlt)
          obtain ⟨b2, o2, rfl, _, hcb⟩ := (HB.out.below HW.out.below).at (k := i) (by rw [HM.out]; exact hlt)
          obtain ⟨ha0, ha1, ha2, ha3, ha4⟩ := hca i (by rw [HN.out]; exact hlt)
          obtain ⟨hb0, hb1, hb2, hb3, hb4⟩ := hcb i (by rw [HM.out]; exact hlt)
          clear hca hcb
          have hI2 := HI.out
          rw [HDA.out i hlt, HDB.out i (by rw [HM.out]; exact hlt), TR.same_cons, tk_parts] at hI2
          have hszw : w.heap.size ≤ wr.heap.size := HW.out.below.size
          have HC : Hid (∀ q, Calls Try.prog 11 #[.slice (a.getD i r0).A (a.getD i r0).ks.length (a.getD i r0).c, .slice (b.getD i r0).A (b.getD i r0).ks.length (b.getD i r0).c] (wr.drewN q) fun e w' => e = .returned (.bool (TR.same (a.getD i r0).ks (b.getD i r0).ks)) ∧ Dr (wr.drewN q) w') :=
            fun q => IH.out _ _ _ _ _ _ _ (HND.out i hlt) (by omega) (((HKA.out i hlt).below (HW.out.more q).below).mono hszw) (((HKB.out i (by rw [HM.out]; exact hlt)).below (HW.out.more q).below).mono hszw)
          have HI2 := Lib.hid hI2; clear hI2
          have q1 := int_beq (a.getD i r0).t.k (b.getD i r0).t.k
          have q2 := NM.str_eq (a.getD i r0).t.s (b.getD i r0).t.s
          have q3 : ((a.getD i r0).t.p == (b.getD i r0).t.p) = decide ((a.getD i r0).t.p = (b.getD i r0).t.p) := rfl
          have q4 : ((a.getD i r0).e == (b.getD i r0).e) = decide ((a.getD i r0).e = (b.getD i r0).e) := rfl
          have q4' : ((a.getD i r0).e != (b.getD i r0).e) = !decide ((a.getD i r0).e = (b.getD i r0).e) := rfl
          generalize decide ((a.getD i r0).t.k = (b.getD i r0).t.k) = d1 at *
          generalize decide ((a.getD i r0).t.s = (b.getD i r0).t.s) = d2 at *
          generalize decide ((a.getD i r0).t.p = (b.getD i r0).t.p) = d3 at *
          generalize decide ((a.getD i r0).e = (b.getD i r0).e) = d4 at *
          generalize TR.same (a.getD i r0).ks (b.getD i r0).ks = d5 at *
          generalize (a.getD i r0).t.k = ka at *
          generalize (a.getD i r0).t.s = sa at *
          generalize (a.getD i r0).t.p = pa at *
          generalize (a.getD i r0).e = ea at *
          generalize (a.getD i r0).A = Aa at *
          generalize (a.getD i r0).c = xa at *
          generalize (a.getD i r0).ks.length = na at *
          generalize (b.getD i r0).t.k = kb at *
          generalize (b.getD i r0).t.s = sb at *
          generalize (b.getD i r0).t.p = pb at *
          generalize (b.getD i r0).e = eb at *
          generalize (b.getD i r0).A = Ab at *
          generalize (b.getD i r0).c = xb at *
          generalize (b.getD i r0).ks.length = nb at *
          cases d1
          · have HR : Hid (R = false) := by rw [← HI2.out]; rfl
            clear HI2 HC
            go_wp2_with fail
            go_quiet (fail)
            go_wp2
            go_ret
            exact ⟨ret_eq (bool_eq HR.out.symm), HW.out.more _⟩
          · cases d2
            · have HR : Hid (R = false) := by rw [← HI2.out]; rfl
              clear HI2 HC
              go_wp2_with fail
              go_quiet (fail)
              go_wp2
              go_ret
              exact ⟨ret_eq (bool_eq HR.out.symm), HW.out.more _⟩
            · cases d3
              · have HR : Hid (R = false) := by rw [← HI2.out]; rfl
                clear HI2 HC
                go_wp2_with fail
                go_quiet (fail)
                go_wp2
                go_ret
                exact ⟨ret_eq (bool_eq HR.out.symm), HW.out.more _⟩
              · cases d4
                · have HR : Hid (R = false) := by rw [← HI2.out]; rfl
                  clear HI2 HC
                  go_wp2_with fail
                  go_quiet (fail)
                  go_wp2
                  go_ret
                  exact ⟨ret_eq (bool_eq HR.out.symm), HW.out.more _⟩
                · cases d5
                  · have HR : Hid (R = false) := by rw [← HI2.out]; rfl
                    clear HI2
                    go_wp2_with fail
                    go_quiet ((go_at_call 11; exact Dr.quiet (HC.out _)))
                    go_wp2
                    go_ret
                    exact ⟨ret_eq (bool_eq HR.out.symm), HW.out.more _⟩
                  · have HR : Hid (TR.same (a.drop (i + 1)) (b.drop (i + 1)) = R) := by
                      show TR.same _ _ = R
                      rw [← HI2.out]; simp
                    clear HI2
                    go_wp2_with fail
                    go_quiet ((go_at_call 11; exact Dr.quiet (HC.out _)))
                    go_wp2
                    go_roundw
                    case rel => exact ⟨i + 1, by omega, by go_num, HR, HW.out.more _⟩
                    case measure => simp [intOf]; omega
        · have hE := HEE.out i hlt
          rw [HI.out] at hE
          have HR := Lib.hid hE; clear hE
          obtain rfl : i = n := by omega
          go_wp2
          go_ret
          exact ⟨ret_eq (bool_eq HR.out.symm), HW.out⟩
    · rw [tsame_len hab]
      have hne : ((a.length : Int) != (b.length : Int)) = true := by simp; omega
      clear hab
      generalize a.length = n at *
      generalize b.length = m at *
      go_enter Try.func11, Try.ntmps11
      go_wp2
      go_ret
      exact ⟨rfl, Dr.refl _⟩
end Go.Proofs.Ytnaaejemanmgnaa
