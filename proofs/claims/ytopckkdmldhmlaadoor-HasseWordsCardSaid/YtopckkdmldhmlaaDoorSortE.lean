/-
  Sorting rows of words: the choice of a pivot: some place within the part. Conditions: indices within the row.
-/
import Derived.Test.YtopckkdmldhmlaaDoorSortD
namespace Go.Proofs.YtopckkdmldhmlaaDoor
open Go.RowKit RM
open Go.Sort hiding Below ahead

theorem holds_mut {w w' : World} {blk off g : Nat} {d : Array Nat} (h : Holds eu w blk off d) (hm : Mut g w w') (hg : blk ≠ g) : Holds eu w' blk off d := by
  intro j hj
  obtain ⟨h1, h2⟩ := h j hj
  have hb := hm.block blk (World.block_lt_of_cell? w _ h1) hg
  refine ⟨cell_mut h1 hm hg, ?_⟩
  rw [← h2]
  unfold World.frozen?
  rw [hb]
set_option maxHeartbeats 1000000 in
theorem order2_any {blk off n a b p s : Nat} {d : Array Nat} {w : World} (cap : Nat) (HN : Hid (d.size = n)) (HH : Hid (Holds eu w blk off d)) (ha : a < n) (hb : b < n) (hs : s ≤ 1000) (HB : Hid (Box w p 3 (.int .i64 (s : Int)))) :
    Calls Tryd.prog 84 #[.slice (some ⟨blk, off, none⟩) n cap, .int .i64 (a : Int), .int .i64 (b : Int), .pointer (some ⟨p, 0, none⟩)] w fun e w' =>
      ∃ x y s' : Nat, e = .returned (.tuple #[.int .i64 (x : Int), .int .i64 (y : Int)]) ∧ ((x = a ∧ y = b) ∨ (x = b ∧ y = a)) ∧ s' ≤ s + 1 ∧ Box w' p 3 (.int .i64 (s' : Int)) ∧ Mut p w w' := by
  obtain ⟨x, HX, hc1, hf1⟩ := at_cell HN HH b hb
  obtain ⟨y, HY, hc2, hf2⟩ := at_cell HN HH a ha
  obtain ⟨S, HS, c1, c2, PS⟩ := ex_cells2 hc1 hc2 HH (Lib.hid (Mut.refl blk w))
  have hp := HB.out.cell
  have hpf := HB.out.free
  have hr0 : (a : Int) < (n : Int) := by omega
  have hr1 : (b : Int) < (n : Int) := by omega
  have w1 := wr_in ((s : Int) + 1) (by omega) (by omega)
  go_enter Tryd.func84, Tryd.ntmps84
  go_wp2_with fail
  cases hl : ltN x y with
  | true =>
    have HL := Lib.hid hl; clear hl
    refine wp_region_ord S [(0, true), (1, true), (2, true), (3, true), (4, true), (5, true), (6, true), (7, true), (8, false)] (by kernel_rfl) (by kernel_rfl) rfl (by kernel_rfl) HS.out ?_
    iterate 8
      (refine wpOrd_step (o := ?_) ?_ ?_; rotate_left 1; (simp only [List.getElem?_toArray, List.getElem?_cons_succ, List.getElem?_cons_zero]; with_reducible rfl))
      (first
          | (refine wpOrd_skip (by rfl) ?_)
          | (refine wpOrd_take (v := ?_) (by rfl) ?_ ?_; rotate_left 1; (intro wx hSx; have hc_0 := c1 wx hSx; have hc_1 := c2 wx hSx; go_simp; try with_reducible rfl)))
      (try simp only [Act.put, List.setIfInBounds_toArray, List.set_cons_zero, List.set_cons_succ])
    (refine wpOrd_solo (o := ?_) ?_ ?_; rotate_left 1; (simp only [List.getElem?_toArray, List.getElem?_cons_succ, List.getElem?_cons_zero]; with_reducible rfl))
    intro K hK
    go_simp
    go_at_call 72
    refine (less_any _ _ _).mono ?_
    rintro e w' ⟨rfl, rfl⟩
    refine hK.out _ _ HS.out ?_
    clear hK K
    (try simp only [Act.put, List.setIfInBounds_toArray, List.set_cons_zero, List.set_cons_succ])
    rw [HL.out]
    refine wpOrd_done ?_
    clear PS HS c1 c2 hc1 hc2 hf1 hf2
    go_wp2_with fail
    go_ret2
    exact ⟨b, a, s + 1, rfl, .inr ⟨rfl, rfl⟩, Nat.le_refl _, HB.out.put _, (Mut.of_set w p 0 _).drew⟩
  | false =>
    have HL := Lib.hid hl; clear hl
    refine wp_region_ord S [(0, true), (1, true), (2, true), (3, true), (4, true), (5, true), (6, true), (7, true), (8, false)] (by kernel_rfl) (by kernel_rfl) rfl (by kernel_rfl) HS.out ?_
    iterate 8
      (refine wpOrd_step (o := ?_) ?_ ?_; rotate_left 1; (simp only [List.getElem?_toArray, List.getElem?_cons_succ, List.getElem?_cons_zero]; with_reducible rfl))
      (first
          | (refine wpOrd_skip (by rfl) ?_)
          | (refine wpOrd_take (v := ?_) (by rfl) ?_ ?_; rotate_left 1; (intro wx hSx; have hc_0 := c1 wx hSx; have hc_1 := c2 wx hSx; go_simp; try with_reducible rfl)))
      (try simp only [Act.put, List.setIfInBounds_toArray, List.set_cons_zero, List.set_cons_succ])
    (refine wpOrd_solo (o := ?_) ?_ ?_; rotate_left 1; (simp only [List.getElem?_toArray, List.getElem?_cons_succ, List.getElem?_cons_zero]; with_reducible rfl))
    intro K hK
    go_simp
    go_at_call 72
    refine (less_any _ _ _).mono ?_
    rintro e w' ⟨rfl, rfl⟩
    refine hK.out _ _ HS.out ?_
    clear hK K
    (try simp only [Act.put, List.setIfInBounds_toArray, List.set_cons_zero, List.set_cons_succ])
    rw [HL.out]
    refine wpOrd_done ?_
    clear PS HS c1 c2 hc1 hc2 hf1 hf2
    go_wp2_with fail
    go_ret2
    exact ⟨a, b, s, rfl, .inl ⟨rfl, rfl⟩, Nat.le_succ _, HB.out, (Mut.refl p w).drew⟩
set_option maxHeartbeats 1000000 in
theorem median_any {blk off n a b c p s : Nat} {d : Array Nat} {w : World} (cap : Nat) (HN : Hid (d.size = n)) (HH : Hid (Holds eu w blk off d)) (ha : a < n) (hb : b < n) (hc : c < n) (hs : s ≤ 900) (HB : Hid (Box w p 3 (.int .i64 (s : Int)))) (hpb : blk ≠ p) :
    Calls Tryd.prog 82 #[.slice (some ⟨blk, off, none⟩) n cap, .int .i64 (a : Int), .int .i64 (b : Int), .int .i64 (c : Int), .pointer (some ⟨p, 0, none⟩)] w fun e w' =>
      ∃ x s' : Nat, e = .returned (.int .i64 (x : Int)) ∧ (x = a ∨ x = b ∨ x = c) ∧ s' ≤ s + 3 ∧ Box w' p 3 (.int .i64 (s' : Int)) ∧ Mut p w w' := by
  go_enter Tryd.func82, Tryd.ntmps82
  go_wp2_with fail
  refine (order2_any cap HN HH ha hb (by omega) HB).mono ?_
  rintro e w1 ⟨x1, y1, s1, rfl, hxy1, hs1, hb1, hm1⟩
  have HB1 := Lib.hid hb1; clear hb1
  have HM1 := Lib.hid hm1; clear hm1
  have HH1 := Lib.hid (holds_mut HH.out HM1.out hpb)
  have hy1 : y1 < n := by omega
  have hx1 : x1 < n := by omega
  have H1 := Lib.hid hxy1; clear hxy1
  go_wp2_with fail
  refine (order2_any cap HN HH1 hy1 hc (by omega) HB1).mono ?_
  rintro e w2 ⟨x2, y2, s2, rfl, hxy2, hs2, hb2, hm2⟩
  have HB2 := Lib.hid hb2; clear hb2
  have HM2 := Lib.hid hm2; clear hm2
  have HH2 := Lib.hid (holds_mut HH1.out HM2.out hpb)
  have hx2 : x2 < n := by omega
  have H2 := Lib.hid hxy2; clear hxy2
  go_wp2_with fail
  refine (order2_any cap HN HH2 hx1 hx2 (by omega) HB2).mono ?_
  rintro e w3 ⟨x3, y3, s3, rfl, hxy3, hs3, hb3, hm3⟩
  have HB3 := Lib.hid hb3; clear hb3
  have HM3 := Lib.hid hm3; clear hm3
  have H3 := Lib.hid hxy3; clear hxy3
  go_wp2_with fail
  go_ret
  refine ⟨y3, s3, rfl, ?_, by omega, HB3.out, (HM1.out.trans HM2.out).trans HM3.out⟩
  have h1 := H1.out; have h2 := H2.out; have h3 := H3.out
  omega
set_option maxHeartbeats 1000000 in
theorem medadj_any {blk off n a p s : Nat} {d : Array Nat} {w : World} (cap : Nat) (HN : Hid (d.size = n)) (HH : Hid (Holds eu w blk off d)) (ha : 1 ≤ a) (hb : a + 1 < n) (hn : n ≤ 64) (hs : s ≤ 900) (HB : Hid (Box w p 3 (.int .i64 (s : Int)))) (hpb : blk ≠ p) :
    Calls Tryd.prog 81 #[.slice (some ⟨blk, off, none⟩) n cap, .int .i64 (a : Int), .pointer (some ⟨p, 0, none⟩)] w fun e w' =>
      ∃ x s' : Nat, e = .returned (.int .i64 (x : Int)) ∧ a ≤ x + 1 ∧ x ≤ a + 1 ∧ s' ≤ s + 3 ∧ Box w' p 3 (.int .i64 (s' : Int)) ∧ Mut p w w' := by
  obtain ⟨k, rfl⟩ : ∃ k, a = k + 1 := ⟨a - 1, by omega⟩
  have hc := median_any (a := k) (b := k + 1) (c := k + 1 + 1) cap HN HH (by omega) (by omega) (by omega) hs HB hpb
  have e1 : ((k + 1 : Nat) : Int) = (k : Int) + 1 := by omega
  have e2 : ((k + 1 + 1 : Nat) : Int) = (k : Int) + 1 + 1 := by omega
  rw [e1, e2] at hc
  rw [e1]
  have HC := Lib.hid hc; clear hc e1 e2
  have w1 := wr_in (k : Int) (by omega) (by omega)
  have w2 := wr_in ((k : Int) + 1 - 1) (by omega) (by omega)
  have w3 := wr_in ((k : Int) + 1 + 1) (by omega) (by omega)
  go_enter Tryd.func81, Tryd.ntmps81
  go_wp2_with fail
  refine HC.out.mono ?_
  rintro e w' ⟨x, s', rfl, hx, hs', hb', hm⟩
  have HB' := Lib.hid hb'; clear hb'
  have HM' := Lib.hid hm; clear hm
  have HXX := Lib.hid hx; clear hx
  go_wp2_with fail
  go_ret
  have hx := HXX.out
  exact ⟨x, s', rfl, by omega, by omega, hs', HB'.out, HM'.out⟩
set_option maxHeartbeats 1000000 in
theorem pivot_any (blk off n cap a b : Nat) (d : Array Nat) (w : World) (HN : Hid (d.size = n)) (HH : Hid (Holds eu w blk off d)) (hab : a + 12 < b) (hb : b ≤ n) (hn : n ≤ 64) :
    Calls Tryd.prog 69 #[.slice (some ⟨blk, off, none⟩) n cap, .int .i64 (a : Int), .int .i64 (b : Int)] w fun e w' =>
      ∃ x h : Nat, e = .returned (.tuple #[.int .i64 (x : Int), .int .i64 (h : Int)]) ∧ a ≤ x ∧ x < b ∧ h ≤ 2 ∧ Below w.heap.size w w' := by
  obtain ⟨l, hl⟩ : ∃ l, l = b - a := ⟨_, rfl⟩
  obtain ⟨q, hq⟩ : ∃ q, q = l / 4 := ⟨_, rfl⟩
  obtain ⟨i, hi⟩ : ∃ i, i = a + q := ⟨_, rfl⟩
  obtain ⟨j, hj⟩ : ∃ j, j = a + q * 2 := ⟨_, rfl⟩
  obtain ⟨k, hk⟩ : ∃ k, k = a + q * 3 := ⟨_, rfl⟩
  have e1 : (b : Int) - (a : Int) = (l : Int) := by omega
  have e2 : (l : Int) / 4 = (q : Int) := by omega
  have e3 : (a : Int) + (q : Int) = (i : Int) := by omega
  have e4 : (a : Int) + (q : Int) * 2 = (j : Int) := by omega
  have e5 : (a : Int) + (q : Int) * 3 = (k : Int) := by omega
  have hl8 : 12 < l := by omega
  have hl9 : l ≤ n := by omega
  have hq9 : q ≤ n := by omega
  have hi1 : a + 3 ≤ i := by omega
  have hi2 : i + 3 < b := by omega
  have hj1 : a + 3 ≤ j := by omega
  have hj2 : j + 3 < b := by omega
  have hk1 : a + 3 ≤ k := by omega
  have hk2 : k + 3 ≤ b := by omega
  have hblk : blk ≠ w.heap.size := by
    have h := World.block_lt_of_cell? w _ (HH.out 0 (by rw [HN.out]; omega)).1
    exact Nat.ne_of_lt h
  clear hl hq hi hj hk
  have hb0 : Hid (Box (w.alloc (.cells #[.int .i64 0] 3)) w.heap.size 3 (.int .i64 ((0 : Nat) : Int))) := Box.new w _ _
  have hh0 : Hid (Holds eu (w.alloc (.cells #[.int .i64 0] 3)) blk off d) := holds_mut HH.out (Mut.of_below ((Below.refl _ _).alloc (Nat.le_refl _) _) w.heap.size) hblk
  have hl0 : Hid (Below w.heap.size w (w.alloc (.cells #[.int .i64 0] 3))) := (Below.refl _ _).alloc (Nat.le_refl _) _
  go_enter Tryd.func69, Tryd.ntmps69
  have hg8 : (8 : Int) ≤ (l : Int) := by omega
  by_cases hl50 : 50 ≤ l
  · have hg : (50 : Int) ≤ (l : Int) := by omega
    go_wp2_with fail
    refine (medadj_any cap HN hh0 (by omega) (by omega) hn (by omega) hb0 hblk).mono ?_
    rintro e w1 ⟨i1, s1, rfl, hi3, hi4, hs1, hbx1, hm1⟩
    have HB1 := Lib.hid hbx1; clear hbx1
    have HM1 := Lib.hid hm1; clear hm1
    have HH1 := Lib.hid (holds_mut hh0.out HM1.out hblk)
    clear hh0 hb0
    go_wp2_with fail
    refine (medadj_any cap HN HH1 (by omega) (by omega) hn (by omega) HB1 hblk).mono ?_
    rintro e w2 ⟨j1, s2, rfl, hj3, hj4, hs2, hbx2, hm2⟩
    have HB2 := Lib.hid hbx2; clear hbx2
    have HH2 := Lib.hid (holds_mut HH1.out hm2 hblk)
    have HM2 := Lib.hid (HM1.out.trans hm2); clear hm2
    clear HH1 HM1 HB1
    go_wp2_with fail
    refine (medadj_any cap HN HH2 (by omega) (by omega) hn (by omega) HB2 hblk).mono ?_
    rintro e w3 ⟨k1, s3, rfl, hk3, hk4, hs3, hbx3, hm3⟩
    have HB3 := Lib.hid hbx3; clear hbx3
    have HH3 := Lib.hid (holds_mut HH2.out hm3 hblk)
    have HM3 := Lib.hid (HM2.out.trans hm3); clear hm3
    clear HH2 HM2 HB2
    go_wp2_with fail
    refine (median_any cap HN HH3 (by omega) (by omega) (by omega) (by omega) HB3 hblk).mono ?_
    rintro e w4 ⟨x, s, rfl, hx, hs, hbx, hm⟩
    have hax : a ≤ x ∧ x < b := by omega
    have HM := Lib.hid (HM3.out.trans hm); clear hm
    have HB := Lib.hid hbx; clear hbx
    clear HH3 HM3 HB3 hx
    have HBL := Lib.hid (hl0.out.trans (HM.out.below (Nat.le_refl _) hl0.out.size))
    have hcl := HB.out.cell
    have hs9 : s ≤ 100 := by omega
    by_cases hs0 : s = 0
    · subst hs0
      change World.cell? _ _ = some (.int .i64 0) at hcl
      go_wp2_with fail
      go_ret2
      exact ⟨x, 1, rfl, hax.1, hax.2, by omega, HBL.out⟩
    · by_cases hs12 : s = 12
      · subst hs12
        change World.cell? _ _ = some (.int .i64 12) at hcl
        go_wp2_with fail
        go_ret2
        exact ⟨x, 2, rfl, hax.1, hax.2, by omega, HBL.out⟩
      · have hz0 : ¬ (s : Int) = 0 := by omega
        have hz12 : ¬ (s : Int) = 12 := by omega
        go_wp2_with fail
        go_ret2
        exact ⟨x, 0, rfl, hax.1, hax.2, by omega, HBL.out⟩
  · have hg : ¬ (50 : Int) ≤ (l : Int) := by omega
    go_wp2_with fail
    refine (median_any cap HN hh0 (by omega) (by omega) (by omega) (by omega) hb0 hblk).mono ?_
    rintro e w2 ⟨x, s, rfl, hx, hs, hbx, hm⟩
    have hax : a ≤ x ∧ x < b := by omega
    have HM := Lib.hid hm; clear hm
    have HB := Lib.hid hbx; clear hbx
    clear hh0 hb0 hx
    have HBL := Lib.hid (hl0.out.trans (HM.out.below (Nat.le_refl _) hl0.out.size))
    have hcl := HB.out.cell
    have hs9 : s ≤ 100 := by omega
    by_cases hs0 : s = 0
    · subst hs0
      change World.cell? _ _ = some (.int .i64 0) at hcl
      go_wp2_with fail
      go_ret2
      exact ⟨x, 1, rfl, hax.1, hax.2, by omega, HBL.out⟩
    · by_cases hs12 : s = 12
      · subst hs12
        change World.cell? _ _ = some (.int .i64 12) at hcl
        go_wp2_with fail
        go_ret2
        exact ⟨x, 2, rfl, hax.1, hax.2, by omega, HBL.out⟩
      · have hz0 : ¬ (s : Int) = 0 := by omega
        have hz12 : ¬ (s : Int) = 12 := by omega
        go_wp2_with fail
        go_ret2
        exact ⟨x, 0, rfl, hax.1, hax.2, by omega, HBL.out⟩
end Go.Proofs.YtopckkdmldhmlaaDoor
