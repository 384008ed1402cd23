/-
  Sorting rows of words: the insertion sort that gives up. Conditions: indices within the row.
-/
import Derived.Test.YtopckkdmldhmlaaDoorSortH
import Derived.BigRegion
import Derived.Deep.CutRange
namespace Go.Proofs.YtopckkdmldhmlaaDoor
open Go.RowKit RM
open Go.Sort hiding Below ahead

theorem ss_yes {d : Array Nat} {b k : Nat} (h : (decide (k + 1 < b) && !ltN d[k + 1]! d[k]!) = true) : scanSorted ltN d b (k + 1) = scanSorted ltN d b (k + 1 + 1) := by
  conv => lhs; rw [scanSorted]
  rw [Nat.add_sub_cancel, if_pos h]
theorem ss_no {d : Array Nat} {b k : Nat} (h : (decide (k + 1 < b) && !ltN d[k + 1]! d[k]!) = false) : scanSorted ltN d b (k + 1) = k + 1 := by
  rw [scanSorted, Nat.add_sub_cancel, if_neg (by rw [h]; simp)]
theorem up_yes2 {d : Array Nat} {b j : Nat} (hj : j + 1 < b) (h : ltN d[j + 1]! d[j]! = true) : shiftUp ltN b (j + 1) d = shiftUp ltN b (j + 1 + 1) (swp d (j + 1) j) := by
  conv => lhs; rw [shiftUp]
  rw [if_pos hj, Nat.add_sub_cancel, h]
  rfl
theorem up_no2 {d : Array Nat} {b j : Nat} (hj : j + 1 < b) (h : ltN d[j + 1]! d[j]! = false) : shiftUp ltN b (j + 1) d = d := by
  rw [shiftUp, if_pos hj, Nat.add_sub_cancel, h]
  rfl
theorem up_end2 {d : Array Nat} {b j : Nat} (hj : ¬ j + 1 < b) : shiftUp ltN b (j + 1) d = d := by
  rw [shiftUp, if_neg hj]
theorem dn_yes2 {d : Array Nat} {j : Nat} (h : ltN d[j + 1]! d[j]! = true) : shiftDown ltN (j + 1) d = shiftDown ltN j (swp d (j + 1) j) := by
  rw [shiftDown, h]; rfl
theorem dn_no2 {d : Array Nat} {j : Nat} (h : ltN d[j + 1]! d[j]! = false) : shiftDown ltN (j + 1) d = d := by
  rw [shiftDown, h]; rfl
theorem pins_step {a b s i k : Nat} {d : Array Nat} (h : scanSorted ltN d b i = k + 1) : partialIns ltN a b (s + 1) i d =
    if k + 1 = b then (d, true) else if b - a < 50 then (d, false) else
    partialIns ltN a b s (k + 1) (if b - (k + 1) ≥ 2 then shiftUp ltN b (k + 1 + 1) (if k + 1 - a ≥ 2 then shiftDown ltN k (swp d (k + 1) k) else swp d (k + 1) k) else if k + 1 - a ≥ 2 then shiftDown ltN k (swp d (k + 1) k) else swp d (k + 1) k) := by
  rw [partialIns]
  simp only [h, Nat.add_sub_cancel]

set_option maxRecDepth 8000 in
set_option maxHeartbeats 4000000 in
theorem partial_any (blk off n cap a b : Nat) (d : Array Nat) (w : World) (HN : Hid (d.size = n)) (HH : Hid (Holds eu w blk off d)) (hab : a < b) (hb : b ≤ n) (hn : n ≤ 64) :
    Calls Tryd.prog 71 #[.slice (some ⟨blk, off, none⟩) n cap, .int .i64 (a : Int), .int .i64 (b : Int)] w fun e w' =>
      e = .returned (.bool (partialInsertionSort ltN d a b).2) ∧ Holds eu w' blk off (partialInsertionSort ltN d a b).1 ∧ Mut blk w w' := by
  have HT0 : Hid (partialIns ltN a b 5 (a + 1) d = partialInsertionSort ltN d a b) := rfl
  generalize partialInsertionSort ltN d a b = R at *
  have w6 := wr_in ((a : Int) + 1) (by omega) (by omega)
  go_enter Tryd.func71, Tryd.ntmps71
  go_wp2_with fail
  go_loopw [7, 8, 9, 10] (fun iv tv _ _ wr => ∃ (t s m : Nat) (dk : Array Nat), iv = .int .i64 ((m : Int) + 1) ∧ tv = .int .i64 t ∧ t + s = 5 ∧ a ≤ m ∧ m + 1 ≤ b ∧ Hid (dk.size = n) ∧ Hid (Holds eu wr blk off dk) ∧ Hid (Mut blk w wr) ∧ Hid (partialIns ltN a b s (m + 1) dk = R)) (fun _ tv _ _ _ => 5 - (intOf tv).toNat)
  case atStart => exact ⟨0, 5, a, d, by go_num, by go_num, by omega, by omega, by omega, HN, HH, Mut.refl _ _, HT0⟩
  case round =>
    clear HN HH HT0
    obtain ⟨t, s, m, dk, rfl, rfl, hts, hm1, hm2, HN, HH, HM, HT⟩ := hrel
    cases s with
    | zero =>
      have HT2 : Hid ((dk, false) = R) := HT
      have hg : ¬ (t : Int) < 5 := by omega
      go_wp2_with fail
      go_ret
      rw [← HT2.out]
      exact ⟨rfl, HH.out, HM.out⟩
    | succ s =>
      have hg : (t : Int) < 5 := by omega
      go_wp2_with fail
      obtain ⟨wo, rfl⟩ : ∃ wo : World, wo = wr := ⟨_, rfl⟩
      go_loopw [7] (fun kv wr => ∃ k : Nat, kv = .int .i64 ((k : Int) + 1) ∧ m ≤ k ∧ k + 1 ≤ b ∧ Hid (Holds eu wr blk off dk) ∧ Hid (Mut blk w wr) ∧ Hid (scanSorted ltN dk b (k + 1) = scanSorted ltN dk b (m + 1))) (fun kv _ => b - (intOf kv).toNat)
      case atStart => exact ⟨m, rfl, by omega, by omega, HH, HM, rfl⟩
      case round =>
        clear HH HM
        obtain ⟨k, rfl, hk1, hk2, HH, HM, HI⟩ := hrel
        go_upto_region 5 with fail
        go_cut [32] from 17 to 34 (fun cv wx => cv = .bool (decide (k + 1 < b) && !ltN dk[k + 1]! dk[k]!) ∧ wx = wr.drew)
        case first =>
          by_cases hg : k + 1 < b
          · obtain ⟨x, HX, hc1, hf1⟩ := at_cell HN HH (k + 1) (by omega)
            obtain ⟨y, HY, hc2, hf2⟩ := at_cell HN HH k (by omega)
            obtain ⟨S, HS, c1, c2, PS⟩ := ex_cells2 hc1 hc2 HH HM
            have hg2 : (k : Int) + 1 < (b : Int) := by omega
            have hr0 : (0 : Int) ≤ (k : Int) + 1 := by omega
            have hr1 : (k : Int) + 1 < (n : Int) := by omega
            have hr2 : (k : Int) < (n : Int) := by omega
            have w3 := wr_in (k : Int) (by omega) (by omega)
            have hl : ∃ t, ltN x y = t := ⟨_, rfl⟩
            obtain ⟨t, hl⟩ := hl
            have HL := Lib.hid hl; clear hl
            have HG : Hid (k + 1 < b) := hg
            clear hg
            refine wp_region_ord S [(0, true), (1, true), (2, true), (3, true), (4, true), (5, true), (6, true), (7, true), (8, true), (9, true), (10, true), (11, true), (12, true), (13, false), (14, true), (15, true)] (by kernel_rfl) (by kernel_rfl) rfl (by kernel_rfl) HS.out ?_
            iterate 13
              (refine wpOrd_step (o := ?_) ?_ ?_; rotate_left 1; (simp only [List.getElem?_toArray, List.getElem?_cons_succ, List.getElem?_cons_zero]; with_reducible rfl))
              (first
                  | (refine wpOrd_skip (by rfl) ?_)
                  | (refine wpOrd_take (v := ?_) (by rfl) ?_ ?_; rotate_left 1; (intro wx hSx; have hc_0 := c1 wx hSx; have hc_1 := c2 wx hSx; go_simp; try with_reducible rfl)))
              (try simp only [Act.put, List.setIfInBounds_toArray, List.set_cons_zero, List.set_cons_succ])
            (refine wpOrd_solo (o := ?_) ?_ ?_; rotate_left 1; (simp only [List.getElem?_toArray, List.getElem?_cons_succ, List.getElem?_cons_zero]; with_reducible rfl))
            intro K hK
            go_simp
            go_at_call 72
            refine (less_any _ _ _).mono ?_
            rintro e w' ⟨rfl, rfl⟩
            refine hK.out _ _ HS.out ?_
            clear hK K
            (try simp only [Act.put, List.setIfInBounds_toArray, List.set_cons_zero, List.set_cons_succ])
            rw [HL.out]
            iterate 2
              (refine wpOrd_step (o := ?_) ?_ ?_; rotate_left 1; (simp only [List.getElem?_toArray, List.getElem?_cons_succ, List.getElem?_cons_zero]; with_reducible rfl))
              (first
                  | (refine wpOrd_skip (by rfl) ?_)
                  | (refine wpOrd_take (v := ?_) (by rfl) ?_ ?_; rotate_left 1; (intro wx hSx; go_simp; try with_reducible rfl)))
              (try simp only [Act.put, List.setIfInBounds_toArray, List.set_cons_zero, List.set_cons_succ])
            refine wpOrd_done ?_
            clear PS HS c1 c2 hc1 hc2 hf1 hf2
            go_wp2_with fail
            go_meet
            case rel =>
              refine ⟨?_, rfl⟩
              rw [← HX.out, ← HY.out, HL.out, decide_eq_true HG.out]
              simp
          · have hg2 : ¬ (k : Int) + 1 < (b : Int) := by omega
            obtain ⟨S, HS, PS⟩ : ∃ S : World → Prop, Hid (S wr.drew) ∧ Hid (∀ w', S w' → w' = wr.drew) := ⟨fun w' => w' = wr.drew, rfl, fun _ h => h⟩
            refine wp_region_ord S [(0, true), (1, true), (2, true), (3, true), (4, true), (5, true), (6, true), (7, true), (8, true), (9, true), (10, true), (11, true), (12, true), (13, false), (14, true), (15, true)] (by kernel_rfl) (by kernel_rfl) rfl (by kernel_rfl) HS.out ?_
            iterate 13
              (refine wpOrd_step (o := ?_) ?_ ?_; rotate_left 1; (simp only [List.getElem?_toArray, List.getElem?_cons_succ, List.getElem?_cons_zero]; with_reducible rfl))
              (first
                  | (refine wpOrd_skip (by rfl) ?_)
                  | (refine wpOrd_take (v := ?_) (by rfl) ?_ ?_; rotate_left 1; (intro wx hSx; go_simp; try with_reducible rfl)))
              (try simp only [Act.put, List.setIfInBounds_toArray, List.set_cons_zero, List.set_cons_succ])
            (refine wpOrd_solo (o := ?_) ?_ ?_; rotate_left 1; (simp only [List.getElem?_toArray, List.getElem?_cons_succ, List.getElem?_cons_zero]; with_reducible rfl))
            intro K hK
            go_simp
            refine hK.out _ _ HS.out ?_
            clear hK K
            (try simp only [Act.put, List.setIfInBounds_toArray, List.set_cons_zero, List.set_cons_succ])
            iterate 2
              (refine wpOrd_step (o := ?_) ?_ ?_; rotate_left 1; (simp only [List.getElem?_toArray, List.getElem?_cons_succ, List.getElem?_cons_zero]; with_reducible rfl))
              (first
                  | (refine wpOrd_skip (by rfl) ?_)
                  | (refine wpOrd_take (v := ?_) (by rfl) ?_ ?_; rotate_left 1; (intro wx hSx; go_simp; try with_reducible rfl)))
              (try simp only [Act.put, List.setIfInBounds_toArray, List.set_cons_zero, List.set_cons_succ])
            refine wpOrd_done ?_
            clear PS HS
            go_wp2_with fail
            go_meet
            case rel => exact ⟨by rw [decide_eq_false hg]; rfl, rfl⟩
        case rest =>
          obtain ⟨rfl, rfl⟩ := hcut
          cases hbb : (decide (k + 1 < b) && !ltN dk[k + 1]! dk[k]!) with
          | true =>
            have HI2 : Hid (scanSorted ltN dk b (k + 1 + 1) = scanSorted ltN dk b (m + 1)) := by
              rw [← ss_yes hbb]; exact HI
            have hkj : k + 1 < b := of_decide_eq_true (and_split hbb).1
            clear hbb
            have w9 := wr_in ((k : Int) + 1 + 1) (by omega) (by omega)
            go_wp2_with fail
            go_roundw
            case rel => exact ⟨k + 1, by go_num, by omega, by omega, HH, HM.out.drew, HI2⟩
            case measure => simp [intOf]; omega
          | false =>
            have HT2 := Lib.hid (pins_step (a := a) (s := s) (HI.out.symm.trans (ss_no hbb))); 
            rw [HT.out] at HT2
            clear hbb HI HT
            have HH' : Hid (Holds eu wr.drew blk off dk) := HH
            have HM' := Lib.hid HM.out.drew
            generalize wr.drew = W1 at HH' HM' ⊢
            clear HH HM
            have HH := HH'; have HM := HM'; clear HH' HM'
            have w9 := wr_in ((k : Int) + 1 + 1) (by omega) (by omega)
            have w8 := wr_in (k : Int) (by omega) (by omega)
            have w7 := wr_in ((b : Int) - (a : Int)) (by omega) (by omega)
            have w5 := wr_in ((k : Int) + 1 - (a : Int)) (by omega) (by omega)
            have w4 := wr_in ((b : Int) - ((k : Int) + 1)) (by omega) (by omega)
            have w3 := wr_in ((t : Int) + 1) (by omega) (by omega)
            by_cases hkb : k + 1 = b
            · have HT3 : Hid (R = (dk, true)) := by
                have h := HT2.out
                rw [if_pos hkb] at h
                exact h
              have hgb : (k : Int) + 1 = (b : Int) := by omega
              clear HT2
              go_wp2_with fail
              go_ret
              rw [HT3.out]
              exact ⟨rfl, HH.out, HM.out⟩
            · have hgb : ¬ (k : Int) + 1 = (b : Int) := by omega
              by_cases h50 : b - a < 50
              · have HT3 : Hid (R = (dk, false)) := by
                  have h := HT2.out
                  rw [if_neg hkb, if_pos h50] at h
                  exact h
                have hg5 : (b : Int) - (a : Int) < 50 := by omega
                clear HT2
                go_wp2_with fail
                go_ret
                rw [HT3.out]
                exact ⟨rfl, HH.out, HM.out⟩
              · have HT3 := HT2.out
                rw [if_neg hkb, if_neg h50] at HT3
                have HT4 := Lib.hid HT3; clear HT3 HT2
                have hg5 : ¬ (b : Int) - (a : Int) < 50 := by omega
                obtain ⟨x, HX, hc1, hf1⟩ := at_cell HN HH k (by omega)
                obtain ⟨y, HY, hc2, hf2⟩ := at_cell HN HH (k + 1) (by omega)
                obtain ⟨v3, hc3⟩ := set_some ⟨blk, off + (k + 1), none⟩ (.int .u64 (x : Int)) hc1
                obtain ⟨HN2, HH2, HM2⟩ := swp_holds HN HH HM (k + 1) k HX HY (by omega) (by omega)
                have hr0 : (0 : Int) ≤ (k : Int) + 1 := by omega
                have hr1 : (k : Int) + 1 < (n : Int) := by omega
                have hr2 : (k : Int) < (n : Int) := by omega
                go_wp2_with fail
                go_region
                have HHd : Hid (Holds eu (World.drew ((W1.setCell ⟨blk, off + (k + 1), none⟩ (.int .u64 (x : Int))).setCell ⟨blk, off + k, none⟩ (.int .u64 (y : Int)))) blk off (swp dk (k + 1) k)) := HH2
                have HMd := Lib.hid HM2.out.drew
                clear hc1 hc2 hc3 hf1 hf2 HH2 HM2 HX HY HH HM HN
                generalize (World.drew ((W1.setCell ⟨blk, off + (k + 1), none⟩ (.int .u64 (x : Int))).setCell ⟨blk, off + k, none⟩ (.int .u64 (y : Int)))) = W2 at HHd HMd ⊢
                generalize swp dk (k + 1) k = dj at *
                have HN := HN2; have HH := HHd; have HM := HMd; clear HN2 HHd HMd
                by_cases h1 : 2 ≤ k + 1 - a
                · have hgA : (2 : Int) ≤ (k : Int) + 1 - (a : Int) := by omega
                  have HP0 : Hid (partialIns ltN a b s (k + 1) (if b - (k + 1) ≥ 2 then shiftUp ltN b (k + 1 + 1) (shiftDown ltN k dj) else shiftDown ltN k dj) = R) := by
                    have h := HT4.out.symm
                    rw [if_pos h1] at h
                    exact h
                  clear HT4 h1
                  go_wp2_with fail
                  go_loopw [9] (fun jv wr => ∃ (j : Nat) (dj : Array Nat), jv = .int .i64 j ∧ j ≤ k ∧ Hid (dj.size = n) ∧ Hid (Holds eu wr blk off dj) ∧ Hid (Mut blk w wr) ∧ Hid (partialIns ltN a b s (k + 1) (if b - (k + 1) ≥ 2 then shiftUp ltN b (k + 1 + 1) (shiftDown ltN j dj) else shiftDown ltN j dj) = R)) (fun jv _ => (intOf jv).toNat)
                  case atStart => exact ⟨k, dj, by go_num, by omega, HN, HH, HM, HP0⟩
                  case round =>
                    clear HP0 HN HH HM
                    obtain ⟨j, dj, rfl, hj, HN, HH, HM, HP1⟩ := hrel
                    cases j with
                    | zero =>
                      have HP : Hid (partialIns ltN a b s (k + 1) (if b - (k + 1) ≥ 2 then shiftUp ltN b (k + 1 + 1) dj else dj) = R) := HP1
                      clear HP1
                      simp only [show ((0 : Nat) : Int) = 0 from rfl]
                      by_cases h2 : 2 ≤ b - (k + 1)
                      · have hgB : (2 : Int) ≤ (b : Int) - ((k : Int) + 1) := by omega
                        have HP3 : Hid (partialIns ltN a b s (k + 1) (shiftUp ltN b (k + 1 + 1) dj) = R) := by
                          have h := HP.out
                          rw [if_pos h2] at h
                          exact h
                        clear HP h2
                        go_wp2_with fail
                        go_loopw [10] (fun jv wr => ∃ (j : Nat) (dj : Array Nat), jv = .int .i64 ((j : Int) + 1) ∧ j + 1 ≤ b ∧ Hid (dj.size = n) ∧ Hid (Holds eu wr blk off dj) ∧ Hid (Mut blk w wr) ∧ Hid (partialIns ltN a b s (k + 1) (shiftUp ltN b (j + 1) dj) = R)) (fun jv _ => b - (intOf jv).toNat)
                        case atStart => exact ⟨k + 1, dj, by go_num, by omega, HN, HH, HM, HP3⟩
                        case round =>
                          clear HP3 HN HH HM
                          obtain ⟨j, dj, rfl, hj, HN, HH, HM, HP4⟩ := hrel
                          by_cases hjb : j + 1 < b
                          · have hgj : (j : Int) + 1 < (b : Int) := by omega
                            obtain ⟨x, HX, hc1, hf1⟩ := at_cell HN HH (j + 1) (by omega)
                            obtain ⟨y, HY, hc2, hf2⟩ := at_cell HN HH j (by omega)
                            obtain ⟨S, HS, c1, c2, PS⟩ := ex_cells2 hc1 hc2 HH HM
                            have hr0 : (0 : Int) ≤ (j : Int) + 1 := by omega
                            have hr1 : (j : Int) + 1 < (n : Int) := by omega
                            have hr2 : (j : Int) < (n : Int) := by omega
                            have w3 := wr_in (j : Int) (by omega) (by omega)
                            go_wp2_with fail
                            cases hl : ltN x y with
                            | true =>
                              have HP5 : Hid (partialIns ltN a b s (k + 1) (shiftUp ltN b (j + 1 + 1) (swp dj (j + 1) j)) = R) := by
                                have h := HP4.out
                                rw [up_yes2 hjb (by rw [← HX.out, ← HY.out]; exact hl)] at h
                                exact h
                              clear HP4
                              have HL := Lib.hid hl; clear hl
                              refine wp_region_ord S [(0, true), (1, true), (2, true), (3, true), (4, true), (5, true), (6, true), (7, true), (8, true), (9, false), (10, true)] (by kernel_rfl) (by kernel_rfl) rfl (by kernel_rfl) HS.out ?_
                              iterate 9
                                (refine wpOrd_step (o := ?_) ?_ ?_; rotate_left 1; (simp only [List.getElem?_toArray, List.getElem?_cons_succ, List.getElem?_cons_zero]; with_reducible rfl))
                                (first
                                    | (refine wpOrd_skip (by rfl) ?_)
                                    | (refine wpOrd_take (v := ?_) (by rfl) ?_ ?_; rotate_left 1; (intro wx hSx; have hc_0 := c1 wx hSx; have hc_1 := c2 wx hSx; go_simp; try with_reducible rfl)))
                                (try simp only [Act.put, List.setIfInBounds_toArray, List.set_cons_zero, List.set_cons_succ])
                              (refine wpOrd_solo (o := ?_) ?_ ?_; rotate_left 1; (simp only [List.getElem?_toArray, List.getElem?_cons_succ, List.getElem?_cons_zero]; with_reducible rfl))
                              intro K hK
                              go_simp
                              go_at_call 72
                              refine (less_any _ _ _).mono ?_
                              rintro e w' ⟨rfl, rfl⟩
                              refine hK.out _ _ HS.out ?_
                              clear hK K
                              (try simp only [Act.put, List.setIfInBounds_toArray, List.set_cons_zero, List.set_cons_succ])
                              rw [HL.out]
                              iterate 1
                                (refine wpOrd_step (o := ?_) ?_ ?_; rotate_left 1; (simp only [List.getElem?_toArray, List.getElem?_cons_succ, List.getElem?_cons_zero]; with_reducible rfl))
                                (first
                                    | (refine wpOrd_skip (by rfl) ?_)
                                    | (refine wpOrd_take (v := ?_) (by rfl) ?_ ?_; rotate_left 1; (intro wx hSx; go_simp; try with_reducible rfl)))
                                (try simp only [Act.put, List.setIfInBounds_toArray, List.set_cons_zero, List.set_cons_succ])
                              refine wpOrd_done ?_
                              obtain ⟨v3, hc3⟩ := set_some ⟨blk, off + (j + 1), none⟩ (.int .u64 (y : Int)) hc2
                              obtain ⟨HN2, HH2, HM2⟩ := swp_holds HN HH HM (j + 1) j HY HX (by omega) (by omega)
                              clear PS HS c1 c2
                              go_wp2_with fail
                              go_region
                              go_wp2_with fail
                              go_roundw
                              case rel => exact ⟨j + 1, _, by go_num, by omega, HN2, HH2, HM2.out.drew.drew, HP5⟩
                              case measure => simp [intOf]; omega
                            | false =>
                              have HP3 : Hid (partialIns ltN a b s (k + 1) dj = R) := by
                                have h := HP4.out
                                rw [up_no2 hjb (by rw [← HX.out, ← HY.out]; exact hl)] at h
                                exact h
                              clear HP4
                              have HL := Lib.hid hl; clear hl
                              refine wp_region_ord S [(0, true), (1, true), (2, true), (3, true), (4, true), (5, true), (6, true), (7, true), (8, true), (9, false), (10, true)] (by kernel_rfl) (by kernel_rfl) rfl (by kernel_rfl) HS.out ?_
                              iterate 9
                                (refine wpOrd_step (o := ?_) ?_ ?_; rotate_left 1; (simp only [List.getElem?_toArray, List.getElem?_cons_succ, List.getElem?_cons_zero]; with_reducible rfl))
                                (first
                                    | (refine wpOrd_skip (by rfl) ?_)
                                    | (refine wpOrd_take (v := ?_) (by rfl) ?_ ?_; rotate_left 1; (intro wx hSx; have hc_0 := c1 wx hSx; have hc_1 := c2 wx hSx; go_simp; try with_reducible rfl)))
                                (try simp only [Act.put, List.setIfInBounds_toArray, List.set_cons_zero, List.set_cons_succ])
                              (refine wpOrd_solo (o := ?_) ?_ ?_; rotate_left 1; (simp only [List.getElem?_toArray, List.getElem?_cons_succ, List.getElem?_cons_zero]; with_reducible rfl))
                              intro K hK
                              go_simp
                              go_at_call 72
                              refine (less_any _ _ _).mono ?_
                              rintro e w' ⟨rfl, rfl⟩
                              refine hK.out _ _ HS.out ?_
                              clear hK K
                              (try simp only [Act.put, List.setIfInBounds_toArray, List.set_cons_zero, List.set_cons_succ])
                              rw [HL.out]
                              iterate 1
                                (refine wpOrd_step (o := ?_) ?_ ?_; rotate_left 1; (simp only [List.getElem?_toArray, List.getElem?_cons_succ, List.getElem?_cons_zero]; with_reducible rfl))
                                (first
                                    | (refine wpOrd_skip (by rfl) ?_)
                                    | (refine wpOrd_take (v := ?_) (by rfl) ?_ ?_; rotate_left 1; (intro wx hSx; go_simp; try with_reducible rfl)))
                                (try simp only [Act.put, List.setIfInBounds_toArray, List.set_cons_zero, List.set_cons_succ])
                              refine wpOrd_done ?_
                              clear PS HS c1 c2 hc1 hc2 hf1 hf2
                              go_wp2_with fail
                              go_roundw
                              case rel => exact ⟨t + 1, s, k, dj, by go_num, by go_num, by omega, by omega, by omega, HN, HH, HM.out.drew, HP3⟩
                              case measure => simp [intOf]; omega
                          · have hgj : ¬ (j : Int) + 1 < (b : Int) := by omega
                            have HP3 : Hid (partialIns ltN a b s (k + 1) dj = R) := by
                              have h := HP4.out
                              rw [up_end2 hjb] at h
                              exact h
                            clear HP4
                            go_wp2_with fail
                            go_roundw
                            case rel => exact ⟨t + 1, s, k, dj, by go_num, by go_num, by omega, by omega, by omega, HN, HH, HM.out, HP3⟩
                            case measure => simp [intOf]; omega
                      · have hgB : ¬ (2 : Int) ≤ (b : Int) - ((k : Int) + 1) := by omega
                        have HP3 : Hid (partialIns ltN a b s (k + 1) dj = R) := by
                          have h := HP.out
                          rw [if_neg h2] at h
                          exact h
                        clear HP h2
                        go_wp2_with fail
                        go_roundw
                        case rel => exact ⟨t + 1, s, k, dj, by go_num, by go_num, by omega, by omega, by omega, HN, HH, HM.out, HP3⟩
                        case measure => simp [intOf]; omega
                    | succ j =>
                      obtain ⟨x, HX, hc1, hf1⟩ := at_cell HN HH (j + 1) (by omega)
                      obtain ⟨y, HY, hc2, hf2⟩ := at_cell HN HH j (by omega)
                      obtain ⟨S, HS, c1, c2, PS⟩ := ex_cells2 hc1 hc2 HH HM
                      have hr0 : (0 : Int) ≤ (j : Int) + 1 := by omega
                      have hr1 : (j : Int) + 1 < (n : Int) := by omega
                      have hr2 : (j : Int) < (n : Int) := by omega
                      have w3 := wr_in (j : Int) (by omega) (by omega)
                      go_wp2_with fail
                      cases hl : ltN x y with
                      | true =>
                        have HP2 : Hid (partialIns ltN a b s (k + 1) (if b - (k + 1) ≥ 2 then shiftUp ltN b (k + 1 + 1) (shiftDown ltN j (swp dj (j + 1) j)) else shiftDown ltN j (swp dj (j + 1) j)) = R) := by
                          have h := HP1.out
                          rw [dn_yes2 (by rw [← HX.out, ← HY.out]; exact hl)] at h
                          exact h
                        clear HP1
                        have HL := Lib.hid hl; clear hl
                        refine wp_region_ord S [(0, true), (1, true), (2, true), (3, true), (4, true), (5, true), (6, true), (7, true), (8, true), (9, false), (10, true)] (by kernel_rfl) (by kernel_rfl) rfl (by kernel_rfl) HS.out ?_
                        iterate 9
                          (refine wpOrd_step (o := ?_) ?_ ?_; rotate_left 1; (simp only [List.getElem?_toArray, List.getElem?_cons_succ, List.getElem?_cons_zero]; with_reducible rfl))
                          (first
                              | (refine wpOrd_skip (by rfl) ?_)
                              | (refine wpOrd_take (v := ?_) (by rfl) ?_ ?_; rotate_left 1; (intro wx hSx; have hc_0 := c1 wx hSx; have hc_1 := c2 wx hSx; go_simp; try with_reducible rfl)))
                          (try simp only [Act.put, List.setIfInBounds_toArray, List.set_cons_zero, List.set_cons_succ])
                        (refine wpOrd_solo (o := ?_) ?_ ?_; rotate_left 1; (simp only [List.getElem?_toArray, List.getElem?_cons_succ, List.getElem?_cons_zero]; with_reducible rfl))
                        intro K hK
                        go_simp
                        go_at_call 72
                        refine (less_any _ _ _).mono ?_
                        rintro e w' ⟨rfl, rfl⟩
                        refine hK.out _ _ HS.out ?_
                        clear hK K
                        (try simp only [Act.put, List.setIfInBounds_toArray, List.set_cons_zero, List.set_cons_succ])
                        rw [HL.out]
                        iterate 1
                          (refine wpOrd_step (o := ?_) ?_ ?_; rotate_left 1; (simp only [List.getElem?_toArray, List.getElem?_cons_succ, List.getElem?_cons_zero]; with_reducible rfl))
                          (first
                              | (refine wpOrd_skip (by rfl) ?_)
                              | (refine wpOrd_take (v := ?_) (by rfl) ?_ ?_; rotate_left 1; (intro wx hSx; go_simp; try with_reducible rfl)))
                          (try simp only [Act.put, List.setIfInBounds_toArray, List.set_cons_zero, List.set_cons_succ])
                        refine wpOrd_done ?_
                        obtain ⟨v3, hc3⟩ := set_some ⟨blk, off + (j + 1), none⟩ (.int .u64 (y : Int)) hc2
                        obtain ⟨HN2, HH2, HM2⟩ := swp_holds HN HH HM (j + 1) j HY HX (by omega) (by omega)
                        clear PS HS c1 c2
                        go_wp2_with fail
                        go_region
                        go_wp2_with fail
                        go_roundw
                        case rel => exact ⟨j, _, by go_num, by omega, HN2, HH2, HM2.out.drew.drew, HP2⟩
                        case measure => simp [intOf]
                      | false =>
                        have HP : Hid (partialIns ltN a b s (k + 1) (if b - (k + 1) ≥ 2 then shiftUp ltN b (k + 1 + 1) dj else dj) = R) := by
                          have h := HP1.out
                          rw [dn_no2 (by rw [← HX.out, ← HY.out]; exact hl)] at h
                          exact h
                        clear HP1
                        have HL := Lib.hid hl; clear hl
                        refine wp_region_ord S [(0, true), (1, true), (2, true), (3, true), (4, true), (5, true), (6, true), (7, true), (8, true), (9, false), (10, true)] (by kernel_rfl) (by kernel_rfl) rfl (by kernel_rfl) HS.out ?_
                        iterate 9
                          (refine wpOrd_step (o := ?_) ?_ ?_; rotate_left 1; (simp only [List.getElem?_toArray, List.getElem?_cons_succ, List.getElem?_cons_zero]; with_reducible rfl))
                          (first
                              | (refine wpOrd_skip (by rfl) ?_)
                              | (refine wpOrd_take (v := ?_) (by rfl) ?_ ?_; rotate_left 1; (intro wx hSx; have hc_0 := c1 wx hSx; have hc_1 := c2 wx hSx; go_simp; try with_reducible rfl)))
                          (try simp only [Act.put, List.setIfInBounds_toArray, List.set_cons_zero, List.set_cons_succ])
                        (refine wpOrd_solo (o := ?_) ?_ ?_; rotate_left 1; (simp only [List.getElem?_toArray, List.getElem?_cons_succ, List.getElem?_cons_zero]; with_reducible rfl))
                        intro K hK
                        go_simp
                        go_at_call 72
                        refine (less_any _ _ _).mono ?_
                        rintro e w' ⟨rfl, rfl⟩
                        refine hK.out _ _ HS.out ?_
                        clear hK K
                        (try simp only [Act.put, List.setIfInBounds_toArray, List.set_cons_zero, List.set_cons_succ])
                        rw [HL.out]
                        iterate 1
                          (refine wpOrd_step (o := ?_) ?_ ?_; rotate_left 1; (simp only [List.getElem?_toArray, List.getElem?_cons_succ, List.getElem?_cons_zero]; with_reducible rfl))
                          (first
                              | (refine wpOrd_skip (by rfl) ?_)
                              | (refine wpOrd_take (v := ?_) (by rfl) ?_ ?_; rotate_left 1; (intro wx hSx; go_simp; try with_reducible rfl)))
                          (try simp only [Act.put, List.setIfInBounds_toArray, List.set_cons_zero, List.set_cons_succ])
                        refine wpOrd_done ?_
                        clear PS HS c1 c2 hc1 hc2 hf1 hf2
                        have HHd : Hid (Holds eu wr.drew blk off dj) := HH
                        have HMd := Lib.hid HM.out.drew
                        generalize wr.drew = W3 at HHd HMd ⊢
                        clear HH HM HX HY HL
                        have HH := HHd; have HM := HMd; clear HHd HMd
                        by_cases h2 : 2 ≤ b - (k + 1)
                        · have hgB : (2 : Int) ≤ (b : Int) - ((k : Int) + 1) := by omega
                          have HP3 : Hid (partialIns ltN a b s (k + 1) (shiftUp ltN b (k + 1 + 1) dj) = R) := by
                            have h := HP.out
                            rw [if_pos h2] at h
                            exact h
                          clear HP h2
                          go_wp2_with fail
                          go_loopw [10] (fun jv wr => ∃ (j : Nat) (dj : Array Nat), jv = .int .i64 ((j : Int) + 1) ∧ j + 1 ≤ b ∧ Hid (dj.size = n) ∧ Hid (Holds eu wr blk off dj) ∧ Hid (Mut blk w wr) ∧ Hid (partialIns ltN a b s (k + 1) (shiftUp ltN b (j + 1) dj) = R)) (fun jv _ => b - (intOf jv).toNat)
                          case atStart => exact ⟨k + 1, dj, by go_num, by omega, HN, HH, HM, HP3⟩
                          case round =>
                            clear HP3 HN HH HM
                            obtain ⟨j, dj, rfl, hj, HN, HH, HM, HP4⟩ := hrel
                            by_cases hjb : j + 1 < b
                            · have hgj : (j : Int) + 1 < (b : Int) := by omega
                              obtain ⟨x, HX, hc1, hf1⟩ := at_cell HN HH (j + 1) (by omega)
                              obtain ⟨y, HY, hc2, hf2⟩ := at_cell HN HH j (by omega)
                              obtain ⟨S, HS, c1, c2, PS⟩ := ex_cells2 hc1 hc2 HH HM
                              have hr0 : (0 : Int) ≤ (j : Int) + 1 := by omega
                              have hr1 : (j : Int) + 1 < (n : Int) := by omega
                              have hr2 : (j : Int) < (n : Int) := by omega
                              have w3 := wr_in (j : Int) (by omega) (by omega)
                              go_wp2_with fail
                              cases hl : ltN x y with
                              | true =>
                                have HP5 : Hid (partialIns ltN a b s (k + 1) (shiftUp ltN b (j + 1 + 1) (swp dj (j + 1) j)) = R) := by
                                  have h := HP4.out
                                  rw [up_yes2 hjb (by rw [← HX.out, ← HY.out]; exact hl)] at h
                                  exact h
                                clear HP4
                                have HL := Lib.hid hl; clear hl
                                refine wp_region_ord S [(0, true), (1, true), (2, true), (3, true), (4, true), (5, true), (6, true), (7, true), (8, true), (9, false), (10, true)] (by kernel_rfl) (by kernel_rfl) rfl (by kernel_rfl) HS.out ?_
                                iterate 9
                                  (refine wpOrd_step (o := ?_) ?_ ?_; rotate_left 1; (simp only [List.getElem?_toArray, List.getElem?_cons_succ, List.getElem?_cons_zero]; with_reducible rfl))
                                  (first
                                      | (refine wpOrd_skip (by rfl) ?_)
                                      | (refine wpOrd_take (v := ?_) (by rfl) ?_ ?_; rotate_left 1; (intro wx hSx; have hc_0 := c1 wx hSx; have hc_1 := c2 wx hSx; go_simp; try with_reducible rfl)))
                                  (try simp only [Act.put, List.setIfInBounds_toArray, List.set_cons_zero, List.set_cons_succ])
                                (refine wpOrd_solo (o := ?_) ?_ ?_; rotate_left 1; (simp only [List.getElem?_toArray, List.getElem?_cons_succ, List.getElem?_cons_zero]; with_reducible rfl))
                                intro K hK
                                go_simp
                                go_at_call 72
                                refine (less_any _ _ _).mono ?_
                                rintro e w' ⟨rfl, rfl⟩
                                refine hK.out _ _ HS.out ?_
                                clear hK K
                                (try simp only [Act.put, List.setIfInBounds_toArray, List.set_cons_zero, List.set_cons_succ])
                                rw [HL.out]
                                iterate 1
                                  (refine wpOrd_step (o := ?_) ?_ ?_; rotate_left 1; (simp only [List.getElem?_toArray, List.getElem?_cons_succ, List.getElem?_cons_zero]; with_reducible rfl))
                                  (first
                                      | (refine wpOrd_skip (by rfl) ?_)
                                      | (refine wpOrd_take (v := ?_) (by rfl) ?_ ?_; rotate_left 1; (intro wx hSx; go_simp; try with_reducible rfl)))
                                  (try simp only [Act.put, List.setIfInBounds_toArray, List.set_cons_zero, List.set_cons_succ])
                                refine wpOrd_done ?_
                                obtain ⟨v3, hc3⟩ := set_some ⟨blk, off + (j + 1), none⟩ (.int .u64 (y : Int)) hc2
                                obtain ⟨HN2, HH2, HM2⟩ := swp_holds HN HH HM (j + 1) j HY HX (by omega) (by omega)
                                clear PS HS c1 c2
                                go_wp2_with fail
                                go_region
                                go_wp2_with fail
                                go_roundw
                                case rel => exact ⟨j + 1, _, by go_num, by omega, HN2, HH2, HM2.out.drew.drew, HP5⟩
                                case measure => simp [intOf]; omega
                              | false =>
                                have HP3 : Hid (partialIns ltN a b s (k + 1) dj = R) := by
                                  have h := HP4.out
                                  rw [up_no2 hjb (by rw [← HX.out, ← HY.out]; exact hl)] at h
                                  exact h
                                clear HP4
                                have HL := Lib.hid hl; clear hl
                                refine wp_region_ord S [(0, true), (1, true), (2, true), (3, true), (4, true), (5, true), (6, true), (7, true), (8, true), (9, false), (10, true)] (by kernel_rfl) (by kernel_rfl) rfl (by kernel_rfl) HS.out ?_
                                iterate 9
                                  (refine wpOrd_step (o := ?_) ?_ ?_; rotate_left 1; (simp only [List.getElem?_toArray, List.getElem?_cons_succ, List.getElem?_cons_zero]; with_reducible rfl))
                                  (first
                                      | (refine wpOrd_skip (by rfl) ?_)
                                      | (refine wpOrd_take (v := ?_) (by rfl) ?_ ?_; rotate_left 1; (intro wx hSx; have hc_0 := c1 wx hSx; have hc_1 := c2 wx hSx; go_simp; try with_reducible rfl)))
                                  (try simp only [Act.put, List.setIfInBounds_toArray, List.set_cons_zero, List.set_cons_succ])
                                (refine wpOrd_solo (o := ?_) ?_ ?_; rotate_left 1; (simp only [List.getElem?_toArray, List.getElem?_cons_succ, List.getElem?_cons_zero]; with_reducible rfl))
                                intro K hK
                                go_simp
                                go_at_call 72
                                refine (less_any _ _ _).mono ?_
                                rintro e w' ⟨rfl, rfl⟩
                                refine hK.out _ _ HS.out ?_
                                clear hK K
                                (try simp only [Act.put, List.setIfInBounds_toArray, List.set_cons_zero, List.set_cons_succ])
                                rw [HL.out]
                                iterate 1
                                  (refine wpOrd_step (o := ?_) ?_ ?_; rotate_left 1; (simp only [List.getElem?_toArray, List.getElem?_cons_succ, List.getElem?_cons_zero]; with_reducible rfl))
                                  (first
                                      | (refine wpOrd_skip (by rfl) ?_)
                                      | (refine wpOrd_take (v := ?_) (by rfl) ?_ ?_; rotate_left 1; (intro wx hSx; go_simp; try with_reducible rfl)))
                                  (try simp only [Act.put, List.setIfInBounds_toArray, List.set_cons_zero, List.set_cons_succ])
                                refine wpOrd_done ?_
                                clear PS HS c1 c2 hc1 hc2 hf1 hf2
                                go_wp2_with fail
                                go_roundw
                                case rel => exact ⟨t + 1, s, k, dj, by go_num, by go_num, by omega, by omega, by omega, HN, HH, HM.out.drew, HP3⟩
                                case measure => simp [intOf]; omega
                            · have hgj : ¬ (j : Int) + 1 < (b : Int) := by omega
                              have HP3 : Hid (partialIns ltN a b s (k + 1) dj = R) := by
                                have h := HP4.out
                                rw [up_end2 hjb] at h
                                exact h
                              clear HP4
                              go_wp2_with fail
                              go_roundw
                              case rel => exact ⟨t + 1, s, k, dj, by go_num, by go_num, by omega, by omega, by omega, HN, HH, HM.out, HP3⟩
                              case measure => simp [intOf]; omega
                        · have hgB : ¬ (2 : Int) ≤ (b : Int) - ((k : Int) + 1) := by omega
                          have HP3 : Hid (partialIns ltN a b s (k + 1) dj = R) := by
                            have h := HP.out
                            rw [if_neg h2] at h
                            exact h
                          clear HP h2
                          go_wp2_with fail
                          go_roundw
                          case rel => exact ⟨t + 1, s, k, dj, by go_num, by go_num, by omega, by omega, by omega, HN, HH, HM.out, HP3⟩
                          case measure => simp [intOf]; omega
                · have hgA : ¬ (2 : Int) ≤ (k : Int) + 1 - (a : Int) := by omega
                  have HP : Hid (partialIns ltN a b s (k + 1) (if b - (k + 1) ≥ 2 then shiftUp ltN b (k + 1 + 1) dj else dj) = R) := by
                    have h := HT4.out.symm
                    rw [if_neg h1] at h
                    exact h
                  clear HT4 h1
                  by_cases h2 : 2 ≤ b - (k + 1)
                  · have hgB : (2 : Int) ≤ (b : Int) - ((k : Int) + 1) := by omega
                    have HP3 : Hid (partialIns ltN a b s (k + 1) (shiftUp ltN b (k + 1 + 1) dj) = R) := by
                      have h := HP.out
                      rw [if_pos h2] at h
                      exact h
                    clear HP h2
                    go_wp2_with fail
                    go_loopw [10] (fun jv wr => ∃ (j : Nat) (dj : Array Nat), jv = .int .i64 ((j : Int) + 1) ∧ j + 1 ≤ b ∧ Hid (dj.size = n) ∧ Hid (Holds eu wr blk off dj) ∧ Hid (Mut blk w wr) ∧ Hid (partialIns ltN a b s (k + 1) (shiftUp ltN b (j + 1) dj) = R)) (fun jv _ => b - (intOf jv).toNat)
                    case atStart => exact ⟨k + 1, dj, by go_num, by omega, HN, HH, HM, HP3⟩
                    case round =>
                      clear HP3 HN HH HM
                      obtain ⟨j, dj, rfl, hj, HN, HH, HM, HP4⟩ := hrel
                      by_cases hjb : j + 1 < b
                      · have hgj : (j : Int) + 1 < (b : Int) := by omega
                        obtain ⟨x, HX, hc1, hf1⟩ := at_cell HN HH (j + 1) (by omega)
                        obtain ⟨y, HY, hc2, hf2⟩ := at_cell HN HH j (by omega)
                        obtain ⟨S, HS, c1, c2, PS⟩ := ex_cells2 hc1 hc2 HH HM
                        have hr0 : (0 : Int) ≤ (j : Int) + 1 := by omega
                        have hr1 : (j : Int) + 1 < (n : Int) := by omega
                        have hr2 : (j : Int) < (n : Int) := by omega
                        have w3 := wr_in (j : Int) (by omega) (by omega)
                        go_wp2_with fail
                        cases hl : ltN x y with
                        | true =>
                          have HP5 : Hid (partialIns ltN a b s (k + 1) (shiftUp ltN b (j + 1 + 1) (swp dj (j + 1) j)) = R) := by
                            have h := HP4.out
                            rw [up_yes2 hjb (by rw [← HX.out, ← HY.out]; exact hl)] at h
                            exact h
                          clear HP4
                          have HL := Lib.hid hl; clear hl
                          refine wp_region_ord S [(0, true), (1, true), (2, true), (3, true), (4, true), (5, true), (6, true), (7, true), (8, true), (9, false), (10, true)] (by kernel_rfl) (by kernel_rfl) rfl (by kernel_rfl) HS.out ?_
                          iterate 9
                            (refine wpOrd_step (o := ?_) ?_ ?_; rotate_left 1; (simp only [List.getElem?_toArray, List.getElem?_cons_succ, List.getElem?_cons_zero]; with_reducible rfl))
                            (first
                                | (refine wpOrd_skip (by rfl) ?_)
                                | (refine wpOrd_take (v := ?_) (by rfl) ?_ ?_; rotate_left 1; (intro wx hSx; have hc_0 := c1 wx hSx; have hc_1 := c2 wx hSx; go_simp; try with_reducible rfl)))
                            (try simp only [Act.put, List.setIfInBounds_toArray, List.set_cons_zero, List.set_cons_succ])
                          (refine wpOrd_solo (o := ?_) ?_ ?_; rotate_left 1; (simp only [List.getElem?_toArray, List.getElem?_cons_succ, List.getElem?_cons_zero]; with_reducible rfl))
                          intro K hK
                          go_simp
                          go_at_call 72
                          refine (less_any _ _ _).mono ?_
                          rintro e w' ⟨rfl, rfl⟩
                          refine hK.out _ _ HS.out ?_
                          clear hK K
                          (try simp only [Act.put, List.setIfInBounds_toArray, List.set_cons_zero, List.set_cons_succ])
                          rw [HL.out]
                          iterate 1
                            (refine wpOrd_step (o := ?_) ?_ ?_; rotate_left 1; (simp only [List.getElem?_toArray, List.getElem?_cons_succ, List.getElem?_cons_zero]; with_reducible rfl))
                            (first
                                | (refine wpOrd_skip (by rfl) ?_)
                                | (refine wpOrd_take (v := ?_) (by rfl) ?_ ?_; rotate_left 1; (intro wx hSx; go_simp; try with_reducible rfl)))
                            (try simp only [Act.put, List.setIfInBounds_toArray, List.set_cons_zero, List.set_cons_succ])
                          refine wpOrd_done ?_
                          obtain ⟨v3, hc3⟩ := set_some ⟨blk, off + (j + 1), none⟩ (.int .u64 (y : Int)) hc2
                          obtain ⟨HN2, HH2, HM2⟩ := swp_holds HN HH HM (j + 1) j HY HX (by omega) (by omega)
                          clear PS HS c1 c2
                          go_wp2_with fail
                          go_region
                          go_wp2_with fail
                          go_roundw
                          case rel => exact ⟨j + 1, _, by go_num, by omega, HN2, HH2, HM2.out.drew.drew, HP5⟩
                          case measure => simp [intOf]; omega
                        | false =>
                          have HP3 : Hid (partialIns ltN a b s (k + 1) dj = R) := by
                            have h := HP4.out
                            rw [up_no2 hjb (by rw [← HX.out, ← HY.out]; exact hl)] at h
                            exact h
                          clear HP4
                          have HL := Lib.hid hl; clear hl
                          refine wp_region_ord S [(0, true), (1, true), (2, true), (3, true), (4, true), (5, true), (6, true), (7, true), (8, true), (9, false), (10, true)] (by kernel_rfl) (by kernel_rfl) rfl (by kernel_rfl) HS.out ?_
                          iterate 9
                            (refine wpOrd_step (o := ?_) ?_ ?_; rotate_left 1; (simp only [List.getElem?_toArray, List.getElem?_cons_succ, List.getElem?_cons_zero]; with_reducible rfl))
                            (first
                                | (refine wpOrd_skip (by rfl) ?_)
                                | (refine wpOrd_take (v := ?_) (by rfl) ?_ ?_; rotate_left 1; (intro wx hSx; have hc_0 := c1 wx hSx; have hc_1 := c2 wx hSx; go_simp; try with_reducible rfl)))
                            (try simp only [Act.put, List.setIfInBounds_toArray, List.set_cons_zero, List.set_cons_succ])
                          (refine wpOrd_solo (o := ?_) ?_ ?_; rotate_left 1; (simp only [List.getElem?_toArray, List.getElem?_cons_succ, List.getElem?_cons_zero]; with_reducible rfl))
                          intro K hK
                          go_simp
                          go_at_call 72
                          refine (less_any _ _ _).mono ?_
                          rintro e w' ⟨rfl, rfl⟩
                          refine hK.out _ _ HS.out ?_
                          clear hK K
                          (try simp only [Act.put, List.setIfInBounds_toArray, List.set_cons_zero, List.set_cons_succ])
                          rw [HL.out]
                          iterate 1
                            (refine wpOrd_step (o := ?_) ?_ ?_; rotate_left 1; (simp only [List.getElem?_toArray, List.getElem?_cons_succ, List.getElem?_cons_zero]; with_reducible rfl))
                            (first
                                | (refine wpOrd_skip (by rfl) ?_)
                                | (refine wpOrd_take (v := ?_) (by rfl) ?_ ?_; rotate_left 1; (intro wx hSx; go_simp; try with_reducible rfl)))
                            (try simp only [Act.put, List.setIfInBounds_toArray, List.set_cons_zero, List.set_cons_succ])
                          refine wpOrd_done ?_
                          clear PS HS c1 c2 hc1 hc2 hf1 hf2
                          go_wp2_with fail
                          go_roundw
                          case rel => exact ⟨t + 1, s, k, dj, by go_num, by go_num, by omega, by omega, by omega, HN, HH, HM.out.drew, HP3⟩
                          case measure => simp [intOf]; omega
                      · have hgj : ¬ (j : Int) + 1 < (b : Int) := by omega
                        have HP3 : Hid (partialIns ltN a b s (k + 1) dj = R) := by
                          have h := HP4.out
                          rw [up_end2 hjb] at h
                          exact h
                        clear HP4
                        go_wp2_with fail
                        go_roundw
                        case rel => exact ⟨t + 1, s, k, dj, by go_num, by go_num, by omega, by omega, by omega, HN, HH, HM.out, HP3⟩
                        case measure => simp [intOf]; omega
                  · have hgB : ¬ (2 : Int) ≤ (b : Int) - ((k : Int) + 1) := by omega
                    have HP3 : Hid (partialIns ltN a b s (k + 1) dj = R) := by
                      have h := HP.out
                      rw [if_neg h2] at h
                      exact h
                    clear HP h2
                    go_wp2_with fail
                    go_roundw
                    case rel => exact ⟨t + 1, s, k, dj, by go_num, by go_num, by omega, by omega, by omega, HN, HH, HM.out, HP3⟩
                    case measure => simp [intOf]; omega
end Go.Proofs.YtopckkdmldhmlaaDoor
