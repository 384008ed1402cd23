/-
  Sorting rows of words: the part that parts a row into equal and greater ones. Conditions: indices within the row.
-/
import Derived.Test.YtopckkdmldhmlaaDoorSortF
import Derived.BigRegion
import Derived.Deep.CutRange
namespace Go.Proofs.YtopckkdmldhmlaaDoor
open Go.RowKit RM
open Go.Sort hiding Below ahead

theorem up_yes {p : Nat → Bool} {d : Array Nat} {j i : Nat} (h : (decide (i ≤ j) && p d[i]!) = true) : scanUp p d j i = scanUp p d j (i + 1) := by
  conv => lhs; rw [scanUp]
  rw [if_pos h]
theorem up_no {p : Nat → Bool} {d : Array Nat} {j i : Nat} (h : (decide (i ≤ j) && p d[i]!) = false) : scanUp p d j i = i := by
  rw [scanUp, if_neg (by rw [h]; simp)]
theorem down_yes {p : Nat → Bool} {d : Array Nat} {j i : Nat} (h : (decide (i ≤ j + 1) && p d[j + 1]!) = true) : scanDown p d i (j + 1) = scanDown p d i j := by
  rw [scanDown, if_pos h]
theorem down_no {p : Nat → Bool} {d : Array Nat} {j i : Nat} (h : (decide (i ≤ j) && p d[j]!) = false) : scanDown p d i j = j := by
  cases j with
  | zero => rfl
  | succ j => rw [scanDown, if_neg (by rw [h]; simp)]

theorem and_split {a b : Bool} (h : (a && b) = true) : a = true ∧ b = true := by simpa using h
set_option maxHeartbeats 2000000 in
theorem parteq_any (blk off n cap a c pv : Nat) (d : Array Nat) (w : World) (HN : Hid (d.size = n)) (HH : Hid (Holds eu w blk off d)) (hab : a ≤ c) (hb : c < n) (hn : n ≤ 64) (hp2 : pv ≤ c) :
    Calls Tryd.prog 73 #[.slice (some ⟨blk, off, none⟩) n cap, .int .i64 (a : Int), .int .i64 ((c : Int) + 1), .int .i64 (pv : Int)] w fun e w' =>
      e = .returned (.int .i64 ((partitionEqual ltN d a (c + 1) pv).1 : Int)) ∧ Holds eu w' blk off (partitionEqual ltN d a (c + 1) pv).2 ∧ Mut blk w w' := by
  have HT0 : Hid (partEqLoop ltN a (a + 1) c (swp d a pv) = partitionEqual ltN d a (c + 1) pv) := rfl
  generalize partitionEqual ltN d a (c + 1) pv = R at *
  obtain ⟨x, HX, hc1, hf1⟩ := at_cell HN HH pv (by omega)
  obtain ⟨y, HY, hc2, hf2⟩ := at_cell HN HH a (by omega)
  obtain ⟨v3, hc3⟩ := set_some ⟨blk, off + a, none⟩ (.int .u64 (x : Int)) hc1
  obtain ⟨HN2, HH2, HM2⟩ := swp_holds HN HH (Lib.hid (Mut.refl blk w)) a pv HX HY (by omega) (by omega)
  have hr1 : (pv : Int) < (n : Int) := by omega
  have hr2 : (a : Int) < (n : Int) := by omega
  have w6 := wr_in ((a : Int) + 1) (by omega) (by omega)
  have w7 := wr_in (c : Int) (by omega) (by omega)
  go_enter Tryd.func73, Tryd.ntmps73
  go_wp2_with fail
  go_region
  go_wp2_with fail
  have HHd : Hid (Holds eu (World.drew ((w.setCell ⟨blk, off + a, none⟩ (.int .u64 (x : Int))).setCell ⟨blk, off + pv, none⟩ (.int .u64 (y : Int)))) blk off (swp d a pv)) := HH2
  have HMd := Lib.hid HM2.out.drew
  clear hc1 hc2 hc3 hf1 hf2 HH2 HM2
  generalize (World.drew ((w.setCell ⟨blk, off + a, none⟩ (.int .u64 (x : Int))).setCell ⟨blk, off + pv, none⟩ (.int .u64 (y : Int)))) = W at HHd HMd ⊢
  go_loopw [9, 10] (fun iv jv wr => ∃ (i j : Nat) (dk : Array Nat), iv = .int .i64 i ∧ jv = .int .i64 j ∧ a + 1 ≤ i ∧ i ≤ n ∧ a ≤ j ∧ j < n ∧ Hid (dk.size = n) ∧ Hid (Holds eu wr blk off dk) ∧ Hid (Mut blk w wr) ∧ Hid (partEqLoop ltN a i j dk = R)) (fun iv jv _ => (intOf jv).toNat + 1 - (intOf iv).toNat)
  case atStart => exact ⟨a + 1, c, _, by go_num, by go_num, by omega, by omega, by omega, by omega, HN2, HHd, HMd, HT0⟩
  case round =>
    clear HN2 HHd HMd HT0 HN HH HX HY
    obtain ⟨i, j, dk, rfl, rfl, hi1, hi2, hj1, hj2, HN, HH, HM, HT⟩ := hrel
    obtain ⟨wo, rfl⟩ : ∃ wo : World, wo = wr := ⟨_, rfl⟩
    go_wp2_with fail
    go_loopw [9] (fun kv wr => ∃ k : Nat, kv = .int .i64 k ∧ i ≤ k ∧ k ≤ n ∧ Hid (Holds eu wr blk off dk) ∧ Hid (Mut blk w wr) ∧ Hid (scanUp (fun x => !ltN dk[a]! x) dk j k = scanUp (fun x => !ltN dk[a]! x) dk j i)) (fun kv _ => n + 1 - (intOf kv).toNat)
    case atStart => exact ⟨i, rfl, by omega, by omega, HH, HM, rfl⟩
    case round =>
      clear HH HM
      obtain ⟨k, rfl, hk1, hk2, HH, HM, HI⟩ := hrel
      go_upto_region 3 with fail
      go_cut [43] from 29 to 45 (fun c wx => c = .bool (decide (k ≤ j) && !ltN dk[a]! dk[k]!) ∧ wx = wr.drew)
      case first =>
        by_cases hg : k ≤ j
        · obtain ⟨x, HX, hc1, hf1⟩ := at_cell HN HH a (by omega)
          obtain ⟨y, HY, hc2, hf2⟩ := at_cell HN HH k (by omega)
          obtain ⟨S, HS, c1, c2, PS⟩ := ex_cells2 hc1 hc2 HH HM
          have hg2 : (k : Int) ≤ (j : Int) := by omega
          have hr1 : (a : Int) < (n : Int) := by omega
          have hr2 : (k : Int) < (n : Int) := by omega
          have hl : ∃ t, ltN x y = t := ⟨_, rfl⟩
          obtain ⟨t, hl⟩ := hl
          have HL := Lib.hid hl; clear hl hg
          refine wp_region_ord S [(0, true), (1, true), (2, true), (3, true), (4, true), (5, true), (6, true), (7, true), (8, true), (9, true), (10, true), (11, true), (12, false), (13, true), (14, true)] (by kernel_rfl) (by kernel_rfl) rfl (by kernel_rfl) HS.out ?_
          iterate 12
            (refine wpOrd_step (o := ?_) ?_ ?_; rotate_left 1; (simp only [List.getElem?_toArray, List.getElem?_cons_succ, List.getElem?_cons_zero]; with_reducible rfl))
            (first
                | (refine wpOrd_skip (by rfl) ?_)
                | (refine wpOrd_take (v := ?_) (by rfl) ?_ ?_; rotate_left 1; (intro wx hSx; have hc_0 := c1 wx hSx; have hc_1 := c2 wx hSx; go_simp; try with_reducible rfl)))
            (try simp only [Act.put, List.setIfInBounds_toArray, List.set_cons_zero, List.set_cons_succ])
          (refine wpOrd_solo (o := ?_) ?_ ?_; rotate_left 1; (simp only [List.getElem?_toArray, List.getElem?_cons_succ, List.getElem?_cons_zero]; with_reducible rfl))
          intro K hK
          go_simp
          go_at_call 72
          refine (less_any _ _ _).mono ?_
          rintro e w' ⟨rfl, rfl⟩
          refine hK.out _ _ HS.out ?_
          clear hK K
          (try simp only [Act.put, List.setIfInBounds_toArray, List.set_cons_zero, List.set_cons_succ])
          rw [HL.out]
          iterate 2
            (refine wpOrd_step (o := ?_) ?_ ?_; rotate_left 1; (simp only [List.getElem?_toArray, List.getElem?_cons_succ, List.getElem?_cons_zero]; with_reducible rfl))
            (first
                | (refine wpOrd_skip (by rfl) ?_)
                | (refine wpOrd_take (v := ?_) (by rfl) ?_ ?_; rotate_left 1; (intro wx hSx; go_simp; try with_reducible rfl)))
            (try simp only [Act.put, List.setIfInBounds_toArray, List.set_cons_zero, List.set_cons_succ])
          refine wpOrd_done ?_
          clear PS HS c1 c2 hc1 hc2 hf1 hf2
          go_wp2_with fail
          go_meet
          case rel =>
            refine ⟨?_, rfl⟩
            rw [← HX.out, ← HY.out, HL.out, decide_eq_true (Int.ofNat_le.1 hg2)]
            simp
        · have hg2 : ¬ (k : Int) ≤ (j : Int) := by omega
          obtain ⟨S, HS, PS⟩ : ∃ S : World → Prop, Hid (S wr.drew) ∧ Hid (∀ w', S w' → w' = wr.drew) := ⟨fun w' => w' = wr.drew, rfl, fun _ h => h⟩
          refine wp_region_ord S [(0, true), (1, true), (2, true), (3, true), (4, true), (5, true), (6, true), (7, true), (8, true), (9, true), (10, true), (11, true), (12, false), (13, true), (14, true)] (by kernel_rfl) (by kernel_rfl) rfl (by kernel_rfl) HS.out ?_
          iterate 12
            (refine wpOrd_step (o := ?_) ?_ ?_; rotate_left 1; (simp only [List.getElem?_toArray, List.getElem?_cons_succ, List.getElem?_cons_zero]; with_reducible rfl))
            (first
                | (refine wpOrd_skip (by rfl) ?_)
                | (refine wpOrd_take (v := ?_) (by rfl) ?_ ?_; rotate_left 1; (intro wx hSx; go_simp; try with_reducible rfl)))
            (try simp only [Act.put, List.setIfInBounds_toArray, List.set_cons_zero, List.set_cons_succ])
          (refine wpOrd_solo (o := ?_) ?_ ?_; rotate_left 1; (simp only [List.getElem?_toArray, List.getElem?_cons_succ, List.getElem?_cons_zero]; with_reducible rfl))
          intro K hK
          go_simp
          refine hK.out _ _ HS.out ?_
          clear hK K
          (try simp only [Act.put, List.setIfInBounds_toArray, List.set_cons_zero, List.set_cons_succ])
          iterate 2
            (refine wpOrd_step (o := ?_) ?_ ?_; rotate_left 1; (simp only [List.getElem?_toArray, List.getElem?_cons_succ, List.getElem?_cons_zero]; with_reducible rfl))
            (first
                | (refine wpOrd_skip (by rfl) ?_)
                | (refine wpOrd_take (v := ?_) (by rfl) ?_ ?_; rotate_left 1; (intro wx hSx; go_simp; try with_reducible rfl)))
            (try simp only [Act.put, List.setIfInBounds_toArray, List.set_cons_zero, List.set_cons_succ])
          refine wpOrd_done ?_
          clear PS HS
          go_wp2_with fail
          go_meet
          case rel => exact ⟨by rw [decide_eq_false hg]; rfl, rfl⟩
      
      case rest =>
        obtain ⟨rfl, rfl⟩ := hcut
        cases hbb : (decide (k ≤ j) && !ltN dk[a]! dk[k]!) with
        | true =>
          have HI2 : Hid (scanUp (fun x => !ltN dk[a]! x) dk j (k + 1) = scanUp (fun x => !ltN dk[a]! x) dk j i) := by
            have h := up_yes (p := fun x => !ltN dk[a]! x) hbb
            rw [← h]; exact HI
          have hkj : k ≤ j := of_decide_eq_true (and_split hbb).1
          clear hbb
          go_wp2_with fail
          go_roundw
          case rel => exact ⟨k + 1, by go_num, by omega, by omega, HH, HM.out.drew, HI2⟩
          case measure => simp [intOf]; omega
        | false =>
          have HI2 : Hid (scanUp (fun x => !ltN dk[a]! x) dk j i = k) := by
            have h := up_no (p := fun x => !ltN dk[a]! x) hbb
            rw [← HI.out]; exact h
          clear hbb HI
          have HH' : Hid (Holds eu wr.drew blk off dk) := HH
          have HM' := Lib.hid HM.out.drew
          generalize wr.drew = W1 at HH' HM' ⊢
          clear HH HM
          go_wp2_with fail
          go_loopw [10] (fun lv wr => ∃ l : Nat, lv = .int .i64 l ∧ a ≤ l ∧ l ≤ j ∧ Hid (Holds eu wr blk off dk) ∧ Hid (Mut blk w wr) ∧ Hid (scanDown (fun x => ltN dk[a]! x) dk k l = scanDown (fun x => ltN dk[a]! x) dk k j)) (fun lv _ => (intOf lv).toNat)
          case atStart => exact ⟨j, rfl, by omega, by omega, HH', HM', rfl⟩
          case round =>
            clear HH' HM'
            obtain ⟨l, rfl, hl1, hl2, HH, HM, HJ⟩ := hrel
            go_upto_region 5 with fail
            go_cut [59] from 46 to 61 (fun c wx => c = .bool (decide (k ≤ l) && ltN dk[a]! dk[l]!) ∧ wx = wr.drew)
            case first =>
              by_cases hg : k ≤ l
              · obtain ⟨x, HX, hc1, hf1⟩ := at_cell HN HH a (by omega)
                obtain ⟨y, HY, hc2, hf2⟩ := at_cell HN HH l (by omega)
                obtain ⟨S, HS, c1, c2, PS⟩ := ex_cells2 hc1 hc2 HH HM
                have hg2 : (k : Int) ≤ (l : Int) := by omega
                have hr1 : (a : Int) < (n : Int) := by omega
                have hr2 : (l : Int) < (n : Int) := by omega
                have hl : ∃ t, ltN x y = t := ⟨_, rfl⟩
                obtain ⟨t, hl⟩ := hl
                have HL := Lib.hid hl; clear hl hg
                refine wp_region_ord S [(0, true), (1, true), (2, true), (3, true), (4, true), (5, true), (6, true), (7, true), (8, true), (9, true), (10, true), (11, true), (12, false), (13, true)] (by kernel_rfl) (by kernel_rfl) rfl (by kernel_rfl) HS.out ?_
                iterate 12
                  (refine wpOrd_step (o := ?_) ?_ ?_; rotate_left 1; (simp only [List.getElem?_toArray, List.getElem?_cons_succ, List.getElem?_cons_zero]; with_reducible rfl))
                  (first
                      | (refine wpOrd_skip (by rfl) ?_)
                      | (refine wpOrd_take (v := ?_) (by rfl) ?_ ?_; rotate_left 1; (intro wx hSx; have hc_0 := c1 wx hSx; have hc_1 := c2 wx hSx; go_simp; try with_reducible rfl)))
                  (try simp only [Act.put, List.setIfInBounds_toArray, List.set_cons_zero, List.set_cons_succ])
                (refine wpOrd_solo (o := ?_) ?_ ?_; rotate_left 1; (simp only [List.getElem?_toArray, List.getElem?_cons_succ, List.getElem?_cons_zero]; with_reducible rfl))
                intro K hK
                go_simp
                go_at_call 72
                refine (less_any _ _ _).mono ?_
                rintro e w' ⟨rfl, rfl⟩
                refine hK.out _ _ HS.out ?_
                clear hK K
                (try simp only [Act.put, List.setIfInBounds_toArray, List.set_cons_zero, List.set_cons_succ])
                rw [HL.out]
                iterate 1
                  (refine wpOrd_step (o := ?_) ?_ ?_; rotate_left 1; (simp only [List.getElem?_toArray, List.getElem?_cons_succ, List.getElem?_cons_zero]; with_reducible rfl))
                  (first
                      | (refine wpOrd_skip (by rfl) ?_)
                      | (refine wpOrd_take (v := ?_) (by rfl) ?_ ?_; rotate_left 1; (intro wx hSx; go_simp; try with_reducible rfl)))
                  (try simp only [Act.put, List.setIfInBounds_toArray, List.set_cons_zero, List.set_cons_succ])
                refine wpOrd_done ?_
                clear PS HS c1 c2 hc1 hc2 hf1 hf2
                go_wp2_with fail
                go_meet
                case rel =>
                  refine ⟨?_, rfl⟩
                  rw [← HX.out, ← HY.out, HL.out, decide_eq_true (Int.ofNat_le.1 hg2)]
                  simp
              · have hg2 : ¬ (k : Int) ≤ (l : Int) := by omega
                obtain ⟨S, HS, PS⟩ : ∃ S : World → Prop, Hid (S wr.drew) ∧ Hid (∀ w', S w' → w' = wr.drew) := ⟨fun w' => w' = wr.drew, rfl, fun _ h => h⟩
                refine wp_region_ord S [(0, true), (1, true), (2, true), (3, true), (4, true), (5, true), (6, true), (7, true), (8, true), (9, true), (10, true), (11, true), (12, false), (13, true)] (by kernel_rfl) (by kernel_rfl) rfl (by kernel_rfl) HS.out ?_
                iterate 12
                  (refine wpOrd_step (o := ?_) ?_ ?_; rotate_left 1; (simp only [List.getElem?_toArray, List.getElem?_cons_succ, List.getElem?_cons_zero]; with_reducible rfl))
                  (first
                      | (refine wpOrd_skip (by rfl) ?_)
                      | (refine wpOrd_take (v := ?_) (by rfl) ?_ ?_; rotate_left 1; (intro wx hSx; go_simp; try with_reducible rfl)))
                  (try simp only [Act.put, List.setIfInBounds_toArray, List.set_cons_zero, List.set_cons_succ])
                (refine wpOrd_solo (o := ?_) ?_ ?_; rotate_left 1; (simp only [List.getElem?_toArray, List.getElem?_cons_succ, List.getElem?_cons_zero]; with_reducible rfl))
                intro K hK
                go_simp
                refine hK.out _ _ HS.out ?_
                clear hK K
                (try simp only [Act.put, List.setIfInBounds_toArray, List.set_cons_zero, List.set_cons_succ])
                iterate 1
                  (refine wpOrd_step (o := ?_) ?_ ?_; rotate_left 1; (simp only [List.getElem?_toArray, List.getElem?_cons_succ, List.getElem?_cons_zero]; with_reducible rfl))
                  (first
                      | (refine wpOrd_skip (by rfl) ?_)
                      | (refine wpOrd_take (v := ?_) (by rfl) ?_ ?_; rotate_left 1; (intro wx hSx; go_simp; try with_reducible rfl)))
                  (try simp only [Act.put, List.setIfInBounds_toArray, List.set_cons_zero, List.set_cons_succ])
                refine wpOrd_done ?_
                clear PS HS
                go_wp2_with fail
                go_meet
                case rel => exact ⟨by rw [decide_eq_false hg]; rfl, rfl⟩
            
            case rest =>
              obtain ⟨rfl, rfl⟩ := hcut
              cases hbb : (decide (k ≤ l) && ltN dk[a]! dk[l]!) with
              | true =>
                have hkl : k ≤ l := of_decide_eq_true (and_split hbb).1
                obtain ⟨l, rfl⟩ : ∃ m, l = m + 1 := ⟨l - 1, by omega⟩
                have HJ2 : Hid (scanDown (fun x => ltN dk[a]! x) dk k l = scanDown (fun x => ltN dk[a]! x) dk k j) := by
                  have h := down_yes (p := fun x => ltN dk[a]! x) hbb
                  rw [← h]; exact HJ
                have w9 := wr_in (l : Int) (by omega) (by omega)
                clear hbb HJ
                go_wp2_with fail
                go_roundw
                case rel => exact ⟨l, by go_num, by omega, by omega, HH, HM.out.drew, HJ2⟩
                case measure => simp [intOf]
              | false =>
                have HJ2 : Hid (scanDown (fun x => ltN dk[a]! x) dk k j = l) := by
                  have h := down_no (p := fun x => ltN dk[a]! x) hbb
                  rw [← HJ.out]; exact h
                clear hbb HJ
                have HH' : Hid (Holds eu wr.drew blk off dk) := HH
                have HM' := Lib.hid HM.out.drew
                generalize wr.drew = W2 at HH' HM' ⊢
                clear HH HM
                have HT2 : Hid ((if k > l then (k, dk) else partEqLoop ltN a (k + 1) (l - 1) (swp dk k l)) = R) := by
                  have h := HT.out
                  rw [partEqLoop_eq, HI2.out, HJ2.out] at h
                  exact h
                clear HT HI2 HJ2
                by_cases hkl : l < k
                · have HT3 : Hid ((k, dk) = R) := by
                    have h := HT2.out
                    rw [if_pos hkl] at h
                    exact h
                  have hg : (l : Int) < (k : Int) := by omega
                  clear HT2
                  go_wp2_with fail
                  go_ret
                  rw [← HT3.out]
                  exact ⟨rfl, HH'.out, HM'.out⟩
                · obtain ⟨l, rfl⟩ : ∃ m, l = m + 1 := ⟨l - 1, by omega⟩
                  have HT3 : Hid (partEqLoop ltN a (k + 1) l (swp dk k (l + 1)) = R) := by
                    have h := HT2.out
                    rw [if_neg hkl] at h
                    exact h
                  have hg : ¬ (l : Int) + 1 < (k : Int) := by omega
                  obtain ⟨x, HX, hc1, hf1⟩ := at_cell HN HH' (l + 1) (by omega)
                  obtain ⟨y, HY, hc2, hf2⟩ := at_cell HN HH' k (by omega)
                  obtain ⟨v3, hc3⟩ := set_some ⟨blk, off + k, none⟩ (.int .u64 (x : Int)) hc1
                  obtain ⟨HN2, HH2, HM2⟩ := swp_holds HN HH' HM' k (l + 1) HX HY (by omega) (by omega)
                  have hr0 : (0 : Int) ≤ (l : Int) + 1 := by omega
                  have hr1 : (l : Int) + 1 < (n : Int) := by omega
                  have hr2 : (k : Int) < (n : Int) := by omega
                  have w9 := wr_in (l : Int) (by omega) (by omega)
                  have w10 := wr_in ((k : Int) + 1) (by omega) (by omega)
                  clear HT2 hkl
                  go_wp2_with fail
                  go_region
                  go_wp2_with fail
                  go_roundw
                  case rel => exact ⟨k + 1, l, _, by go_num, by go_num, by omega, by omega, by omega, by omega, HN2, HH2, HM2.out.drew, HT3⟩
                  case measure => simp [intOf]; omega
end Go.Proofs.YtopckkdmldhmlaaDoor
