/-
  Sorting rows of words: the heap sort. Conditions: indices within the row.
-/
import Derived.Test.YtopckkdmldhmlaaDoorSortC
import Derived.BigRegion
namespace Go.Proofs.YtopckkdmldhmlaaDoor
open Go.RowKit RM
open Go.Sort hiding Below ahead

theorem sift_n {blk off n hi first lo : Nat} {d : Array Nat} {w : World} (cap : Nat) (HN : Hid (d.size = n)) (HH : Hid (Holds eu w blk off d)) (hb : first + hi ≤ n) (hlo : lo ≤ 64) (hs : n ≤ 64) :
    Calls Tryd.prog 78 #[.slice (some ⟨blk, off, none⟩) n cap, .int .i64 (lo : Int), .int .i64 (hi : Int), .int .i64 (first : Int)] w fun e w' => e = .returned (.tuple #[]) ∧ Holds eu w' blk off (siftDown ltN hi first lo d) ∧ Mut blk w w' := by
  obtain rfl := HN.out
  exact sift_any blk off cap lo hi first d w HH.out hb hlo hs
theorem sift_0 {blk off n hi first : Nat} {d : Array Nat} {w : World} (cap : Nat) (HN : Hid (d.size = n)) (HH : Hid (Holds eu w blk off d)) (hb : first + hi ≤ n) (hs : n ≤ 64) :
    Calls Tryd.prog 78 #[.slice (some ⟨blk, off, none⟩) n cap, .int .i64 0, .int .i64 (hi : Int), .int .i64 (first : Int)] w fun e w' => e = .returned (.tuple #[]) ∧ Holds eu w' blk off (siftDown ltN hi first 0 d) ∧ Mut blk w w' :=
  sift_n (lo := 0) cap HN HH hb (Nat.zero_le _) hs
/-- A cell is there behind a store. -/
theorem set_some {w : World} {q : Addr} {u : Value} (p : Addr) (v : Value) (h : w.cell? q = some u) : ∃ x, (w.setCell p v).cell? q = some x := by
  by_cases e : p = q
  · subst e
    exact ⟨v, World.cell?_setCell_same' _ _ _ (by rw [h]; rfl)⟩
  · exact ⟨u, by rw [World.cell?_setCell_other (h := e), h]⟩
theorem siftDown_size (lt : Nat → Nat → Bool) (hi first root : Nat) (d : Array Nat) : (siftDown lt hi first root d).size = d.size := by
  fun_induction siftDown lt hi first root d <;> simp_all [swp]
set_option maxHeartbeats 1000000 in
theorem heap_any (blk off cap a b : Nat) (d : Array Nat) (w : World) (hH : Holds eu w blk off d) (hab : a < b) (hb : b ≤ d.size) (hs : d.size ≤ 64) :
    Calls Tryd.prog 67 #[.slice (some ⟨blk, off, none⟩) d.size cap, .int .i64 (a : Int), .int .i64 (b : Int)] w fun e w' => e = .returned (.tuple #[]) ∧ Holds eu w' blk off (heapSort ltN d a b) ∧ Mut blk w w' := by
  have HH := Lib.hid hH; clear hH
  generalize hn : d.size = n at *
  have HN := Lib.hid hn; clear hn
  obtain ⟨h, hh⟩ : ∃ h, h = b - a := ⟨_, rfl⟩
  obtain ⟨q, hq⟩ : ∃ q, q = (h - 1) / 2 := ⟨_, rfl⟩
  have HT0 : Hid (heapPop ltN a h (heapBuild ltN h a (q + 1) d) = heapSort ltN d a b) := by
    rw [hq, hh]
    exact rfl
  have e1 : (b : Int) - (a : Int) = (h : Int) := by omega
  have e2 : ((h : Int) - 1) / 2 = (q : Int) := by omega
  have HE1 := Lib.hid e1; clear e1
  have HE2 := Lib.hid e2; clear e2
  have hqh : q < h := by omega
  have hbh : a + h ≤ n := by omega
  clear hh hq
  go_enter Tryd.func67, Tryd.ntmps67
  go_wp2_with fail
  simp only [HE1.out, HE2.out]
  clear HE1 HE2
  go_loopw [9] (fun iv wr => ∃ (z : Int) (k : Nat) (dk : Array Nat), iv = .int .i64 z ∧ z + 1 = k ∧ k ≤ q + 1 ∧ Hid (dk.size = n) ∧ Hid (Holds eu wr blk off dk) ∧ Hid (Mut blk w wr) ∧ Hid (heapPop ltN a h (heapBuild ltN h a k dk) = heapSort ltN d a b)) (fun iv _ => (intOf iv + 1).toNat)
  case atStart => exact ⟨q, q + 1, d, rfl, by omega, by omega, HN, HH, Mut.refl _ _, HT0⟩
  case round =>
    clear HH HN HT0
    obtain ⟨z, k, dk, rfl, hz, hk, HN, HH, HM, HT⟩ := hrel
    cases k with
    | succ k =>
      obtain rfl : z = (k : Int) := by omega
      clear hz
      have HT2 : Hid (heapPop ltN a h (heapBuild ltN h a k (siftDown ltN h a k dk)) = heapSort ltN d a b) := HT
      go_wp2_with fail
      refine (sift_n cap HN HH (by omega) (by omega) (by omega)).mono ?_
      rintro e w' ⟨rfl, h1, h2⟩
      have HS := Lib.hid (siftDown_size ltN h a k dk); clear HT
      have HN2 : Hid ((siftDown ltN h a k dk).size = n) := by rw [HS.out]; exact HN
      have HH2 := Lib.hid h1; clear h1
      have HM2 := Lib.hid (HM.out.trans h2); clear h2
      go_wp2_with fail
      go_roundw
      case rel =>
        exact ⟨(k : Int) - 1, k, _, by go_num, by omega, by omega, HN2, HH2, HM2, HT2⟩
      case measure => simp [intOf]
    | zero =>
      obtain rfl : z = -1 := by omega
      clear hz
      have HT2 : Hid (heapPop ltN a h dk = heapSort ltN d a b) := HT
      clear HT
      go_wp2_with fail
      obtain ⟨wo, rfl⟩ : ∃ wo : World, wo = wr := ⟨_, rfl⟩
      go_loopw [10] (fun iv wr => ∃ (z : Int) (k : Nat) (dk : Array Nat), iv = .int .i64 z ∧ z + 1 = k ∧ k ≤ h ∧ Hid (dk.size = n) ∧ Hid (Holds eu wr blk off dk) ∧ Hid (Mut blk w wr) ∧ Hid (heapPop ltN a k dk = heapSort ltN d a b)) (fun iv _ => (intOf iv + 1).toNat)
      case atStart => exact ⟨(h : Int) - 1, h, dk, by go_num, by omega, by omega, HN, HH, HM, HT2⟩
      case round =>
        clear HH HN HT2 HM
        obtain ⟨z, k, dk, rfl, hz, hk, HN, HH, HM, HT⟩ := hrel
        cases k with
        | zero =>
          obtain rfl : z = -1 := by omega
          clear hz
          have HT2 : Hid (dk = heapSort ltN d a b) := HT
          go_wp2_with fail
          go_end0
          rw [← HT2.out]
          exact ⟨rfl, HH.out, HM.out⟩
        | succ k =>
          obtain rfl : z = (k : Int) := by omega
          clear hz
          have HT2 : Hid (heapPop ltN a k (siftDown ltN k a 0 (swp dk a (a + k))) = heapSort ltN d a b) := HT
          clear HT
          obtain ⟨x, HX, hc1, hf1⟩ := at_cell HN HH (a + k) (by omega)
          obtain ⟨y, HY, hc2, hf2⟩ := at_cell HN HH a (by omega)
          obtain ⟨HN2, HH2, HM2⟩ := swp_holds HN HH HM a (a + k) HX HY (by omega) (by omega)
          obtain ⟨v3, hc3⟩ := set_some ⟨blk, off + a, none⟩ (.int .u64 (x : Int)) hc1
          have hr0 : (0 : Int) ≤ (a : Int) + (k : Int) := by omega
          have hr1 : (a : Int) + (k : Int) < (n : Int) := by omega
          have hr2 : (a : Int) < (n : Int) := by omega
          have w1 := wr_in ((a : Int) + (k : Int)) (by omega) (by omega)
          have t1 : ((a : Int) + (k : Int)).toNat = a + k := by omega
          go_wp2_with fail
          go_region
          go_wp2_with fail
          have HHd : Hid (Holds eu (World.drew ((wr.setCell ⟨blk, off + a, none⟩ (.int .u64 (x : Int))).setCell ⟨blk, off + (a + k), none⟩ (.int .u64 (y : Int)))) blk off (swp dk a (a + k))) := HH2
          refine (sift_0 cap HN2 HHd (by omega) (by omega)).mono ?_
          rintro e w' ⟨rfl, h1, h2⟩
          have HS := Lib.hid (siftDown_size ltN k a 0 (swp dk a (a + k)))
          have HN3 : Hid ((siftDown ltN k a 0 (swp dk a (a + k))).size = n) := by rw [HS.out]; exact HN2
          have HH3 := Lib.hid h1; clear h1
          have HM3 := Lib.hid (HM2.out.drew.trans h2); clear h2
          clear hc1 hc2 hc3 hf1 hf2
          go_wp2_with fail
          go_roundw
          case rel => exact ⟨(k : Int) - 1, k, _, by go_num, by omega, by omega, HN3, HH3, HM3, HT2⟩
          case measure => simp [intOf]
end Go.Proofs.YtopckkdmldhmlaaDoor
