/-
  Sorting rows of words: the part that breaks patterns: some permutation. Conditions: indices within the row.
-/
import Derived.Test.YtopckkdmldhmlaaDoorSortE
import Derived.BigRegion
namespace Go.Proofs.YtopckkdmldhmlaaDoor
open Go.RowKit RM
open Go.Sort hiding Below ahead

theorem mut_new {w w1 w2 : World} {g p : Nat} (h : Mut g w w1) (h2 : Mut p w1 w2) (hp : w.heap.size ≤ p) : Mut g w w2 :=
  ⟨h2.os.trans h.os, h2.tape.trans h.tape, h2.output.trans h.output, Nat.le_trans h.size h2.size, fun k hk hg => (h2.block k (Nat.lt_of_lt_of_le hk h.size) (by omega)).trans (h.block k hk hg)⟩
theorem xor_in (x y : Int) : ∃ r : Nat, bits BinOp.xor IntKind.u64 x y = (r : Int) ∧ r < 2 ^ 64 := by
  unfold bits
  rw [IntKind.wrap_u64]
  generalize BitVec.toNat _ = t
  exact ⟨t % 18446744073709551616, by omega, by omega⟩
/-- A word's own variable is written. -/
theorem box_put {p r : Nat} {w0 w : World} (v : Value) (HB : Hid (Box w p 88 (.int .u64 (r : Int)))) (HM : Hid (Mut p w0 w)) :
    Hid (Box (w.setCell ⟨p, 0, none⟩ v).drew p 88 v) ∧ Hid (Mut p w0 (w.setCell ⟨p, 0, none⟩ v).drew) :=
  ⟨HB.out.put _, (HM.out.trans (Mut.of_set w p 0 v)).drew⟩
set_option maxHeartbeats 1000000 in
theorem next_any {p r : Nat} {w : World} (HB : Hid (Box w p 88 (.int .u64 (r : Int)))) :
    Calls Tryd.prog 80 #[.pointer (some ⟨p, 0, none⟩)] w fun e w' => ∃ r' : Nat, e = .returned (.int .u64 (r' : Int)) ∧ r' < 2 ^ 64 ∧ Box w' p 88 (.int .u64 (r' : Int)) ∧ Mut p w w' := by
  have hp := HB.out.cell
  have hpf := HB.out.free
  have HM : Hid (Mut p w w) := Mut.refl p w
  go_enter Tryd.func80, Tryd.ntmps80
  go_wp2_with fail
  go_region
  obtain ⟨r1, e1, hr1⟩ := xor_in (r : Int) (IntKind.u64.wrap ((r : Int) * 8192))
  simp only [e1]
  clear e1
  obtain ⟨HB1, HM1⟩ := box_put (.int .u64 (r1 : Int)) HB HM
  generalize (w.setCell ⟨p, 0, none⟩ (.int .u64 (r1 : Int))).drew = W1 at HB1 HM1 ⊢
  clear hp hpf HB HM
  have hp := HB1.out.cell
  have hpf := HB1.out.free
  go_wp2_with fail
  go_region
  obtain ⟨r2, e2, hr2⟩ := xor_in (r1 : Int) ((r1 : Int) / 128)
  simp only [e2]
  clear e2
  obtain ⟨HB2, HM2⟩ := box_put (.int .u64 (r2 : Int)) HB1 HM1
  generalize (W1.setCell ⟨p, 0, none⟩ (.int .u64 (r2 : Int))).drew = W2 at HB2 HM2 ⊢
  clear hp hpf HB1 HM1
  have hp := HB2.out.cell
  have hpf := HB2.out.free
  go_wp2_with fail
  go_region
  obtain ⟨r3, e3, hr3⟩ := xor_in (r2 : Int) (IntKind.u64.wrap ((r2 : Int) * 131072))
  simp only [e3]
  clear e3
  obtain ⟨HB3, HM3⟩ := box_put (.int .u64 (r3 : Int)) HB2 HM2
  generalize (W2.setCell ⟨p, 0, none⟩ (.int .u64 (r3 : Int))).drew = W3 at HB3 HM3 ⊢
  clear hp hpf HB2 HM2
  have hp := HB3.out.cell
  go_wp2_with fail
  go_ret
  exact ⟨r3, rfl, hr3, HB3.out, HM3.out⟩
theorem pow_le : ∀ l : Fin 65, 1 ≤ l.val → 1 ≤ 2 ^ min (Lib.bitLen l.val) 64 ∧ 2 ^ min (Lib.bitLen l.val) 64 ≤ 2 * l.val := by decide +kernel
theorem pow_any (l : Nat) (hl : 1 ≤ l) (hl2 : l ≤ 64) (w : World) : Calls Tryd.prog 79 #[.int .i64 (l : Int)] w fun e w' => ∃ m : Nat, e = .returned (.int .u64 (m : Int)) ∧ 1 ≤ m ∧ m ≤ 2 * l ∧ w' = w := by
  have hc := fun w => Tryd.bits_Len (l : Int) w (by omega) (by omega)
  rw [Int.toNat_natCast] at hc
  have HC := Lib.hid hc; clear hc
  have w1 : IntKind.u64.wrap (l : Int) = l := by rw [IntKind.wrap_u64]; omega
  obtain ⟨h1, h2⟩ := pow_le ⟨l, by omega⟩ hl
  obtain ⟨m, hm⟩ : ∃ m : Nat, m = 2 ^ min (Lib.bitLen l) 64 := ⟨_, rfl⟩
  have hm1 : 1 ≤ m := by rw [hm]; exact h1
  have hm2 : m ≤ 2 * l := by rw [hm]; exact h2
  have e1 : (2 : Int) ^ min (Lib.bitLen l) 64 = (m : Int) := by rw [hm]; exact (Int.natCast_pow 2 _).symm
  have HE := Lib.hid e1; clear e1 hm h1 h2
  go_enter Tryd.func79, Tryd.ntmps79
  go_wp2_with fail
  refine (HC.out _).mono ?_
  rintro e w1 ⟨rfl, rfl⟩
  go_wp2_with fail
  rw [HE.out]
  go_ret
  exact ⟨m, ret_eq (int_eq (by rw [IntKind.wrap_u64]; omega)), hm1, hm2, rfl⟩
set_option maxHeartbeats 1000000 in
theorem break_any (blk off n cap a b : Nat) (d : Array Nat) (w : World) (HN : Hid (d.size = n)) (HH : Hid (Holds eu w blk off d)) (hab : a + 12 < b) (hb : b ≤ n) (hn : n ≤ 64) :
    Calls Tryd.prog 68 #[.slice (some ⟨blk, off, none⟩) n cap, .int .i64 (a : Int), .int .i64 (b : Int)] w fun e w' =>
      e = .returned (.tuple #[]) ∧ ∃ d', PermIn a b d d' ∧ Holds eu w' blk off d' ∧ Mut blk w w' := by
  obtain ⟨l, hl⟩ : ∃ l, l = b - a := ⟨_, rfl⟩
  obtain ⟨q, hq⟩ : ∃ q, q = l / 4 := ⟨_, rfl⟩
  obtain ⟨m, hm⟩ : ∃ m, m + 1 = a + q * 2 := ⟨a + q * 2 - 1, by omega⟩
  have e1 : (b : Int) - (a : Int) = (l : Int) := by omega
  have e2 : (l : Int) / 4 = (q : Int) := by omega
  have e4 : (a : Int) + (q : Int) * 2 = (m : Int) + 1 := by omega
  have hl8 : 12 < l := by omega
  have hl9 : l ≤ n := by omega
  have hq9 : q ≤ n := by omega
  have hm1 : a + 3 ≤ m := by omega
  have hm2 : m + 3 < b := by omega
  have hal : a + l = b := by omega
  have hblk : blk < w.heap.size := World.block_lt_of_cell? w _ (HH.out 0 (by rw [HN.out]; omega)).1
  have hg8 : (8 : Int) ≤ (l : Int) := by omega
  have HAL := Lib.hid hal; clear hal
  clear hl hq hm
  have wl : IntKind.u64.wrap (l : Int) = l := by rw [IntKind.wrap_u64]; omega
  have w5 := wr_in (m : Int) (by omega) (by omega)
  go_enter Tryd.func68, Tryd.ntmps68
  go_wp2_with fail
  refine (pow_any l (by omega) (by omega) _).mono ?_
  rintro e w' ⟨M, rfl, hM1, hM2, rfl⟩
  obtain ⟨K, rfl⟩ : ∃ K, M = K + 1 := ⟨M - 1, by omega⟩
  go_wp2_with fail
  go_loopw [9, 10] (fun iv _ wr => ∃ (i r : Nat) (dk : Array Nat), iv = .int .i64 i ∧ m ≤ i ∧ i ≤ m + 3 ∧ r < 2 ^ 64 ∧ Hid (dk.size = n) ∧ Hid (Holds eu wr blk off dk) ∧ Hid (Mut blk w wr) ∧ Hid (PermIn a b d dk) ∧ Hid (Box wr w.heap.size 88 (.int .u64 (r : Int)))) (fun iv _ _ => (m + 3) - (intOf iv).toNat)
  case atStart => exact ⟨m, l, d, by go_num, by omega, by omega, by omega, HN, holds_mut HH.out (Mut.of_below ((Below.refl _ _).alloc (Nat.le_refl _) _) w.heap.size) (Nat.ne_of_lt hblk), Mut.of_below ((Below.refl _ _).alloc (Nat.le_refl _) _) blk, permIn_refl _ _ _, Box.new w _ _⟩
  case round =>
    clear HH HN
    obtain ⟨i, r, dk, rfl, hi1, hi2, hr, HN, HH, HM, HP, HB⟩ := hrel
    have w8 := wr_in ((m : Int) + 1 + 1) (by omega) (by omega)
    by_cases hlt : i < m + 3
    · have hg : (i : Int) ≤ (m : Int) + 1 + 1 := by omega
      go_wp2_with fail
      refine (next_any HB).mono ?_
      rintro e w1 ⟨r2, rfl, hr2', hbx, hm⟩
      have HB1 := Lib.hid hbx; clear hbx
      have HH1 := Lib.hid (holds_mut HH.out hm (Nat.ne_of_lt hblk))
      have HM1 := Lib.hid (mut_new HM.out hm (Nat.le_refl _)); clear hm
      clear HH HM HB
      have hK : r2 &&& K ≤ K := Nat.and_le_right
      have eand : bits BinOp.and IntKind.u64 (r2 : Int) (K : Int) = ((r2 &&& K : Nat) : Int) := and_c r2 K (by omega) (by omega)
      have HEA := Lib.hid eand; clear eand
      obtain ⟨o, ho⟩ : ∃ o, o = r2 &&& K := ⟨_, rfl⟩
      rw [← ho] at HEA hK
      clear ho
      have wK : IntKind.u64.wrap (K : Int) = K := by rw [IntKind.wrap_u64]; omega
      have wo := wr_in (o : Int) (by omega) (by omega)
      have hand := HEA.out
      by_cases hol : l ≤ o
      · obtain ⟨t, ht⟩ : ∃ t, o = l + t := ⟨o - l, by omega⟩
        have e6 : (o : Int) - (l : Int) = (t : Int) := by omega
        have htl : t < l := by omega
        have hgo : (l : Int) ≤ (o : Int) := by omega
        have wt := wr_in (t : Int) (by omega) (by omega)
        clear ht
        obtain ⟨x, HX, hc1, hf1⟩ := at_cell HN HH1 (a + t) (by omega)
        obtain ⟨y, HY, hc2, hf2⟩ := at_cell HN HH1 i (by omega)
        obtain ⟨v3, hc3⟩ := set_some ⟨blk, off + i, none⟩ (.int .u64 (x : Int)) hc1
        obtain ⟨HN2, HH2, HM2⟩ := swp_holds HN HH1 HM1 i (a + t) HX HY (by omega) (by omega)
        have HP2 : Hid (PermIn a b d (swp dk i (a + t))) := permIn_trans _ _ _ _ _ HP.out (swp_permIn dk a b i (a + t) (by omega) (by omega) (by omega) (by have := HAL.out; omega) (by rw [HN.out]; exact hb))
        have HB2 : Hid (Box ((w1.setCell ⟨blk, off + i, none⟩ (.int .u64 (x : Int))).setCell ⟨blk, off + (a + t), none⟩ (.int .u64 (y : Int))) w.heap.size 88 (.int .u64 (r2 : Int))) := (HB1.out.far (Nat.ne_of_lt hblk) _).far (Nat.ne_of_lt hblk) _
        have hr0 : (0 : Int) ≤ (a : Int) + (t : Int) := by omega
        have hr1 : (a : Int) + (t : Int) < (n : Int) := by omega
        have hr2 : (i : Int) < (n : Int) := by omega
        have w6 := wr_in ((a : Int) + (t : Int)) (by omega) (by omega)
        have t1 : ((a : Int) + (t : Int)).toNat = a + t := by omega
        have w7 := wr_in ((i : Int) + 1) (by omega) (by omega)
        go_wp2_with fail
        go_region
        go_wp2_with fail
        go_roundw
        case rel => exact ⟨i + 1, r2, _, by go_num, by omega, by omega, hr2', HN2, HH2, HM2.out.drew, HP2, HB2⟩
        case measure => simp [intOf]; omega
        
      · have hgo : ¬ (l : Int) ≤ (o : Int) := by omega
        have htl : o < l := by omega
        obtain ⟨x, HX, hc1, hf1⟩ := at_cell HN HH1 (a + o) (by omega)
        obtain ⟨y, HY, hc2, hf2⟩ := at_cell HN HH1 i (by omega)
        obtain ⟨v3, hc3⟩ := set_some ⟨blk, off + i, none⟩ (.int .u64 (x : Int)) hc1
        obtain ⟨HN2, HH2, HM2⟩ := swp_holds HN HH1 HM1 i (a + o) HX HY (by omega) (by omega)
        have HP2 : Hid (PermIn a b d (swp dk i (a + o))) := permIn_trans _ _ _ _ _ HP.out (swp_permIn dk a b i (a + o) (by omega) (by omega) (by omega) (by have := HAL.out; omega) (by rw [HN.out]; exact hb))
        have HB2 : Hid (Box ((w1.setCell ⟨blk, off + i, none⟩ (.int .u64 (x : Int))).setCell ⟨blk, off + (a + o), none⟩ (.int .u64 (y : Int))) w.heap.size 88 (.int .u64 (r2 : Int))) := (HB1.out.far (Nat.ne_of_lt hblk) _).far (Nat.ne_of_lt hblk) _
        have hr0 : (0 : Int) ≤ (a : Int) + (o : Int) := by omega
        have hr1 : (a : Int) + (o : Int) < (n : Int) := by omega
        have hr2 : (i : Int) < (n : Int) := by omega
        have w6 := wr_in ((a : Int) + (o : Int)) (by omega) (by omega)
        have t1 : ((a : Int) + (o : Int)).toNat = a + o := by omega
        have w7 := wr_in ((i : Int) + 1) (by omega) (by omega)
        go_wp2_with fail
        go_region
        go_wp2_with fail
        go_roundw
        case rel => exact ⟨i + 1, r2, _, by go_num, by omega, by omega, hr2', HN2, HH2, HM2.out.drew, HP2, HB2⟩
        case measure => simp [intOf]; omega
        
    · have hg : ¬ (i : Int) ≤ (m : Int) + 1 + 1 := by omega
      go_wp2_with fail
      go_end0
      exact ⟨rfl, dk, HP.out, HH.out, HM.out⟩
end Go.Proofs.YtopckkdmldhmlaaDoor
