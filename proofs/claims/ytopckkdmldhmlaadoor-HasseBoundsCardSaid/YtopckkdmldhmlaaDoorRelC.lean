/-
  What clean of package relate returns. Conditions: 64 words below 2^64.
-/
import Derived.Test.YtopckkdmldhmlaaDoorRelB
import Derived.Deep.LoopGhost
import Derived.LoopTactic
namespace Go.Proofs.YtopckkdmldhmlaaDoor
open Go.RowKit RM

theorem belowN_bit (n : Int) (j : Nat) : (MM.belowN n).testBit j = (decide (j < 64) && decide ((j : Int) < n)) := MM.ofP_bit _ _ _
theorem belowN_lt (n : Int) : MM.belowN n < 18446744073709551616 := MM.ofP_lt _ _
theorem clean_step {l m : List Nat} (hm : RW m) (k p : Nat) (hk : k < p) (hp : p ≤ 64) (x : Nat) (hx : x = l.getD k 0)
    (h : ∀ i j, bt m i j = (decide (i < k) && decide (j < p) && bt l i j)) : ∀ i j, bt (m.set k (x &&& MM.belowN (p : Int))) i j = (decide (i < k + 1) && decide (j < p) && bt l i j) := by
  intro i j
  rw [bt_set hm _ _ _ _ (by omega), Nat.testBit_and, belowN_bit]
  by_cases e : i = k
  · subst e
    rw [if_pos rfl, hx]
    show (bt l i j && _) = _
    by_cases hj : j < p
    · simp [hj, show j < 64 by omega]
    · simp [hj]
  · rw [if_neg e, h]
    have : decide (i < k + 1) = decide (i < k) := by rw [Bool.eq_iff_iff]; simp; omega
    rw [this]
theorem clean_end {l m : List Nat} (n : Int) (hm : RW m) (h : ∀ i j, bt m i j = (decide (i < pts n) && decide (j < pts n) && bt l i j)) : m = cl n l :=
  eq_mk hm _ _ (pts_le n) fun i j _ _ => h i j

set_option maxRecDepth 8000 in
set_option maxHeartbeats 400000 in
theorem rclean_any (n : Int) (l : List Nat) (hl : RW l) (w : World) :
    Calls Tryd.prog 45 #[.agg (rv n l)] w fun e w' => e = .returned (.agg (rv ((pts n : Nat) : Int) (cl n l))) ∧ Below w.heap.size w w' := by
  have hp := pts_le n
  have hend : ∀ m, RW m → (∀ i j, bt m i j = (decide (i < pts n) && decide (j < pts n) && bt l i j)) → m = cl n l := fun m hm h => clean_end n hm h
  have HEND := Lib.hid hend; clear hend
  have hnew := fun w => new_any n w
  have HNEW := Lib.hid hnew; clear hnew
  generalize hcl : cl n l = lc at *
  clear hcl
  generalize pts n = p at *
  have h0 := rv_0 n l
  go_enter Tryd.func45, Tryd.ntmps45
  go_wp2_with fail
  clear h0
  refine (HNEW.out _).mono ?_
  rintro e w1 ⟨rfl, hb1⟩
  have hr1 : RelAt w1 w.heap.size n l := ((RelAt.new w n l).alloc _).below hb1 (by simp; omega)
  have hr2 : RelAt w1 (w.heap.size + 1) 0 zs := by
    refine RelAt.below ?_ hb1 (by simp)
    have := RelAt.new (w.alloc (.cells (rv n l) 25)) 0 zs
    rw [zero_rel]
    simpa using this
  have hb : Below w.heap.size w w1 := (((Below.refl _ _).alloc (Nat.le_refl _) _).alloc (by simp) _).trans (hb1.mono (by simp; omega))
  have hs1 : w.heap.size + 1 < w1.heap.size := by have := hb1.size; simp at this; omega
  have HB1 := Lib.hid hb; clear hb1 hb
  go_wp2_with (refine wpList_storeRel rfl _ _ rfl w1.heap.size rfl (p : Int) zs rfl 0 zs RW.zs RW.zs ?c2 ?_; (case c2 => rw [zero_rel]; exact RelAt.new _ _ _); intro w2 hr3 he; have hc3 := hr3.cell0)
  have k1 : RelAt w2 w.heap.size n l := (hr1.alloc _).other he (by omega)
  have k2 : RelAt w2 (w.heap.size + 1) 0 zs := (hr2.alloc _).other he (by omega)
  have kb : Below w.heap.size w w2 := (HB1.out.alloc (by omega) _).trans (he.below (by omega))
  clear hr1 hr2 he hc3 HB1
  have KB := Lib.hid kb; clear kb
  have hg1 : w.heap.size ≠ w1.heap.size := by omega
  have hg2 : w.heap.size + 1 ≠ w1.heap.size := by omega
  have hg0 : w.heap.size ≤ w1.heap.size := by omega
  generalize w1.heap.size = g3 at *
  clear hs1
  go_loopw [4, 10] (fun _ kv wr => ∃ (k : Nat) (m : List Nat), k ≤ p ∧ kv = .int .i64 k ∧ RW m ∧ RelAt wr w.heap.size n l ∧ RelAt wr (w.heap.size + 1) 0 zs ∧ RelAt wr g3 (p : Int) m ∧ Hid (Below w.heap.size w wr) ∧ Hid (∀ i j, bt m i j = (decide (i < k) && decide (j < p) && bt l i j))) (fun _ kv _ => p - (intOf kv).toNat)
  case atStart => exact ⟨0, zs, by omega, rfl, RW.zs, k1, k2, hr3, KB, fun i j => by rw [bt_zs]; simp⟩
  case round =>
    obtain ⟨k, m, hk, rfl, hm, r1, r2, r3, HB, HM⟩ := hrel
    clear k1 k2 hr3 KB
    by_cases hlt : k < p
    · have hc1 := r1.cell hl k (by omega)
      have hc3 := r3.cell0
      have hf := r3.free (1 + k)
      have hc4 := r3.cell hm k (by omega)
      have hx := hl.lt k
      obtain ⟨x, hxe⟩ : ∃ x, x = l.getD k 0 := ⟨_, rfl⟩
      rw [← hxe] at hc1 hx
      have HX := Lib.hid hxe; clear hxe
      have hy := belowN_lt (p : Int)
      obtain ⟨y, hye⟩ : ∃ y, y = MM.belowN (p : Int) := ⟨_, rfl⟩
      rw [← hye] at hy
      have HY := Lib.hid hye; clear hye
      have e1 : bits BinOp.and IntKind.u64 (x : Int) (y : Int) = ((x &&& y : Nat) : Int) := u64_and_nat x y hx hy
      have hk' : (k : Int) < 64 := by omega
      go_wp2_with fail
      refine wp_region_still_tail 11 (by kernel_rfl) (by kernel_rfl) ?_
      simp only [List.take_succ_cons, List.take_zero, List.drop_succ_cons, List.drop_zero]
      repeat still_step
      still_call (still_of (below_any _ _))
      rw [← HY.out]
      repeat still_step
      refine wpStill_nil ?_
      go_wp2_with fail
      go_roundw
      case rel =>
        refine ⟨k + 1, m.set k (x &&& y), by omega, by go_num, hm.set _ _ (Nat.lt_of_le_of_lt Nat.and_le_left hx), ?_, ?_, ?_, ?_, ?_⟩
        · exact (r1.drewN 1).far (p := ⟨g3, 1 + k, none⟩) (fun e => hg1 e.symm) _
        · exact (r2.drewN 1).far (p := ⟨g3, 1 + k, none⟩) (fun e => hg2 e.symm) _
        · exact (r3.drewN 1).put k _
        · exact (HB.out.drew).setCell hg0 _
        · rw [HY.out]
          exact clean_step hm k p hlt hp x HX.out HM.out
      case measure => simp [intOf]; omega
    · have e : k = p := by omega
      subst e
      have hme := HEND.out m hm HM.out
      subst hme
      go_wp2_with (first | (refine wpList_loadRel rfl _ rfl g3 rfl (k : Int) m hm r3 ?_) | (refine wpList_storeRel rfl _ _ rfl (w.heap.size + 1) rfl (k : Int) m rfl 0 zs RW.zs hm r2 ?_; intro w3 hr he))
      exact bodyPost_ret (ret_rel rfl _ _ (w.heap.size + 1) _ _ hm rfl hr) rfl ⟨rfl, HB.out.trans (he.below (by omega))⟩
end Go.Proofs.YtopckkdmldhmlaaDoor
