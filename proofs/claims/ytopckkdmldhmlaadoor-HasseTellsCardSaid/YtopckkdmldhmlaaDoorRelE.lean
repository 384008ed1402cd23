/-
  What Closure of package relate returns. Conditions: 64 words below 2^64.
-/
import Derived.Test.YtopckkdmldhmlaaDoorRelD
namespace Go.Proofs.YtopckkdmldhmlaaDoor
open Go.RowKit RM

theorem pts_nat (n : Int) : pts ((pts n : Nat) : Int) = pts n := pts_pts n
theorem war_start {R : Nat → Nat → Bool} {p : Nat} {m : List Nat} (h : ∀ a b, bt m a b = (decide (a < p) && decide (b < p) && (R a b || decide (a < p ∧ a = b)))) : ∀ a b, bt m a b = (decide (a < p) && decide (b < p) && war R 0 a b) := by
  intro a b
  rw [h, war_zero]
  by_cases h1 : a < p <;> simp [h1]
theorem cz_end {n : Int} {l m : List Nat} (hm : RW m) (h : ∀ a b, bt m a b = (decide (a < pts n) && decide (b < pts n) && war (bt l) (pts n) a b)) : m = cz n l :=
  eq_mk hm _ _ (pts_le n) fun i j _ _ => by rw [h]; unfold clo; cases decide (i < pts n) <;> cases decide (j < pts n) <;> simp

set_option maxRecDepth 8000 in
set_option maxHeartbeats 1000000 in
theorem rclosure_any (n : Int) (l : List Nat) (hl : RW l) (w : World) :
    Calls Tryd.prog 47 #[.agg (rv n l)] w fun e w' => e = .returned (.agg (rv ((pts n : Nat) : Int) (cz n l))) ∧ Below w.heap.size w w' := by
  have hc : RW (cl n l) := RW.mk _ _
  have hp := pts_le n
  obtain ⟨h1, h2, hb⟩ := two_new w n l
  have hsz : ((w.alloc (.cells (rv n l) 25)).alloc (.cells Tryd.zeroCells25 25)).heap.size = w.heap.size + 2 := by simp
  have HSZ := Lib.hid hsz; clear hsz
  have HB := Lib.hid hb; clear hb
  have HEND : Hid (∀ m, RW m → (∀ a b, bt m a b = (decide (a < pts n) && decide (b < pts n) && war (bt l) (pts n) a b)) → m = cz n l) := fun m hm h => cz_end hm h
  have HST : Hid (∀ k m, RW m → k < pts n → (∀ a b, bt m a b = (decide (a < pts n) && decide (b < pts n) && (bt l a b || decide (a < k ∧ a = b)))) → ∀ a b, bt (addR (pts n : Nat) m k k) a b = (decide (a < pts n) && decide (b < pts n) && (bt l a b || decide (a < k + 1 ∧ a = b)))) := fun k m hm hk h => refl_start k hm hk h
  have HCL : Hid (∀ a b, bt (cl n l) a b = (decide (a < pts n) && decide (b < pts n) && (bt l a b || decide (a < 0 ∧ a = b)))) := fun a b => by rw [bt_cl]; simp
  have HCLN : Hid (∀ w, Calls Tryd.prog 45 #[.agg (rv n l)] w fun e w' => e = .returned (.agg (rv ((pts n : Nat) : Int) (cl n l))) ∧ Below w.heap.size w w') := rclean_any n l hl
  generalize hcle : cl n l = lc at *
  generalize hcze : cz n l = lz at *
  generalize pts n = p at *
  clear hcle hcze
  go_enter Tryd.func47, Tryd.ntmps47
  go_wp2_with (refine wpList_loadRel rfl _ rfl w.heap.size rfl n l hl h1 ?_)
  refine (HCLN.out _).mono ?_
  rintro e w1 ⟨rfl, hb1⟩
  have r1 := h1.below hb1 (by rw [HSZ.out]; omega)
  have r2 := h2.below hb1 (by rw [HSZ.out]; omega)
  have hbb := HB.out.trans (hb1.mono (by rw [HSZ.out]; omega))
  have hs1 : w.heap.size + 1 < w1.heap.size := by have := hb1.size; rw [HSZ.out] at this; omega
  clear HB HSZ h1 h2 hb1
  have HB := Lib.hid hbb; clear hbb
  go_wp2_with (refine wpList_storeRel rfl _ _ rfl w.heap.size rfl _ _ rfl n l hl hc r1 ?_; intro w2 q1 he; have q2 := r2.other he (by omega); have HB2 := Lib.hid (HB.out.trans (he.below (Nat.le_refl _))); have hs2 : w.heap.size + 1 < w2.heap.size := (by have := he.size; omega); clear he HB r1 r2 hs1; have hc0 := q1.cell0)
  clear hc0
  go_loopw [3, 10] (fun _ kv wr => ∃ (k : Nat) (m : List Nat), k ≤ p ∧ kv = .int .i64 k ∧ RW m ∧ RelAt wr w.heap.size (p : Int) m ∧ RelAt wr (w.heap.size + 1) 0 zs ∧ Hid (Below w.heap.size w wr) ∧ Hid (w.heap.size + 1 < wr.heap.size) ∧ Hid (∀ a b, bt m a b = (decide (a < p) && decide (b < p) && (bt l a b || decide (a < k ∧ a = b))))) (fun _ kv _ => p - (intOf kv).toNat)
  case atStart => exact ⟨0, lc, by omega, rfl, hc, q1, q2, HB2, hs2, HCL⟩
  case round =>
    clear q1 q2 HB2 hs2 HCL hc
    obtain ⟨k, m, hk, rfl, hm, r1, r2, HB, HS, HM⟩ := hrel
    by_cases hlt : k < p
    · go_wp2_with fail
      refine (radd_any _ _ _ hm (k : Int) (k : Int) _ r1).mono ?_
      rintro e w3 ⟨rfl, k1, hmu⟩
      have k2 := r2.mut hmu (by omega)
      have HB3 := Lib.hid (HB.out.trans (hmu.below (Nat.le_refl _) (by have := HS.out; omega)))
      have HS3 : Hid (w.heap.size + 1 < w3.heap.size) := Nat.lt_of_lt_of_le HS.out hmu.size
      clear hmu r1 r2
      go_wp2_with fail
      go_roundw
      case rel => exact ⟨k + 1, _, by omega, by go_num, rw_addR hm _ _ _, k1, k2, HB3, HS3, HST.out k m hm hlt HM.out⟩
      case measure => simp [intOf]; omega
    · have e : k = p := by omega
      subst e
      have HM0 : Hid (∀ a b, bt m a b = (decide (a < k) && decide (b < k) && war (bt l) 0 a b)) := war_start HM.out
      clear HM HST
      have hc0 := r1.cell0
      go_wp2_with fail
      clear hc0
      obtain ⟨wo, rfl⟩ : ∃ wo : World, wo = wr := ⟨_, rfl⟩
      obtain ⟨p, rfl⟩ : ∃ p : Nat, p = k := ⟨_, rfl⟩
      go_loopw [4, 5, 19, 23, 24] (fun _ _ kv _ _ wr => ∃ (k : Nat) (m : List Nat), k ≤ p ∧ kv = .int .i64 k ∧ RW m ∧ RelAt wr w.heap.size (p : Int) m ∧ RelAt wr (w.heap.size + 1) 0 zs ∧ Hid (Below w.heap.size w wr) ∧ Hid (w.heap.size + 1 < wr.heap.size) ∧ Hid (∀ a b, bt m a b = (decide (a < p) && decide (b < p) && war (bt l) k a b))) (fun _ _ kv _ _ _ => p - (intOf kv).toNat)
      case atStart => exact ⟨0, m, by omega, rfl, hm, r1, r2, HB, HS, HM0⟩
      case round =>
        clear r1 r2 HB HS HM0 hm
        obtain ⟨k, m, hk, rfl, hm, r1, r2, HB, HS, HM⟩ := hrel
        by_cases hlt : k < p
        · have hc0 := r1.cell0
          go_wp2_with fail
          clear hc0
          obtain ⟨wo2, rfl⟩ : ∃ wo2 : World, wo2 = wr := ⟨_, rfl⟩
          have HM0 : Hid (∀ a b, bt m a b = warB (bt l) p k 0 a b) := fun a b => by rw [warB_zero]; exact HM.out a b
          go_loopw [5, 24] (fun _ iv wr => ∃ (i : Nat) (m : List Nat), i ≤ p ∧ iv = .int .i64 i ∧ RW m ∧ RelAt wr w.heap.size (p : Int) m ∧ RelAt wr (w.heap.size + 1) 0 zs ∧ Hid (Below w.heap.size w wr) ∧ Hid (w.heap.size + 1 < wr.heap.size) ∧ Hid (∀ a b, bt m a b = warB (bt l) p k i a b)) (fun _ iv _ => p - (intOf iv).toNat)
          case atStart => exact ⟨0, m, by omega, rfl, hm, r1, r2, HB, HS, HM0⟩
          case round =>
            clear r1 r2 HB HS HM0 HM hm
            obtain ⟨i, m, hi, rfl, hm, r1, r2, HB, HS, HM⟩ := hrel
            by_cases hlt2 : i < p
            · have hc1 := r1.cell hm i (by omega)
              have hc2 := r1.cell hm k (by omega)
              have hx := hm.lt i
              have hy := hm.lt k
              obtain ⟨x, hxe⟩ : ∃ x, x = m.getD i 0 := ⟨_, rfl⟩
              obtain ⟨y, hye⟩ : ∃ y, y = m.getD k 0 := ⟨_, rfl⟩
              rw [← hxe] at hc1 hx
              rw [← hye] at hc2 hy
              have HX := Lib.hid hxe; clear hxe
              have HY := Lib.hid hye; clear hye
              have hh := MM.hasN_in x k (by omega)
              cases ht : x.testBit k with
              | false =>
                rw [ht] at hh
                have HM2 : Hid (∀ a b, bt m a b = warB (bt l) p k (i + 1) a b) := warB_keep HM.out hlt2 hlt (by rw [← HX.out]; exact ht)
                clear ht
                go_wp2_with (go_at_call 43; refine (has_any x hx _ _).mono ?_; rintro e w' ⟨rfl, rfl⟩)
                go_roundw
                case rel => exact ⟨i + 1, m, by omega, by go_num, hm, r1, r2, HB, HS, HM2⟩
                case measure => simp [intOf]; omega
              | true =>
                rw [ht] at hh
                have HM2 : Hid (∀ a b, bt (m.set i (x ||| y)) a b = warB (bt l) p k (i + 1) a b) := by rw [HX.out, HY.out]; exact warB_or hm HM.out hlt2 hlt hp (by rw [← HX.out]; exact ht)
                clear ht
                have hf := r1.free (1 + i)
                have e1 : bits BinOp.or IntKind.u64 (x : Int) (y : Int) = ((x ||| y : Nat) : Int) := u64_or_nat x y hx hy
                have hi' : (i : Int) < 64 := by omega
                have hk' : (k : Int) < 64 := by omega
                go_wp2_with (go_at_call 43; refine (has_any x hx _ _).mono ?_; rintro e w' ⟨rfl, rfl⟩)
                refine wp_region_still_tail 11 (by kernel_rfl) (by kernel_rfl) ?_
                simp only [List.take_succ_cons, List.take_zero, List.drop_succ_cons, List.drop_zero]
                repeat still_step
                refine wpStill_nil ?_
                go_wp2_with fail
                go_roundw
                case rel =>
                  refine ⟨i + 1, m.set i (x ||| y), by omega, by go_num, hm.set _ _ (Nat.or_lt_two_pow (n := 64) hx hy), (r1.drewN 1).put i _, (r2.drewN 1).far (p := ⟨w.heap.size, 1 + i, none⟩) (by simp) _, (HB.out.drew).setCell (Nat.le_refl _) _, ?_, HM2⟩
                  show w.heap.size + 1 < _
                  have := HS.out
                  simp [World.setCell]; omega
                case measure => simp [intOf]; omega
            · have e : i = p := by omega
              subst e
              have HM2 : Hid (∀ a b, bt m a b = (decide (a < i) && decide (b < i) && war (bt l) (k + 1) a b)) := fun a b => by rw [HM.out, warB_end]
              go_wp2_with fail
              go_roundw
              case rel => exact ⟨k + 1, m, by omega, by go_num, hm, r1, r2, HB, HS, HM2⟩
              case measure => simp [intOf]; omega
        · have e : k = p := by omega
          subst e
          have hme := HEND.out m hm HM.out
          have HME := Lib.hid hme; clear hme
          go_wp2_with (first | (refine wpList_loadRel rfl _ rfl w.heap.size rfl _ _ hm r1 ?_) | (refine wpList_storeRel rfl _ _ rfl (w.heap.size + 1) rfl _ _ rfl 0 zs RW.zs hm r2 ?_; intro w4 hr he))
          rw [HME.out] at hr
          exact bodyPost_ret (ret_rel rfl _ _ (w.heap.size + 1) _ _ (HME.out ▸ hm) rfl hr) rfl ⟨rfl, HB.out.trans (he.below (by omega))⟩
end Go.Proofs.YtopckkdmldhmlaaDoor
