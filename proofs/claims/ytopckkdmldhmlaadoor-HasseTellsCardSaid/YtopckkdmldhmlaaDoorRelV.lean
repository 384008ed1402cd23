/-
  What Closure, Same and Closed of layer 3's reference return. Conditions: 64 words below 2^64.
-/
import Derived.Test.YtopckkdmldhmlaaDoorRelU
import Derived.Test.YtopckkdmldhmlaaDoorRelI
import Derived.BigRegion
namespace Go.Proofs.YtopckkdmldhmlaaDoor
open Go.RowKit RM

theorem cz_zero (n : Int) (l : List Nat) (a : Nat) (h : pts n ≤ a) : (cz n l).getD a 0 = 0 :=
  MM.ext64 ((RW.mk (pts n) (clo (pts n) (bt l))).lt a) (by omega) fun y _ => by
    show bt (cz n l) a y = _
    rw [bt_cz]; unfold clo; simp; omega
theorem reach_of (n : Int) (l : List Nat) (i : Nat) (hi : i < pts n) (xs : List Int) (h : ∀ x, xs.contains x = rchB n l i x) : MM.ofN xs = (cz n l).getD i 0 :=
  MM.ext64 (MM.ofN_lt _) ((RW.mk (pts n) (clo (pts n) (bt l))).lt i) fun y hy => by
    have hp := pts_le n
    have h1 : ((cz n l).getD i 0).testBit y = bt (cz n l) i y := rfl
    rw [h1, bt_cz, MM.ofN_bit, h]
    unfold rchB
    rw [isPt_true (by omega) (by omega), decide_eq_true hy]
    by_cases hyp : y < pts n
    · rw [isPt_true (by omega) (by omega)]; simp
    · unfold clo
      simp [hyp]
set_option maxHeartbeats 2000000 in
theorem qclosure_any (n : Int) (l : List Nat) (hl : RW l) (w : World) :
    Calls Tryd.prog 59 #[.agg (rv n l)] w fun e w' => e = .returned (.agg (rv ((pts n : Nat) : Int) (cz n l))) ∧ Below w.heap.size w w' := by
  have hp := pts_le n
  have hc : RW (cz n l) := RW.mk _ _
  have HPT : Hid (∀ w, Calls Tryd.prog 31 #[.agg (rv n l)] w fun e w' => e = .returned (.int .i64 ((pts n : Nat) : Int)) ∧ Below w.heap.size w w') := fun w => qpoints_any n l w
  have HRE : Hid (∀ i : Nat, ∀ w, Calls Tryd.prog 65 #[.agg (rv n l), .int .i64 (i : Int)] w (Reached n l i w)) := fun i w => qreach_any n l hl i w
  have HOF : Hid (∀ i, i < pts n → ∀ xs : List Int, (∀ x, xs.contains x = rchB n l i x) → MM.ofN xs = (cz n l).getD i 0) := fun i hi xs h => reach_of n l i hi xs h
  have HEND : Hid (∀ m, RW m → (∀ a, a < 64 → m.getD a 0 = if a < pts n then (cz n l).getD a 0 else 0) → m = cz n l) := fun m hm h => plain_end (pts n) hm hc (fun a h1 _ => cz_zero n l a h1) h
  generalize cz n l = lc at *
  generalize pts n = p at *
  have h1 : RelAt ((w.alloc (.cells (rv n l) 25)).alloc (.cells Tryd.zeroCells25 25)) w.heap.size n l := (RelAt.new w n l).alloc _
  obtain ⟨_, h2, hb⟩ := two_new w n l
  have HB := Lib.hid hb; clear hb
  have hs : w.heap.size + 1 < ((w.alloc (.cells (rv n l) 25)).alloc (.cells Tryd.zeroCells25 25)).heap.size := by simp
  have HS := Lib.hid hs; clear hs
  go_enter Tryd.func59, Tryd.ntmps59
  go_wp2_with (refine wpList_loadRel rfl _ rfl w.heap.size rfl n l hl h1 ?_)
  refine (HPT.out _).mono ?_
  rintro e w1 ⟨rfl, hb1⟩
  have r1 := h1.below hb1 (by have := HS.out; omega)
  have r2 := h2.below hb1 HS.out
  have hsz : w.heap.size + 1 < w1.heap.size := Nat.lt_of_lt_of_le HS.out hb1.size
  have HB1 := Lib.hid (HB.out.trans (hb1.mono HB.out.size))
  clear h1 h2 hb1 HS HB
  go_wp2_with (refine wpList_storeRel rfl _ _ rfl w1.heap.size rfl (p : Int) zs ?c1 0 zs RW.zs RW.zs ?c2 ?_; (case c1 => exact congrArg Value.agg (by rw [zero_rel, rv_setN])); (case c2 => rw [zero_rel]; exact RelAt.new _ _ _); intro w2 r3 he)
  have k1 := (r1.alloc (.cells Tryd.zeroCells25 25)).other he (by omega)
  have k2 := (r2.alloc (.cells Tryd.zeroCells25 25)).other he (by omega)
  have HB2 := Lib.hid ((HB1.out.alloc HB1.out.size (.cells Tryd.zeroCells25 25)).trans (he.below HB1.out.size))
  clear he r1 r2 HB1
  have hg1 : w.heap.size ≠ w1.heap.size := by omega
  have hg2 : w.heap.size + 1 ≠ w1.heap.size := by omega
  have hg0 : w.heap.size ≤ w1.heap.size := by omega
  generalize w1.heap.size = g at *
  clear hsz
  go_loopw [4] (fun iv wr => ∃ (i : Nat) (m : List Nat), i ≤ p ∧ iv = .int .i64 i ∧ RW m ∧ RelAt wr w.heap.size n l ∧ RelAt wr (w.heap.size + 1) 0 zs ∧ RelAt wr g (p : Int) m ∧ Hid (Below w.heap.size w wr) ∧ Hid (∀ a, a < 64 → m.getD a 0 = if a < i then lc.getD a 0 else 0)) (fun iv _ => p - (intOf iv).toNat)
  case atStart => exact ⟨0, zs, by omega, rfl, RW.zs, k1, k2, r3, HB2, fun a _ => by rw [zs_getD]; simp⟩
  case round =>
    clear k1 k2 r3 HB2
    obtain ⟨i, m, hi, rfl, hm, r1, r2, r3, HB, HM⟩ := hrel
    have hc0 := r3.cell0
    by_cases hlt : i < p
    · go_wp2_with (refine wpList_loadRel rfl _ rfl w.heap.size rfl n l hl r1 ?_)
      clear hc0
      refine (HRE.out i _).mono ?_
      rintro e w4 ⟨A, c, xs, rfl, hxs, hO, hb4, hch⟩
      have s1 := r1.below hb4 r1.lt
      have s2 := r2.below hb4 r2.lt
      have s3 := r3.below hb4 r3.lt
      have HB4 := Lib.hid (HB.out.trans (hb4.mono HB.out.size))
      clear r1 r2 r3 HB hb4
      have hof := fun w h => refOf_any A c xs w (by omega) h
      rw [HOF.out i hlt xs hch] at hof
      have HOFF := Lib.hid hof; clear hof hch
      have HI := Lib.hid hO.ints; clear hO
      have hx := hc.lt i
      have hcd := s3.cell hm i (by omega)
      have hfd := s3.free (1 + i)
      have hil : (i : Int) < 64 := by omega
      have HST : Hid (∀ x, x = lc.getD i 0 → ∀ a, a < 64 → (m.set i x).getD a 0 = if a < i + 1 then lc.getD a 0 else 0) := fun x hx => plain_step hm i x (by omega) HM.out hx
      generalize lc.getD i 0 = x at *
      generalize xs.length = kx at *
      go_wp2_with (go_at_call 41; refine (HOFF.out _ HI.out).mono ?_; rintro e w' ⟨rfl, rfl⟩)
      go_roundw
      case rel =>
        refine ⟨i + 1, m.set i x, by omega, by go_num, hm.set _ _ hx, ?_, ?_, ?_, ?_, HST.out x rfl⟩
        · exact s1.far (p := ⟨g, 1 + i, none⟩) (fun e => hg1 e.symm) _
        · exact s2.far (p := ⟨g, 1 + i, none⟩) (fun e => hg2 e.symm) _
        · exact s3.put i _
        · exact HB4.out.setCell hg0 _
      case measure => simp [intOf]; omega
    · have e : i = p := by omega
      subst e
      have hme := HEND.out m hm HM.out
      have HME := Lib.hid hme; clear hme
      go_wp2_with (first | (refine wpList_loadRel rfl _ rfl g rfl _ _ hm r3 ?_) | (refine wpList_storeRel rfl _ _ rfl (w.heap.size + 1) rfl _ _ rfl 0 zs RW.zs hm r2 ?_; intro w4 hr he))
      rw [HME.out] at hr
      exact bodyPost_ret (ret_rel rfl _ _ (w.heap.size + 1) _ _ (HME.out ▸ hm) rfl hr) rfl ⟨rfl, HB.out.trans (he.below (by omega))⟩
theorem qsame_any (n m : Int) (l k : List Nat) (hl : RW l) (hk : RW k) (w : World) :
    Calls Tryd.prog 58 #[.agg (rv n l), .agg (rv m k)] w fun e w' => e = .returned (.bool (eqRel (pts n : Nat) (pts m : Nat) (cl n l) (cl m k))) ∧ Below w.heap.size w w' := by
  go_enter Tryd.func58, Tryd.ntmps58
  go_wp2_with fail
  have hr1 : RelAt ((w.alloc (.cells (rv n l) 25)).alloc (.cells (rv m k) 25)) w.heap.size n l := (RelAt.new w n l).alloc _
  have hr2 : RelAt ((w.alloc (.cells (rv n l) 25)).alloc (.cells (rv m k) 25)) (w.heap.size + 1) m k := by
    have := RelAt.new (w.alloc (.cells (rv n l) 25)) m k
    simpa using this
  have hb : Below w.heap.size w ((w.alloc (.cells (rv n l) 25)).alloc (.cells (rv m k) 25)) := ((Below.refl _ _).alloc (Nat.le_refl _) _).alloc (by simp) _
  obtain ⟨S, HS, p1, p2, PB, keep⟩ := ex_two _ _ _ _ _ _ _ _ _ hr1 hr2 hb
  have keepS := keep.out (by simp; omega)
  clear keep hr1 hr2 hb
  refine wp_region_ord S [(0, true), (2, true), (1, false), (3, false), (4, true), (5, true)] (by kernel_rfl) (by kernel_rfl) rfl (by kernel_rfl) HS.out ?_
  iterate 2
    (refine wpOrd_step (o := ?_) ?_ ?_; rotate_left 1; (simp only [List.getElem?_toArray, List.getElem?_cons_succ, List.getElem?_cons_zero]; with_reducible rfl))
    (first
        | (refine wpOrd_skip (by rfl) ?_)
        | (refine wpOrd_take (by rfl) (take_loadRel _ rfl _ rfl n l hl p1) ?_)
        | (refine wpOrd_take (by rfl) (take_loadRel _ rfl _ rfl m k hk p2) ?_)
        | (refine wpOrd_take (v := ?_) (by rfl) ?_ ?_; rotate_left 1; (intro wx hSx; go_simp; try with_reducible rfl)))
    (try simp only [Act.put, List.setIfInBounds_toArray, List.set_cons_zero, List.set_cons_succ])
  (refine wpOrd_solo (o := ?_) ?_ ?_; rotate_left 1; (simp only [List.getElem?_toArray, List.getElem?_cons_succ, List.getElem?_cons_zero]; with_reducible rfl))
  intro K hK
  go_simp
  go_at_call 64
  refine (qplain_any _ _ hl _).mono ?_
  rintro e w2 ⟨rfl, hb⟩
  have hS := keepS _ _ HS.out hb
  clear HS
  have HS := Lib.hid hS; clear hS hb
  refine hK.out _ _ HS.out ?_
  clear hK K
  (try simp only [Act.put, List.setIfInBounds_toArray, List.set_cons_zero, List.set_cons_succ])
  (refine wpOrd_solo (o := ?_) ?_ ?_; rotate_left 1; (simp only [List.getElem?_toArray, List.getElem?_cons_succ, List.getElem?_cons_zero]; with_reducible rfl))
  intro K hK
  go_simp
  go_at_call 64
  refine (qplain_any _ _ hk _).mono ?_
  rintro e w3 ⟨rfl, hb⟩
  have hS := keepS _ _ HS.out hb
  clear HS
  have HS := Lib.hid hS; clear hS hb
  refine hK.out _ _ HS.out ?_
  clear hK K
  (try simp only [Act.put, List.setIfInBounds_toArray, List.set_cons_zero, List.set_cons_succ])
  iterate 2
    (refine wpOrd_step (o := ?_) ?_ ?_; rotate_left 1; (simp only [List.getElem?_toArray, List.getElem?_cons_succ, List.getElem?_cons_zero]; with_reducible rfl))
    (first
        | (refine wpOrd_skip (by rfl) ?_)
        | (refine wpOrd_take (by rfl) (take_eqRel _ _ _ rfl _ _ _ _ rfl rfl (RW.mk _ _) (RW.mk _ _)) ?_)
        | (refine wpOrd_take (v := ?_) (by rfl) ?_ ?_; rotate_left 1; (intro wx hSx; go_simp; try with_reducible rfl)))
    (try simp only [Act.put, List.setIfInBounds_toArray, List.set_cons_zero, List.set_cons_succ])
  refine wpOrd_done ?_
  go_wp2_with fail
  go_ret
  exact ⟨rfl, PB.out _ HS.out⟩
theorem qclosed_any (n : Int) (l : List Nat) (hl : RW l) (w : World) :
    Calls Tryd.prog 52 #[.agg (rv n l)] w fun e w' => e = .returned (.bool (closedB n l)) ∧ Below w.heap.size w w' := by
  have hsm := fun w => qsame_any n (pts n : Nat) l (cz n l) hl (RW.mk _ _) w
  have he : eqRel (pts n : Nat) (pts ((pts n : Nat) : Int) : Nat) (cl n l) (cl (pts n : Nat) (cz n l)) = closedB n l := by unfold closedB eqRel; rw [pts_pts, cl_cz]; simp
  rw [he] at hsm
  have HSM := Lib.hid hsm; clear hsm he
  have hz : RW (cz n l) := RW.mk _ _
  have HCL : Hid (∀ w, Calls Tryd.prog 59 #[.agg (rv n l)] w fun e w' => e = .returned (.agg (rv ((pts n : Nat) : Int) (cz n l))) ∧ Below w.heap.size w w') := qclosure_any n l hl
  generalize cz n l = lz at *
  generalize pts n = p at *
  generalize closedB n l = cb at *
  go_enter Tryd.func52, Tryd.ntmps52
  go_wp2_with fail
  have hr1 := RelAt.new w n l
  have hb : Below w.heap.size w (w.alloc (.cells (rv n l) 25)) := (Below.refl _ _).alloc (Nat.le_refl _) _
  obtain ⟨S, HS, p1, PB, keep⟩ := ex_one _ _ _ _ _ _ hr1 hb
  have keepS := keep.out (by simp)
  clear keep hr1 hb
  refine wp_region_ord S [(0, true), (1, true), (2, false), (3, false), (4, true)] (by kernel_rfl) (by kernel_rfl) rfl (by kernel_rfl) HS.out ?_
  iterate 2
    (refine wpOrd_step (o := ?_) ?_ ?_; rotate_left 1; (simp only [List.getElem?_toArray, List.getElem?_cons_succ, List.getElem?_cons_zero]; with_reducible rfl))
    (first
        | (refine wpOrd_skip (by rfl) ?_)
        | (refine wpOrd_take (by rfl) (take_loadRel _ rfl _ rfl n l hl p1) ?_)
        | (refine wpOrd_take (v := ?_) (by rfl) ?_ ?_; rotate_left 1; (intro wx hSx; go_simp; try with_reducible rfl)))
    (try simp only [Act.put, List.setIfInBounds_toArray, List.set_cons_zero, List.set_cons_succ])
  (refine wpOrd_solo (o := ?_) ?_ ?_; rotate_left 1; (simp only [List.getElem?_toArray, List.getElem?_cons_succ, List.getElem?_cons_zero]; with_reducible rfl))
  intro K hK
  go_simp
  go_at_call 59
  refine (HCL.out _).mono ?_
  rintro e w2 ⟨rfl, hb⟩
  have hS := keepS _ _ HS.out hb
  clear HS
  have HS := Lib.hid hS; clear hS hb
  refine hK.out _ _ HS.out ?_
  clear hK K
  (try simp only [Act.put, List.setIfInBounds_toArray, List.set_cons_zero, List.set_cons_succ])
  (refine wpOrd_solo (o := ?_) ?_ ?_; rotate_left 1; (simp only [List.getElem?_toArray, List.getElem?_cons_succ, List.getElem?_cons_zero]; with_reducible rfl))
  intro K hK
  go_simp
  go_at_call 58
  refine (HSM.out _).mono ?_
  rintro e w3 ⟨rfl, hb⟩
  have hS := keepS _ _ HS.out hb
  clear HS
  have HS := Lib.hid hS; clear hS hb
  refine hK.out _ _ HS.out ?_
  clear hK K
  (try simp only [Act.put, List.setIfInBounds_toArray, List.set_cons_zero, List.set_cons_succ])
  iterate 1
    (refine wpOrd_step (o := ?_) ?_ ?_; rotate_left 1; (simp only [List.getElem?_toArray, List.getElem?_cons_succ, List.getElem?_cons_zero]; with_reducible rfl))
    (first
        | (refine wpOrd_skip (by rfl) ?_)
        | (refine wpOrd_take (v := ?_) (by rfl) ?_ ?_; rotate_left 1; (intro wx hSx; go_simp; try with_reducible rfl)))
    (try simp only [Act.put, List.setIfInBounds_toArray, List.set_cons_zero, List.set_cons_succ])
  refine wpOrd_done ?_
  go_wp2_with fail
  go_ret
  exact ⟨rfl, PB.out _ HS.out⟩
end Go.Proofs.YtopckkdmldhmlaaDoor
