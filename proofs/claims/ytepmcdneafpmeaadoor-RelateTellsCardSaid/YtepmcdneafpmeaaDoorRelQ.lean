/-
  RelateImages holds. Conditions: 64 words below 2^64; the table of math/bits in memory.
-/
import Derived.Test.YtepmcdneafpmeaaDoorRelP
namespace Go.Proofs.YtepmcdneafpmeaaDoor
open Go.RowKit RM

theorem hasN_iff {s : Nat} {i : Int} : MM.hasN s i = true ↔ ∃ k : Nat, i = (k : Int) ∧ k < 64 ∧ s.testBit k = true := by
  unfold MM.hasN
  rw [Bool.and_eq_true, decide_eq_true_eq]
  constructor
  · rintro ⟨⟨h0, h1⟩, h2⟩
    exact ⟨i.toNat, by omega, by omega, h2⟩
  · rintro ⟨k, rfl, hk, h2⟩
    exact ⟨by omega, by simpa using h2⟩
theorem hasR_iff {n : Int} {l : List Nat} {i j : Int} : hasR n l i j = true ↔ ∃ a b : Nat, i = (a : Int) ∧ j = (b : Int) ∧ a < pts n ∧ b < pts n ∧ bt l a b = true := by
  unfold hasR
  rw [Bool.and_eq_true, Bool.and_eq_true, isPt_iff, isPt_iff]
  constructor
  · rintro ⟨⟨h1, h2⟩, h3⟩
    exact ⟨i.toNat, j.toNat, by omega, by omega, by omega, by omega, h3⟩
  · rintro ⟨a, b, rfl, rfl, ha, hb, h3⟩
    exact ⟨⟨by omega, by omega⟩, by simpa using h3⟩
theorem up_eq (n : Int) (l : List Nat) (s : Nat) (i : Int) : MM.hasN (abv (cl n l) s) i = (MM.els s).any fun t => hasR n l (t : Int) i := by
  have hp := pts_le n
  rw [Bool.eq_iff_iff, hasN_iff, List.any_eq_true]
  constructor
  · rintro ⟨k, rfl, _, h⟩
    obtain ⟨t, ht, h1, h2⟩ := (abv_bit _ _ _).1 h
    rw [bt_cl, Bool.and_eq_true, Bool.and_eq_true, decide_eq_true_eq, decide_eq_true_eq] at h2
    exact ⟨t, MM.mem_els.2 ⟨ht, h1⟩, hasR_iff.2 ⟨t, k, rfl, rfl, h2.1.1, h2.1.2, h2.2⟩⟩
  · rintro ⟨t, ht, h⟩
    obtain ⟨a, b, e, rfl, ha, hb, h2⟩ := hasR_iff.1 h
    obtain rfl : t = a := by omega
    obtain ⟨h3, h4⟩ := MM.mem_els.1 ht
    exact ⟨b, rfl, by omega, (abv_bit _ _ _).2 ⟨t, h3, h4, by rw [bt_cl]; simp [ha, hb, h2]⟩⟩
theorem down_eq (n : Int) (l : List Nat) (s : Nat) (i : Int) : MM.hasN (blw (cl n l) s (pts n)) i = (MM.els s).any fun t => hasR n l i (t : Int) := by
  have hp := pts_le n
  rw [Bool.eq_iff_iff, hasN_iff, List.any_eq_true]
  constructor
  · rintro ⟨k, rfl, _, h⟩
    rw [blw_bit, Bool.and_eq_true, Bool.and_eq_true, decide_eq_true_eq, decide_eq_true_eq] at h
    obtain ⟨t, ht, h1, h2⟩ := (and_ne ((RW.mk (pts n) (bt l)).lt k)).1 h.2.2
    have h3 : bt (cl n l) k t = true := h1
    rw [bt_cl, Bool.and_eq_true, Bool.and_eq_true, decide_eq_true_eq, decide_eq_true_eq] at h3
    exact ⟨t, MM.mem_els.2 ⟨ht, h2⟩, hasR_iff.2 ⟨k, t, rfl, rfl, h3.1.1, h3.1.2, h3.2⟩⟩
  · rintro ⟨t, ht, h⟩
    obtain ⟨a, b, rfl, e, ha, hb, h2⟩ := hasR_iff.1 h
    obtain rfl : t = b := by omega
    obtain ⟨h3, h4⟩ := MM.mem_els.1 ht
    refine ⟨a, rfl, by omega, ?_⟩
    rw [blw_bit, Bool.and_eq_true, Bool.and_eq_true, decide_eq_true_eq, decide_eq_true_eq]
    exact ⟨by omega, ha, (and_ne ((RW.mk (pts n) (bt l)).lt a)).2 ⟨t, h3, by show bt (cl n l) a t = true; rw [bt_cl]; simp [ha, hb, h2], h4⟩⟩
theorem any_take {f : Nat → Bool} (xs : List Nat) (k : Nat) (h : k < xs.length) : (xs.take (k + 1)).any f = ((xs.take k).any f || f (xs.getD k 0)) := by
  rw [List.take_succ_eq_append_getElem h, List.any_append, List.getD_eq_getElem?_getD, List.getElem?_eq_getElem h]; simp
theorem ei_getD (xs : List Nat) (k : Nat) (h : k < xs.length) : (ei xs).getD k 0 = ((xs.getD k 0 : Nat) : Int) := by simp [ei, List.getD_eq_getElem?_getD, List.getElem?_eq_getElem h]

set_option maxHeartbeats 4000000 in
theorem relateImages_law (n : Int) (l : List Nat) (hl : RW l) (s : Nat) (hs : s < 18446744073709551616) (i : Int) (w : World) (hT : Tab w) :
    Calls Tryd.prog 7 #[.agg (rv n l), .int .u64 (s : Int), .int .i64 i] w fun e w' => e = .returned (.bool true) ∧ Below w.heap.size w w' := by
  have h64 := MM.els_length s
  have HLI : Hid (∀ w, Calls Tryd.prog 29 #[.int .u64 (s : Int)] w fun e w' => ∃ A c, e = .returned (.slice A (MM.els s).length c) ∧ OwnI w' w.heap.size A c (ei (MM.els s)) ∧ Below w.heap.size w w') := refList_any s hs
  have HUP : Hid (∀ w, Tab w → Calls Tryd.prog 31 #[.agg (rv n l), .int .u64 (s : Int)] w fun e w' => e = .returned (.int .u64 ((abv (cl n l) s : Nat) : Int)) ∧ Below w.heap.size w w') := fun w h => rup_any n l hl s hs w h
  have HDN : Hid (∀ w, Calls Tryd.prog 32 #[.agg (rv n l), .int .u64 (s : Int)] w fun e w' => e = .returned (.int .u64 ((blw (cl n l) s (pts n) : Nat) : Int)) ∧ Below w.heap.size w w') := fun w => rdown_any n l hl s hs w
  have HU : Hid (MM.hasN (abv (cl n l) s) i = (MM.els s).any fun t => hasR n l (t : Int) i) := up_eq n l s i
  have HD : Hid (MM.hasN (blw (cl n l) s (pts n)) i = (MM.els s).any fun t => hasR n l i (t : Int)) := down_eq n l s i
  have hu := abv_lt (RW.mk (pts n) (bt l)) s
  have hd := blw_lt (cl n l) s (pts n)
  have hu2 : abv (cl n l) s < 18446744073709551616 := hu
  clear hu
  have HAT : Hid (∀ (f : Nat → Bool) k, k < (MM.els s).length → ((MM.els s).take (k + 1)).any f = (((MM.els s).take k).any f || f ((MM.els s).getD k 0))) := fun f k h => any_take _ _ h
  generalize abv (cl n l) s = up at *
  generalize blw (cl n l) s (pts n) = dn at *
  generalize hm : (MM.els s).length = m at *
  have HM := Lib.hid hm; clear hm
  have HT := Lib.hid hT; clear hT
  go_enter Tryd.func7, Tryd.ntmps7
  go_wp2_with fail
  refine (HLI.out _).mono ?_
  rintro e w1 ⟨A, c, rfl, hown, hb1⟩
  have hi := hown.ints
  have r1 := (RelAt.new w n l).below hb1 (by simp)
  have hb : Below w.heap.size w w1 := ((Below.refl _ _).alloc (Nat.le_refl _) _).trans (hb1.mono (by simp))
  have HB := Lib.hid hb; clear hb hb1 hown
  have HI := Lib.hid hi; clear hi
  go_wp2_with fail
  go_loopw [7, 8, 10] (fun av bv kv wr => ∃ (k : Nat) (ab be : Bool), k ≤ m ∧ kv = .int .i64 k ∧ av = .bool ab ∧ bv = .bool be ∧ Hid (ab = ((MM.els s).take k).any fun t => hasR n l (t : Int) i) ∧ Hid (be = ((MM.els s).take k).any fun t => hasR n l i (t : Int)) ∧ RelAt wr w.heap.size n l ∧ Hid (Ints wr A (ei (MM.els s))) ∧ Hid (Below w.heap.size w wr)) (fun _ _ kv _ => m - (intOf kv).toNat)
  case atStart => exact ⟨0, false, false, by omega, rfl, rfl, rfl, by show false = _; simp, by show false = _; simp, r1, HI, HB⟩
  case round =>
    clear r1 HI HB
    obtain ⟨k, ab, be, hk, rfl, rfl, rfl, HA, HE, rr, HI, HB⟩ := hrel
    by_cases hlt : k < m
    · have hne : ei (MM.els s) ≠ [] := by intro h; have := congrArg List.length h; rw [ei_length, HM.out] at this; simp at this; omega
      obtain ⟨b, o, rfl, hc⟩ := HI.out.cell hne
      have hck := hc k (by rw [ei_length, HM.out]; exact hlt)
      rw [ei_getD _ _ (by rw [HM.out]; exact hlt)] at hck
      have HA2 := Lib.hid (HAT.out (fun t => hasR n l (t : Int) i) k hlt)
      have HE2 := Lib.hid (HAT.out (fun t => hasR n l i (t : Int)) k hlt)
      clear hc hne
      generalize (MM.els s).getD k 0 = t at *
      have hm0 : (0 : Int) ≤ (k : Int) := by omega
      have hkm : (k : Int) < (m : Int) := by omega
      rw [← HA.out] at HA2
      rw [← HE.out] at HE2
      clear HA HE
      cases ab <;> cases be
      all_goals
        obtain ⟨S, HS, pb, keepS⟩ := ex_gen wr
        have p1 := fun w' h => rr.below (pb w' h) rr.lt
        have c1 := fun w' h => ((pb w' h).cell (p := ⟨b, o + k, none⟩) (World.block_lt_of_cell? _ _ hck)).trans hck
        have PI : Hid (∀ w', S w' → Ints w' (some ⟨b, o, none⟩) (ei (MM.els s))) := fun w' h => HI.out.below (pb w' h)
        have PB : Hid (∀ w', S w' → Below w.heap.size w w') := fun w' h => HB.out.trans ((pb w' h).mono HB.out.size)
        clear pb
        go_wp2_with fail
        refine wp_region_ord S [(0, true), (1, true), (2, true), (3, true), (4, true), (5, true), (6, true), (7, true), (8, false), (9, true), (10, true)] (by kernel_rfl) (by kernel_rfl) rfl (by kernel_rfl) HS.out ?_
        iterate 8
          (refine wpOrd_step (o := ?_) ?_ ?_; rotate_left 1; (simp only [List.getElem?_toArray, List.getElem?_cons_succ, List.getElem?_cons_zero]; with_reducible rfl))
          (first
              | (refine wpOrd_skip (by rfl) ?_)
              | (refine wpOrd_take (by rfl) (take_loadRel _ rfl _ rfl _ _ hl p1) ?_)
              | (refine wpOrd_take (v := ?_) (by rfl) ?_ ?_; rotate_left 1; (intro wx hSx; have hc_0 := c1 wx hSx; go_simp; try with_reducible rfl)))
          (try simp only [Act.put, List.setIfInBounds_toArray, List.set_cons_zero, List.set_cons_succ])
        first
          | (
              (refine wpOrd_solo (o := ?_) ?_ ?_; rotate_left 1; (simp only [List.getElem?_toArray, List.getElem?_cons_succ, List.getElem?_cons_zero]; with_reducible rfl))
              intro K hK
              go_simp
              refine hK.out _ _ HS.out ?_
              clear hK K
              (try simp only [Act.put, List.setIfInBounds_toArray, List.set_cons_zero, List.set_cons_succ]))
          | (
              (refine wpOrd_solo (o := ?_) ?_ ?_; rotate_left 1; (simp only [List.getElem?_toArray, List.getElem?_cons_succ, List.getElem?_cons_zero]; with_reducible rfl))
              intro K hK
              go_simp
              go_at_call 16
              refine (qhas_any _ _ hl _ _ _).mono ?_
              rintro e w3 ⟨rfl, hb⟩
              have hS := keepS _ _ HS.out hb
              clear HS
              have HS := Lib.hid hS; clear hS hb
              refine hK.out _ _ HS.out ?_
              clear hK K
              (try simp only [Act.put, List.setIfInBounds_toArray, List.set_cons_zero, List.set_cons_succ]))
        iterate 2
          (refine wpOrd_step (o := ?_) ?_ ?_; rotate_left 1; (simp only [List.getElem?_toArray, List.getElem?_cons_succ, List.getElem?_cons_zero]; with_reducible rfl))
          (first
              | (refine wpOrd_skip (by rfl) ?_)
              | (refine wpOrd_take (v := ?_) (by rfl) ?_ ?_; rotate_left 1; (intro wx hSx; go_simp; try with_reducible rfl)))
          (try simp only [Act.put, List.setIfInBounds_toArray, List.set_cons_zero, List.set_cons_succ])
        refine wpOrd_done ?_
        go_wp2_with fail
        have hS := keepS _ _ HS.out ((Below.refl _ _).drew)
        clear HS
        have HS := Lib.hid hS; clear hS
        refine wp_region_ord S [(0, true), (1, true), (2, true), (3, true), (4, true), (5, true), (6, true), (7, true), (8, false), (9, true), (10, true)] (by kernel_rfl) (by kernel_rfl) rfl (by kernel_rfl) HS.out ?_
        iterate 8
          (refine wpOrd_step (o := ?_) ?_ ?_; rotate_left 1; (simp only [List.getElem?_toArray, List.getElem?_cons_succ, List.getElem?_cons_zero]; with_reducible rfl))
          (first
              | (refine wpOrd_skip (by rfl) ?_)
              | (refine wpOrd_take (by rfl) (take_loadRel _ rfl _ rfl _ _ hl p1) ?_)
              | (refine wpOrd_take (v := ?_) (by rfl) ?_ ?_; rotate_left 1; (intro wx hSx; have hc_0 := c1 wx hSx; go_simp; try with_reducible rfl)))
          (try simp only [Act.put, List.setIfInBounds_toArray, List.set_cons_zero, List.set_cons_succ])
        first
          | (
              (refine wpOrd_solo (o := ?_) ?_ ?_; rotate_left 1; (simp only [List.getElem?_toArray, List.getElem?_cons_succ, List.getElem?_cons_zero]; with_reducible rfl))
              intro K hK
              go_simp
              refine hK.out _ _ HS.out ?_
              clear hK K
              (try simp only [Act.put, List.setIfInBounds_toArray, List.set_cons_zero, List.set_cons_succ]))
          | (
              (refine wpOrd_solo (o := ?_) ?_ ?_; rotate_left 1; (simp only [List.getElem?_toArray, List.getElem?_cons_succ, List.getElem?_cons_zero]; with_reducible rfl))
              intro K hK
              go_simp
              go_at_call 16
              refine (qhas_any _ _ hl _ _ _).mono ?_
              rintro e w4 ⟨rfl, hb⟩
              have hS := keepS _ _ HS.out hb
              clear HS
              have HS := Lib.hid hS; clear hS hb
              refine hK.out _ _ HS.out ?_
              clear hK K
              (try simp only [Act.put, List.setIfInBounds_toArray, List.set_cons_zero, List.set_cons_succ]))
        iterate 2
          (refine wpOrd_step (o := ?_) ?_ ?_; rotate_left 1; (simp only [List.getElem?_toArray, List.getElem?_cons_succ, List.getElem?_cons_zero]; with_reducible rfl))
          (first
              | (refine wpOrd_skip (by rfl) ?_)
              | (refine wpOrd_take (v := ?_) (by rfl) ?_ ?_; rotate_left 1; (intro wx hSx; go_simp; try with_reducible rfl)))
          (try simp only [Act.put, List.setIfInBounds_toArray, List.set_cons_zero, List.set_cons_succ])
        refine wpOrd_done ?_
        have rr2 := p1 _ HS.out
        have HI2 := Lib.hid (PI.out _ HS.out)
        have HB2 := Lib.hid (PB.out _ HS.out)
        clear p1 c1 PI PB HS keepS rr HI HB hck
        go_wp2_with fail
        go_roundw
        case rel => exact ⟨k + 1, _, _, by omega, by go_num, rfl, rfl, by rw [HA2.out]; simp; exact True.intro, by rw [HE2.out]; simp; exact True.intro, rr2, HI2, HB2⟩
        case measure => simp [intOf]; omega
    · have e : k = m := by omega
      subst e
      have HU2 : Hid (MM.hasN up i = ab) := by rw [HA.out, HU.out, ← HM.out, List.take_length]; exact rfl
      have HD2 : Hid (MM.hasN dn i = be) := by rw [HE.out, HD.out, ← HM.out, List.take_length]; exact rfl
      clear HA HE HU HD
      go_wp2_with (refine wpList_loadRel rfl _ rfl w.heap.size rfl n l hl rr ?_)
      refine (HUP.out _ (HT.out.below HB.out)).mono ?_
      rintro e w5 ⟨rfl, hb5⟩
      have r5 := rr.below hb5 rr.lt
      have HB5 := Lib.hid (HB.out.trans (hb5.mono HB.out.size)); clear hb5 HB rr
      go_wp2_with fail
      refine (refHas_any up hu2 i _).mono ?_
      rintro e w' ⟨rfl, rfl⟩
      rw [HU2.out]
      go_wp2_with (refine wpList_loadRel rfl _ rfl w.heap.size rfl n l hl r5 ?_)
      refine (HDN.out _).mono ?_
      rintro e w6 ⟨rfl, hb6⟩
      have HB6 := Lib.hid (HB5.out.trans (hb6.mono HB5.out.size)); clear hb6 HB5 r5
      go_wp2_with fail
      refine (refHas_any dn hd i _).mono ?_
      rintro e w' ⟨rfl, rfl⟩
      rw [HD2.out]
      go_wp2_with fail
      refine (ralive_any _ (HT.out.below HB6.out)).mono ?_
      rintro e w7 ⟨rfl, hb7⟩
      have HB7 := Lib.hid (HB6.out.trans (hb7.mono HB6.out.size)); clear hb7 HB6
      go_wp2_with fail
      go_ret
      exact ⟨rfl, HB7.out⟩
end Go.Proofs.YtepmcdneafpmeaaDoor
