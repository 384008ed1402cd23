/-
  What Reach of layer 3's reference returns: the points that one comes to. Conditions: 64 words below 2^64.
-/
import Derived.Test.YtopckkdmldhmlaaDoorRelM
import Derived.Laws.OwnMore
namespace Go.Proofs.YtopckkdmldhmlaaDoor
open Go.RowKit RM

theorem nodup_le {p : Nat} {o : List Nat} (hn : o.Nodup) (hp : ∀ x ∈ o, x < p) : o.length ≤ p := by
  have hr : ((List.range p).filter fun x => decide (x ∈ o)).Nodup := List.Pairwise.filter _ List.nodup_range
  have := ((List.perm_ext_iff_of_nodup hn hr).2 fun x => by simp only [List.mem_filter, List.mem_range, decide_eq_true_eq]; exact ⟨fun h => ⟨hp x h, h⟩, fun h => h.2⟩).length_eq
  rw [this]
  have h2 := List.length_filter_le (fun x => decide (x ∈ o)) (List.range p)
  simpa using h2
/-- What holds of the list while the points next to its first a ones have been looked at, and next to the one behind them the first j. -/
structure Rch (p : Nat) (R : Nat → Nat → Bool) (i : Nat) (o : List Nat) (a j : Nat) : Prop where
  nodup : o.Nodup
  start : i ∈ o
  path : ∀ x ∈ o, Path p R i x
  done : ∀ t, t < a → ∀ y, y < p → R (o.getD t 0) y = true → y ∈ o
  part : ∀ y, y < j → y < p → R (o.getD a 0) y = true → y ∈ o
section
variable {p : Nat} {R : Nat → Nat → Bool} {i a j : Nat} {o : List Nat}
theorem Rch.len (h : Rch p R i o a j) : o.length ≤ p := nodup_le h.nodup fun x hx => (h.path x hx).lt_right
theorem Rch.begin (hi : i < p) : Rch p R i [i] 0 0 := ⟨by simp, by simp, fun x hx => by simp at hx; subst hx; exact Path.refl _ hi, fun t ht => by omega, fun y hy => by omega⟩
theorem Rch.skip (h : Rch p R i o a j) (hs : R (o.getD a 0) j = true → j ∈ o) : Rch p R i o a (j + 1) :=
  ⟨h.nodup, h.start, h.path, h.done, fun y hy hp hr => by
    by_cases e : y = j
    · subst e; exact hs hr
    · exact h.part y (by omega) hp hr⟩
theorem Rch.add (h : Rch p R i o a j) (ha : a < o.length) (hj : j < p) (hr : R (o.getD a 0) j = true) (hn : j ∉ o) : Rch p R i (o ++ [j]) a (j + 1) := by
  have hg : ∀ t, t < o.length → (o ++ [j]).getD t 0 = o.getD t 0 := fun t ht => by
    rw [List.getD_eq_getElem?_getD, List.getD_eq_getElem?_getD, List.getElem?_append_left ht]
  have hm : o.getD a 0 ∈ o := by
    rw [List.getD_eq_getElem?_getD, List.getElem?_eq_getElem ha]; exact List.getElem_mem ha
  have hin : ∀ {y}, y ∈ o → y ∈ o ++ [j] := fun h => List.mem_append_left _ h
  refine ⟨?_, hin h.start, fun x hx => ?_, fun t ht y hy hr2 => ?_, fun y hy hp hr2 => ?_⟩
  · rw [List.nodup_append]
    refine ⟨h.nodup, by simp, fun x hx y hy => ?_⟩
    rw [List.mem_singleton] at hy
    subst hy
    intro e
    subst e
    exact hn hx
  · rw [List.mem_append, List.mem_singleton] at hx
    rcases hx with hx | rfl
    · exact h.path x hx
    · exact Path.step _ _ _ (h.path _ hm) hr hj
  · rw [hg t (by omega)] at hr2
    exact hin (h.done t ht y hy hr2)
  · rw [hg a ha] at hr2
    by_cases e : y = j
    · subst e; simp
    · exact hin (h.part y (by omega) hp hr2)
theorem Rch.next (h : Rch p R i o a p) : Rch p R i o (a + 1) 0 :=
  ⟨h.nodup, h.start, h.path, fun t ht y hy hr => by
    by_cases e : t = a
    · subst e; exact h.part y hy hy hr
    · exact h.done t (by omega) y hy hr, fun y hy => by omega⟩
theorem Rch.all (h : Rch p R i o o.length 0) (x : Nat) : x ∈ o ↔ Path p R i x := by
  constructor
  · exact h.path x
  · intro hp
    induction hp with
    | refl => exact h.start
    | step k j hk hr hj ih =>
      obtain ⟨t, ht, he⟩ := List.mem_iff_getElem.1 ih
      refine h.done t ht j hj ?_
      rw [List.getD_eq_getElem?_getD, List.getElem?_eq_getElem ht]
      show R o[t] j = true
      rw [he]; exact hr
end
/-- Does one come from i to x? -/
def rchB (n : Int) (l : List Nat) (i x : Int) : Bool := isPt n i && isPt n x && clo (pts n) (bt l) i.toNat x.toNat
theorem rch_contains {n : Int} {l : List Nat} {i : Nat} {o : List Nat} (hi : i < pts n) (h : ∀ x, x ∈ o ↔ Path (pts n) (bt l) i x) (x : Int) : (ei o).contains x = rchB n l i x := by
  rw [Bool.eq_iff_iff, List.contains_iff_mem]
  unfold rchB ei
  rw [isPt_nat]
  simp only [hi, decide_true, Bool.true_and, Bool.and_eq_true, clo_iff, Int.toNat_natCast, List.mem_map]
  constructor
  · rintro ⟨y, hy, rfl⟩
    have := (h y).1 hy
    exact ⟨isPt_iff.2 ⟨Int.natCast_nonneg _, by have := this.lt_right; exact Int.ofNat_lt.2 this⟩, this⟩
  · rintro ⟨h1, h2⟩
    have := isPt_iff.1 h1
    exact ⟨x.toNat, (h _).2 h2, by show ((x.toNat : Nat) : Int) = x; omega⟩
theorem RelAt.grown {w w' : World} {g : Nat} {n : Int} {l : List Nat} {row : Option Nat} (h : RelAt w g n l) (hb : w.grownBy w' row) (hg : row ≠ some g) : RelAt w' g n l := (hb.block g h.lt (fun e => hg e.symm)).trans h
/-- What Reach hands back. -/
def Reached (n : Int) (l : List Nat) (i : Int) (w : World) (e : Ending) (w' : World) : Prop :=
  ∃ A c, ∃ xs : List Int, e = .returned (.slice A xs.length c) ∧ xs.length ≤ 64 ∧ OwnI w' w.heap.size A c xs ∧ Below w.heap.size w w' ∧ ∀ x, xs.contains x = rchB n l i x
theorem qreach_no (n : Int) (l : List Nat) (hl : RW l) (i : Int) (h : isPt n i = false) (w : World) :
    Calls Tryd.prog 65 #[.agg (rv n l), .int .i64 i] w (Reached n l i w) := by
  have hq := fun w => qpoints_any n l w
  have HQ := Lib.hid hq; clear hq
  have HR : Hid (∀ w', Below w.heap.size w w' → Reached n l i w (.returned (.slice none 0 0)) w') := fun w' hb => ⟨none, 0, [], rfl, by simp, World.ownsRow_nil _ _ _ _, hb, fun x => by unfold rchB; rw [h]; rfl⟩
  by_cases h0 : i < 0
  · clear h
    go_enter Tryd.func65, Tryd.ntmps65
    go_wp2_with fail
    go_ret
    exact HR.out _ ((Below.refl _ _).alloc (Nat.le_refl _) _)
  · have h1 : (pts n : Int) ≤ i := by
      apply Decidable.byContradiction
      intro h2
      rw [isPt_true (by omega) (by omega)] at h
      cases h
    clear h
    generalize pts n = p at *
    go_enter Tryd.func65, Tryd.ntmps65
    go_wp2_with (refine wpList_loadRel (by rfl) _ rfl w.heap.size rfl n l hl (RelAt.new _ _ _) ?_)
    refine (HQ.out _).mono ?_
    rintro e w1 ⟨rfl, hb1⟩
    have hb : Below w.heap.size w w1 := ((Below.refl _ _).alloc (Nat.le_refl _) _).trans (hb1.mono (by simp))
    have HB := Lib.hid hb; clear hb hb1
    go_wp2_with fail
    go_ret
    exact HR.out _ HB.out
theorem ex_reach (B g : Nat) (n : Int) (l : List Nat) (p : Addr) (v : Value) (A : Option Addr) (c : Nat) (xs : List Int) (w0 w : World) (h1 : RelAt w g n l) (h2 : w.cell? p = some v) (h3 : OwnI w B A c xs) (hb : Below B w0 w) :
    ∃ S : World → Prop, Hid (S w.drew) ∧ (∀ w', S w' → RelAt w' g n l) ∧ (∀ w', S w' → w'.cell? p = some v) ∧ Hid (∀ w', S w' → OwnI w' B A c xs) ∧ Hid (∀ w', S w' → Below B w0 w') ∧ Hid (B ≤ w.heap.size → ∀ wa wb, S wa → Below wa.heap.size wa wb → S wb) :=
  ⟨fun w' => RelAt w' g n l ∧ w'.cell? p = some v ∧ OwnI w' B A c xs ∧ Below B w0 w' ∧ w.heap.size ≤ w'.heap.size, ⟨h1, h2, h3, hb.drew, Nat.le_refl _⟩, fun _ h => h.1, fun _ h => h.2.1, fun _ h => h.2.2.1, fun _ h => h.2.2.2.1,
    fun hB _ _ h hb => ⟨h.1.below hb h.1.lt, by rw [hb.cell (World.block_lt_of_cell? _ _ h.2.1)]; exact h.2.1, own_below h.2.2.1 hb (Nat.le_refl _), h.2.2.2.1.trans (hb.mono (Nat.le_trans hB h.2.2.2.2)), Nat.le_trans h.2.2.2.2 hb.size⟩⟩
set_option maxHeartbeats 2000000 in
theorem qreach_in (n : Int) (l : List Nat) (hl : RW l) (i : Nat) (hi : i < pts n) (w : World) :
    Calls Tryd.prog 65 #[.agg (rv n l), .int .i64 (i : Int)] w (Reached n l i w) := by
  have hq := fun w => qpoints_any n l w
  have HQ := Lib.hid hq; clear hq
  have hp := pts_le n
  have HR : Hid (∀ (o : List Nat) (A : Option Addr) (c : Nat) w', Rch (pts n) (bt l) i o o.length 0 → OwnI w' w.heap.size A c (ei o) → Below w.heap.size w w' → Reached n l i w (.returned (.slice A o.length c)) w') := fun o A c w' h1 h2 h3 =>
    ⟨A, c, ei o, by rw [ei_length], by rw [ei_length]; have := h1.len; omega, h2, h3, rch_contains hi h1.all⟩
  have HH : Hid (∀ a b : Nat, a < pts n → b < pts n → ∀ w, Calls Tryd.prog 32 #[.agg (rv n l), .int .i64 (a : Int), .int .i64 (b : Int)] w fun e w' => e = .returned (.bool (bt l a b)) ∧ Below w.heap.size w w') := fun a b h1 h2 w => qhas_in n l hl a b h1 h2 w
  have HST : Hid (Rch (pts n) (bt l) i [i] 0 0) := Rch.begin hi
  generalize pts n = p at *
  have hd1 : decide ((i : Int) < 0) = false := decide_eq_false (by omega)
  have hd2 : decide (p ≤ i) = false := decide_eq_false (by omega)
  go_enter Tryd.func65, Tryd.ntmps65
  go_wp2_with (refine wpList_loadRel (by rfl) _ rfl w.heap.size rfl n l hl (RelAt.new _ _ _) ?_)
  refine (HQ.out _).mono ?_
  rintro e w1 ⟨rfl, hb1⟩
  have r1 := (RelAt.new w n l).below hb1 (by simp)
  have hb : Below w.heap.size w w1 := ((Below.refl _ _).alloc (Nat.le_refl _) _).trans (hb1.mono (by simp))
  have HB := Lib.hid hb; clear hb hb1
  go_wp2_with fail
  have r2 := r1.alloc (.cells #[.int .i64 (i : Int)] 3)
  have ho2 : OwnI (w1.alloc (.cells #[.int .i64 (i : Int)] 3)) w.heap.size (some ⟨w1.heap.size, 0, none⟩) 1 (ei [i]) := World.ownsRow_lit w1 #[.int .i64 (i : Int)] 1 HB.out.size (by simp [maxLen]) rfl
  have HO2 := Lib.hid ho2; clear ho2
  have HB2 := Lib.hid (HB.out.alloc HB.out.size (.cells #[.int .i64 (i : Int)] 3))
  clear r1 HB
  go_loopw [5, 6, 7] (fun ov av _ wr => ∃ (o : List Nat) (a m c : Nat) (A : Option Addr), a ≤ m ∧ m ≤ 64 ∧ ov = .slice A m c ∧ av = .int .i64 a ∧ Hid (m = o.length) ∧ Hid (Rch p (bt l) i o a 0) ∧ Hid (OwnI wr w.heap.size A c (ei o)) ∧ RelAt wr w.heap.size n l ∧ Hid (Below w.heap.size w wr)) (fun _ av _ _ => 64 - (intOf av).toNat)
  case atStart => exact ⟨[i], 0, 1, 1, _, by omega, by omega, rfl, rfl, rfl, HST, HO2, r2, HB2⟩
  case round =>
    clear r2 HO2 HB2 HST
    obtain ⟨o, a, m, c, A, ham, hm, rfl, rfl, HM, HRC, HO, rr, HB⟩ := hrel
    by_cases hlt : a < m
    · go_wp2_with fail
      obtain ⟨wo, rfl⟩ : ∃ wo : World, wo = wr := ⟨_, rfl⟩
      go_loopw [5, 7] (fun ov jv wr => ∃ (o : List Nat) (j m c : Nat) (A : Option Addr), j ≤ p ∧ a < m ∧ m ≤ 64 ∧ ov = .slice A m c ∧ jv = .int .i64 j ∧ Hid (m = o.length) ∧ Hid (Rch p (bt l) i o a j) ∧ Hid (OwnI wr w.heap.size A c (ei o)) ∧ RelAt wr w.heap.size n l ∧ Hid (Below w.heap.size w wr)) (fun _ jv _ => p - (intOf jv).toNat)
      case atStart => exact ⟨o, 0, m, c, A, by omega, hlt, hm, rfl, rfl, HM, HRC, HO, rr, HB⟩
      case round =>
        clear HM HRC HO rr HB ham hm hlt
        obtain ⟨o, j, m, c, A, hj, ham, hm, rfl, rfl, HM, HRC, HO, rr, HB⟩ := hrel
        go_wp2_with (refine wpList_loadRel rfl _ rfl w.heap.size rfl n l hl rr ?_)
        refine (HQ.out _).mono ?_
        rintro e w2 ⟨rfl, hb2⟩
        have rr2 := rr.below hb2 rr.lt
        have HO2 : Hid (OwnI w2 w.heap.size A c (ei o)) := own_below HO.out hb2 (Nat.le_refl _)
        have HB2 := Lib.hid (HB.out.trans (hb2.mono HB.out.size)); clear hb2 HB HO rr
        by_cases hlt : j < p
        · have hne : ei o ≠ [] := by intro h; have := congrArg List.length h; rw [ei_length, ← HM.out] at this; simp at this; omega
          obtain ⟨b, off, rfl, hc⟩ := HO2.out.ints.cell hne
          have hck := hc a (by rw [ei_length, ← HM.out]; exact ham)
          clear hc hne
          have hal : a < o.length := by rw [← HM.out]; exact ham
          have hxm : o.getD a 0 ∈ o := by rw [List.getD_eq_getElem?_getD, List.getElem?_eq_getElem hal]; exact List.getElem_mem hal
          have hxp : o.getD a 0 < p := (HRC.out.path _ hxm).lt_right
          have hxe : (ei o).getD a 0 = ((o.getD a 0 : Nat) : Int) := by simp [ei, List.getD_eq_getElem?_getD, List.getElem?_eq_getElem hal]
          rw [hxe] at hck
          have hcon : (ei o).contains (j : Int) = decide (j ∈ o) := by
            rw [Bool.eq_iff_iff, List.contains_iff_mem, decide_eq_true_eq]
            unfold ei
            simp only [List.mem_map]
            exact ⟨fun ⟨y, hy, e⟩ => by have : y = j := Int.ofNat.inj e; rwa [← this], fun h => ⟨j, h, rfl⟩⟩
          have hin := fun w h => qin_any (some ⟨b, off, none⟩) c (ei o) (j : Int) w (by rw [ei_length, ← HM.out]; omega) h
          rw [hcon, ei_length, ← HM.out] at hin
          have HIN := Lib.hid hin; clear hin hcon hxe hxm
          have HHX := Lib.hid (HH.out (o.getD a 0) j hxp hlt)
          have HSK : Hid ((bt l (o.getD a 0) j = true → j ∈ o) → Rch p (bt l) i o a (j + 1)) := HRC.out.skip
          have HAD : Hid (bt l (o.getD a 0) j = true → j ∉ o → Rch p (bt l) i (o ++ [j]) a (j + 1)) := fun h1 h2 => HRC.out.add hal hlt h1 h2
          clear hal
          generalize o.getD a 0 = x at *
          have hm0 : (0 : Int) ≤ (a : Int) := by omega
          have ham' : (a : Int) < (m : Int) := by omega
          obtain ⟨S, HS, p1, c1, PO, PB, keep⟩ := ex_reach _ _ _ _ _ _ _ _ _ _ _ rr2 hck HO2.out HB2.out
          have keepS := keep.out (Nat.le_of_lt rr2.lt)
          clear keep rr2 hck HO2 HB2
          cases hbt : bt l x j with
          | false =>
            rw [hbt] at HHX HSK HAD
            have HN := Lib.hid (HSK.out (fun h => by cases h)); clear HSK HAD hbt
            go_wp2_with fail
            refine wp_region_ord S [(0, true), (1, true), (2, true), (3, true), (4, true), (5, true), (6, false), (7, true), (8, true), (9, true), (10, false), (11, true), (12, true)] (by kernel_rfl) (by kernel_rfl) rfl (by kernel_rfl) HS.out ?_
            iterate 6
              (refine wpOrd_step (o := ?_) ?_ ?_; rotate_left 1; (simp only [List.getElem?_toArray, List.getElem?_cons_succ, List.getElem?_cons_zero]; with_reducible rfl))
              (first
                  | (refine wpOrd_skip (by rfl) ?_)
                  | (refine wpOrd_take (by rfl) (take_loadRel _ rfl _ rfl n l hl p1) ?_)
                  | (refine wpOrd_take (v := ?_) (by rfl) ?_ ?_; rotate_left 1; (intro wx hSx; have hc_0 := c1 wx hSx; go_simp; try with_reducible rfl)))
              (try simp only [Act.put, List.setIfInBounds_toArray, List.set_cons_zero, List.set_cons_succ])
            (refine wpOrd_solo (o := ?_) ?_ ?_; rotate_left 1; (simp only [List.getElem?_toArray, List.getElem?_cons_succ, List.getElem?_cons_zero]; with_reducible rfl))
            intro K hK
            go_simp
            go_at_call 32
            refine (HHX.out _).mono ?_
            rintro e w3 ⟨rfl, hb⟩
            have hS := keepS _ _ HS.out hb
            clear HS
            have HS := Lib.hid hS; clear hS hb
            refine hK.out _ _ HS.out ?_
            clear hK K
            (try simp only [Act.put, List.setIfInBounds_toArray, List.set_cons_zero, List.set_cons_succ])
            iterate 3
              (refine wpOrd_step (o := ?_) ?_ ?_; rotate_left 1; (simp only [List.getElem?_toArray, List.getElem?_cons_succ, List.getElem?_cons_zero]; with_reducible rfl))
              (first
                  | (refine wpOrd_skip (by rfl) ?_)
                  | (refine wpOrd_take (v := ?_) (by rfl) ?_ ?_; rotate_left 1; (intro wx hSx; go_simp; try with_reducible rfl)))
              (try simp only [Act.put, List.setIfInBounds_toArray, List.set_cons_zero, List.set_cons_succ])
            (refine wpOrd_solo (o := ?_) ?_ ?_; rotate_left 1; (simp only [List.getElem?_toArray, List.getElem?_cons_succ, List.getElem?_cons_zero]; with_reducible rfl))
            intro K hK
            go_simp
            refine hK.out _ _ HS.out ?_
            clear hK K
            (try simp only [Act.put, List.setIfInBounds_toArray, List.set_cons_zero, List.set_cons_succ])
            iterate 2
              (refine wpOrd_step (o := ?_) ?_ ?_; rotate_left 1; (simp only [List.getElem?_toArray, List.getElem?_cons_succ, List.getElem?_cons_zero]; with_reducible rfl))
              (first
                  | (refine wpOrd_skip (by rfl) ?_)
                  | (refine wpOrd_take (v := ?_) (by rfl) ?_ ?_; rotate_left 1; (intro wx hSx; go_simp; try with_reducible rfl)))
              (try simp only [Act.put, List.setIfInBounds_toArray, List.set_cons_zero, List.set_cons_succ])
            refine wpOrd_done ?_
            have rr3 := p1 _ HS.out
            have HO3 := Lib.hid (PO.out _ HS.out)
            have HB3 := Lib.hid (PB.out _ HS.out)
            clear p1 c1 PO PB keepS HS
            go_wp2_with fail
            go_roundw
            case rel => exact ⟨o, j + 1, m, c, _, by omega, ham, hm, rfl, by go_num, HM, HN, HO3, rr3, HB3⟩
            case measure => simp [intOf]; omega
          | true =>
            rw [hbt] at HHX HSK HAD
            cases hmem : decide (j ∈ o) with
            | true =>
              have HN := Lib.hid (HSK.out (fun _ => of_decide_eq_true hmem))
              have HMEM := Lib.hid hmem; clear HSK HAD hbt hmem
              go_wp2_with fail
              refine wp_region_ord S [(0, true), (1, true), (2, true), (3, true), (4, true), (5, true), (6, false), (7, true), (8, true), (9, true), (10, false), (11, true), (12, true)] (by kernel_rfl) (by kernel_rfl) rfl (by kernel_rfl) HS.out ?_
              iterate 6
                (refine wpOrd_step (o := ?_) ?_ ?_; rotate_left 1; (simp only [List.getElem?_toArray, List.getElem?_cons_succ, List.getElem?_cons_zero]; with_reducible rfl))
                (first
                    | (refine wpOrd_skip (by rfl) ?_)
                    | (refine wpOrd_take (by rfl) (take_loadRel _ rfl _ rfl n l hl p1) ?_)
                    | (refine wpOrd_take (v := ?_) (by rfl) ?_ ?_; rotate_left 1; (intro wx hSx; have hc_0 := c1 wx hSx; go_simp; try with_reducible rfl)))
                (try simp only [Act.put, List.setIfInBounds_toArray, List.set_cons_zero, List.set_cons_succ])
              (refine wpOrd_solo (o := ?_) ?_ ?_; rotate_left 1; (simp only [List.getElem?_toArray, List.getElem?_cons_succ, List.getElem?_cons_zero]; with_reducible rfl))
              intro K hK
              go_simp
              go_at_call 32
              refine (HHX.out _).mono ?_
              rintro e w3 ⟨rfl, hb⟩
              have hS := keepS _ _ HS.out hb
              clear HS
              have HS := Lib.hid hS; clear hS hb
              refine hK.out _ _ HS.out ?_
              clear hK K
              (try simp only [Act.put, List.setIfInBounds_toArray, List.set_cons_zero, List.set_cons_succ])
              iterate 3
                (refine wpOrd_step (o := ?_) ?_ ?_; rotate_left 1; (simp only [List.getElem?_toArray, List.getElem?_cons_succ, List.getElem?_cons_zero]; with_reducible rfl))
                (first
                    | (refine wpOrd_skip (by rfl) ?_)
                    | (refine wpOrd_take (v := ?_) (by rfl) ?_ ?_; rotate_left 1; (intro wx hSx; go_simp; try with_reducible rfl)))
                (try simp only [Act.put, List.setIfInBounds_toArray, List.set_cons_zero, List.set_cons_succ])
              (refine wpOrd_solo (o := ?_) ?_ ?_; rotate_left 1; (simp only [List.getElem?_toArray, List.getElem?_cons_succ, List.getElem?_cons_zero]; with_reducible rfl))
              intro K hK
              go_simp
              go_at_call 77
              refine (HIN.out _ (PO.out _ HS.out).ints).mono ?_
              rintro e w' ⟨rfl, rfl⟩
              refine hK.out _ _ HS.out ?_
              clear hK K
              (try simp only [Act.put, List.setIfInBounds_toArray, List.set_cons_zero, List.set_cons_succ])
              rw [HMEM.out]
              iterate 2
                (refine wpOrd_step (o := ?_) ?_ ?_; rotate_left 1; (simp only [List.getElem?_toArray, List.getElem?_cons_succ, List.getElem?_cons_zero]; with_reducible rfl))
                (first
                    | (refine wpOrd_skip (by rfl) ?_)
                    | (refine wpOrd_take (v := ?_) (by rfl) ?_ ?_; rotate_left 1; (intro wx hSx; go_simp; try with_reducible rfl)))
                (try simp only [Act.put, List.setIfInBounds_toArray, List.set_cons_zero, List.set_cons_succ])
              refine wpOrd_done ?_
              have rr3 := p1 _ HS.out
              have HO3 := Lib.hid (PO.out _ HS.out)
              have HB3 := Lib.hid (PB.out _ HS.out)
              clear p1 c1 PO PB keepS HS
              go_wp2_with fail
              go_roundw
              case rel => exact ⟨o, j + 1, m, c, _, by omega, ham, hm, rfl, by go_num, HM, HN, HO3, rr3, HB3⟩
              case measure => simp [intOf]; omega
            | false =>
              have HN := Lib.hid (HAD.out rfl (of_decide_eq_false hmem))
              have HMEM := Lib.hid hmem; clear HSK HAD hbt hmem
              go_wp2_with fail
              refine wp_region_ord S [(0, true), (1, true), (2, true), (3, true), (4, true), (5, true), (6, false), (7, true), (8, true), (9, true), (10, false), (11, true), (12, true)] (by kernel_rfl) (by kernel_rfl) rfl (by kernel_rfl) HS.out ?_
              iterate 6
                (refine wpOrd_step (o := ?_) ?_ ?_; rotate_left 1; (simp only [List.getElem?_toArray, List.getElem?_cons_succ, List.getElem?_cons_zero]; with_reducible rfl))
                (first
                    | (refine wpOrd_skip (by rfl) ?_)
                    | (refine wpOrd_take (by rfl) (take_loadRel _ rfl _ rfl n l hl p1) ?_)
                    | (refine wpOrd_take (v := ?_) (by rfl) ?_ ?_; rotate_left 1; (intro wx hSx; have hc_0 := c1 wx hSx; go_simp; try with_reducible rfl)))
                (try simp only [Act.put, List.setIfInBounds_toArray, List.set_cons_zero, List.set_cons_succ])
              (refine wpOrd_solo (o := ?_) ?_ ?_; rotate_left 1; (simp only [List.getElem?_toArray, List.getElem?_cons_succ, List.getElem?_cons_zero]; with_reducible rfl))
              intro K hK
              go_simp
              go_at_call 32
              refine (HHX.out _).mono ?_
              rintro e w3 ⟨rfl, hb⟩
              have hS := keepS _ _ HS.out hb
              clear HS
              have HS := Lib.hid hS; clear hS hb
              refine hK.out _ _ HS.out ?_
              clear hK K
              (try simp only [Act.put, List.setIfInBounds_toArray, List.set_cons_zero, List.set_cons_succ])
              iterate 3
                (refine wpOrd_step (o := ?_) ?_ ?_; rotate_left 1; (simp only [List.getElem?_toArray, List.getElem?_cons_succ, List.getElem?_cons_zero]; with_reducible rfl))
                (first
                    | (refine wpOrd_skip (by rfl) ?_)
                    | (refine wpOrd_take (v := ?_) (by rfl) ?_ ?_; rotate_left 1; (intro wx hSx; go_simp; try with_reducible rfl)))
                (try simp only [Act.put, List.setIfInBounds_toArray, List.set_cons_zero, List.set_cons_succ])
              (refine wpOrd_solo (o := ?_) ?_ ?_; rotate_left 1; (simp only [List.getElem?_toArray, List.getElem?_cons_succ, List.getElem?_cons_zero]; with_reducible rfl))
              intro K hK
              go_simp
              go_at_call 77
              refine (HIN.out _ (PO.out _ HS.out).ints).mono ?_
              rintro e w' ⟨rfl, rfl⟩
              refine hK.out _ _ HS.out ?_
              clear hK K
              (try simp only [Act.put, List.setIfInBounds_toArray, List.set_cons_zero, List.set_cons_succ])
              rw [HMEM.out]
              iterate 2
                (refine wpOrd_step (o := ?_) ?_ ?_; rotate_left 1; (simp only [List.getElem?_toArray, List.getElem?_cons_succ, List.getElem?_cons_zero]; with_reducible rfl))
                (first
                    | (refine wpOrd_skip (by rfl) ?_)
                    | (refine wpOrd_take (v := ?_) (by rfl) ?_ ?_; rotate_left 1; (intro wx hSx; go_simp; try with_reducible rfl)))
                (try simp only [Act.put, List.setIfInBounds_toArray, List.set_cons_zero, List.set_cons_succ])
              refine wpOrd_done ?_
              have rr3 := p1 _ HS.out
              have HO3 := PO.out _ HS.out
              have HB3 := Lib.hid (PB.out _ HS.out)
              have hown' : w3.ownsRow w.heap.size 3 1 (.slice (some ⟨b, off, none⟩) m c) m (cells (ei o)) := by
                have h4 := HO3
                unfold OwnI at h4
                rw [ei_length, ← HM.out] at h4
                exact h4
              have hbs := HB3.out.size
              have HNB := Lib.hid (own_block hown' rr3 (by decide))
              clear p1 c1 PO PB keepS HS HO3
              go_wp2_with (at_builtin; refine wpList_more _ rfl _ _ 55 rfl 3 (.int .i64 0) 1 8 Tryd.underlying55 infoInt rfl (by decide) (by decide) w.heap.size (some ⟨b, off, none⟩) m c (cells (ei o)) rfl (hown'.alloc _) w3.heap.size 1 1 [.int .i64 (j : Int)] rfl rfl (by decide) (one_new _ _ _) ?c1 ?c2 ?c3 ?_; (case c1 => simp [Value.oneCell']); (case c2 => omega); (case c3 => simp; omega); intro A2 c2 w4 hown2 hb4 hgr; have HGR := Lib.hid hgr; clear hgr)
              have rr4 := RelAt.grown (rr3.alloc (.cells #[.int .i64 (j : Int)] 3)) HGR.out HNB.out
              have HB4 := Lib.hid ((HB3.out.alloc hbs (.cells #[.int .i64 (j : Int)] 3)).trans hb4)
              have HM4 : Hid (m + 1 = (o ++ [j]).length) := by rw [List.length_append, ← HM.out]; exact rfl
              have HO4 : Hid (OwnI w4 w.heap.size A2 c2 (ei (o ++ [j]))) := by
                show OwnI w4 w.heap.size A2 c2 (ei (o ++ [j]))
                unfold OwnI
                rw [ei_snoc, cells_snoc, List.length_append, ei_length, ← HM.out]
                exact hown2
              have hm4 : m + 1 ≤ 64 := by have := HN.out.len; rw [← HM4.out] at this; omega
              clear hown2 hb4 hown' hbs rr3 HB3
              go_wp2_with fail
              go_roundw
              case rel => exact ⟨o ++ [j], j + 1, m + 1, c2, A2, by omega, by omega, hm4, rfl, by go_num, HM4, HN, HO4, rr4, HB4⟩
              case measure => simp [intOf]; omega
        · have e : j = p := by omega
          subst e
          have HRN := Lib.hid HRC.out.next
          go_wp2_with fail
          go_roundw
          case rel => exact ⟨o, a + 1, m, c, A, by omega, hm, rfl, by go_num, HM, HRN, HO2, rr2, HB2⟩
          case measure => simp [intOf]; omega
    · have e : a = m := by omega
      subst e
      have hf := HR.out o A c wr (by rw [← HM.out]; exact HRC.out) HO.out HB.out
      rw [← HM.out] at hf
      have HF := Lib.hid hf; clear hf
      go_wp2_with fail
      go_ret
      exact HF.out
theorem qreach_any (n : Int) (l : List Nat) (hl : RW l) (i : Int) (w : World) :
    Calls Tryd.prog 65 #[.agg (rv n l), .int .i64 i] w (Reached n l i w) := by
  cases h : isPt n i with
  | false => exact qreach_no n l hl i h w
  | true =>
    obtain ⟨h0, h1⟩ := isPt_iff.1 h
    obtain ⟨a, rfl⟩ := Int.eq_ofNat_of_zero_le h0
    exact qreach_in n l hl a (by omega) w
end Go.Proofs.YtopckkdmldhmlaaDoor
