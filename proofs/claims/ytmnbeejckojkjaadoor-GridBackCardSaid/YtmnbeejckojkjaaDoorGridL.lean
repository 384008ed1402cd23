/-
  GridLeast and GridBack: they return true. Conditions: 64 words below 2^64; the table of math/bits in memory.
-/
import Derived.Test.YtmnbeejckojkjaaDoorGridK
namespace Go.Proofs.YtmnbeejckojkjaaDoor
open Go.RowKit RM

/-- A union. -/
def orF (f : Nat → Nat) (xs : List Nat) : Nat := xs.foldl (fun a q => a ||| f q) 0
theorem orF_take (f : Nat → Nat) (xs : List Nat) (j : Nat) (h : j < xs.length) : orF f (xs.take (j + 1)) = orF f (xs.take j) ||| f (xs.getD j 0) := by
  have hs : ∀ (ys : List Nat) (q : Nat), orF f (ys ++ [q]) = orF f ys ||| f q := fun ys q => by simp [orF]
  rw [List.take_succ_eq_append_getElem h, hs, List.getD_eq_getElem?_getD, List.getElem?_eq_getElem h]; rfl
theorem orF_lt {f : Nat → Nat} (hf : ∀ q, f q < 18446744073709551616) (xs : List Nat) : orF f xs < 18446744073709551616 := by
  suffices ∀ (xs : List Nat) (a : Nat), a < 2 ^ 64 → xs.foldl (fun a q => a ||| f q) a < 2 ^ 64 from this xs 0 (by omega)
  intro xs
  induction xs with
  | nil => intro a ha; exact ha
  | cons i xs ih => intro a ha; exact ih _ (Nat.or_lt_two_pow ha (hf i))
theorem orF_bit (f : Nat → Nat) (xs : List Nat) (j : Nat) : (orF f xs).testBit j = xs.any fun q => (f q).testBit j := by
  suffices ∀ (xs : List Nat) (a : Nat), (xs.foldl (fun a q => a ||| f q) a).testBit j = (a.testBit j || xs.any fun q => (f q).testBit j) by
    have := this xs 0
    simpa [orF] using this
  intro xs
  induction xs with
  | nil => intro a; simp
  | cons i xs ih => intro a; rw [List.foldl_cons, ih, Nat.testBit_or, List.any_cons, Bool.or_assoc]
/-- A closed word is the union of its owners' rules. -/
theorem back_eq {n : Int} {l : List Nat} (v : Nat) (hri : rightB n l = true) :
    orF (fun o => gRule n l (o : Int) (gReaders n l (gClose n l v) (o : Int))) (MM.els (gOwners n l (gClose n l v))) = gClose n l v := by
  obtain ⟨p, h1, hp, hn, hpp, _⟩ := right_has hri
  have hS := right_closed hri
  rw [hpp] at hS
  have hc : gClose n l v = clW p (bt l) v := by unfold gClose; rw [hri, hpp]; rfl
  have hd := clW_dcl hp hS v
  have ht := clW_tight p (bt l) v
  have hlt := clW_lt p (bt l) v
  rw [hc]
  generalize clW p (bt l) v = c at *
  have hrd : ∀ q, q < p → ∀ y, y < p → (gReaders n l c (q : Int)).testBit y = !ob c q y := fun q hq y hy => by
    unfold gReaders
    rw [hri, isPt_nat, hpp, show decide (q < p) = true by simpa using hq]
    simp only [Bool.and_self, if_true, Int.toNat_natCast]
    exact ofP_at (by omega) hy
  have hru : ∀ q, q < p → ∀ s, gRule n l (q : Int) s = clW p (bt l) (ruleW p (bt l) q s) := fun q hq s => by
    unfold gRule
    rw [hri, isPt_nat, hpp, show decide (q < p) = true by simpa using hq]
    simp only [Bool.and_self, if_true, Int.toNat_natCast]
  have hrw : ∀ q s a y, a < p → y < p → ob (ruleW p (bt l) q s) a y = (decide (a = q) && !rdP p (bt l) s y) := fun q s a y ha hy => ob_in hp ha hy
  have hrp : ∀ s y, rdP p (bt l) s y = true ↔ ∃ z, z < p ∧ s.testBit z = true ∧ bt l z y = true := fun s y => by
    unfold rdP
    simp only [List.any_eq_true, List.mem_range, Bool.and_eq_true]
  have how : ∀ q, q ∈ MM.els (gOwners n l c) ↔ q < p ∧ ∃ x, x < p ∧ ob c q x = true := fun q => by
    rw [MM.mem_els]
    unfold gOwners
    rw [hri, hpp, if_pos rfl, MM.ofP_bit]
    simp only [Bool.and_eq_true, decide_eq_true_eq, List.any_eq_true, List.mem_range]
    constructor
    · rintro ⟨_, _, h3, x, h4, h5⟩; exact ⟨h3, x, h4, h5⟩
    · rintro ⟨h3, x, h4, h5⟩; exact ⟨by omega, by omega, h3, x, h4, h5⟩
  refine ob_ext (orF_lt (fun q => gRule_lt _ _ _ _) _) hlt fun o x ho hx => ?_
  rw [Bool.eq_iff_iff]
  unfold ob
  rw [orF_bit, List.any_eq_true]
  constructor
  · rintro ⟨q, hq, h⟩
    obtain ⟨hqp, _⟩ := (how q).1 hq
    rw [hru q hqp] at h
    have hs : MM.subN (clW p (bt l) (ruleW p (bt l) q (gReaders n l c (q : Int)))) c = true := clW_least hp hd fun a y ha hy h2 => by
      rw [hrw _ _ _ _ ha hy, Bool.and_eq_true, decide_eq_true_eq] at h2
      obtain ⟨rfl, h3⟩ := h2
      cases h4 : ob c a y with
      | true => rfl
      | false =>
        have : rdP p (bt l) (gReaders n l c (a : Int)) y = true := (hrp _ _).2 ⟨y, hy, by rw [hrd a ha y hy, h4]; rfl, hS.1 y hy⟩
        rw [this] at h3
        cases h3
    exact sub_ob.1 hs o x ho hx h
  · intro h
    obtain ⟨hop, hxp⟩ := ht o x ho hx h
    refine ⟨o, (how o).2 ⟨hop, x, hxp, h⟩, ?_⟩
    rw [hru o hop]
    refine clW_has hp hS hop hxp ?_
    rw [hrw _ _ _ _ hop hxp]
    cases h4 : rdP p (bt l) (gReaders n l c (o : Int)) x with
    | false => simp
    | true =>
      obtain ⟨z, hz, h5, h6⟩ := (hrp _ _).1 h4
      rw [hrd o hop z hz] at h5
      have := hd o z o x hop hz hop hxp h (hS.1 o hop) h6
      rw [this] at h5
      cases h5
theorem top_eq {n : Int} {l : List Nat} {p : Nat} (hri : rightB n l = true) (hpp : pts n = p) : gTop n l = mkW p fun _ _ => true := by unfold gTop; rw [hri, hpp]; rfl
theorem close_eq {n : Int} {l : List Nat} {p v : Nat} (hri : rightB n l = true) (hpp : pts n = p) : gClose n l v = clW p (bt l) v := by unfold gClose; rw [hri, hpp]; rfl
theorem least1 {n : Int} {l : List Nat} (v : Nat) (hri : rightB n l = true) : MM.subN (v &&& gTop n l) (gClose n l v) = true := by
  obtain ⟨p, h1, hp, hn, hpp, _⟩ := right_has hri
  have hS := right_closed hri
  rw [hpp] at hS
  rw [top_eq hri hpp, close_eq hri hpp]
  refine sub_ob.2 fun o x ho hx h => ?_
  rw [ob_and, Bool.and_eq_true] at h
  obtain ⟨h2, h3⟩ := Tight.mk p (fun _ _ => true) o x ho hx h.2
  exact clW_has hp hS h2 h3 h.1
theorem least2 {n : Int} {l : List Nat} (v : Nat) (hri : rightB n l = true) : gClose n l (gClose n l v) = gClose n l v := by
  obtain ⟨p, h1, hp, hn, hpp, _⟩ := right_has hri
  have hS := right_closed hri
  rw [hpp] at hS
  rw [close_eq hri hpp, close_eq hri hpp]
  exact clW_clW hp hS v
theorem least3 {n : Int} {l : List Nat} (v : Nat) (hri : rightB n l = true) : MM.subN (gClose n l v) (gTop n l) = true := by
  obtain ⟨p, h1, hp, hn, hpp, _⟩ := right_has hri
  rw [top_eq hri hpp, close_eq hri hpp]
  refine sub_ob.2 fun o x ho hx h => ?_
  obtain ⟨h2, h3⟩ := clW_tight p (bt l) v o x ho hx h
  rw [ob_in hp h2 h3]
theorem least4 {n : Int} {l : List Nat} (v u : Nat) (hri : rightB n l = true) (h : MM.subN v (gClose n l u) = true) : MM.subN (gClose n l v) (gClose n l u) = true := by
  obtain ⟨p, h1, hp, hn, hpp, _⟩ := right_has hri
  have hS := right_closed hri
  rw [hpp] at hS
  rw [close_eq hri hpp] at h ⊢
  rw [close_eq hri hpp]
  exact clW_least hp (clW_dcl hp hS u) fun o x ho hx h2 => sub_ob.1 h o x (by omega) (by omega) h2
theorem least5 {n : Int} {l : List Nat} (v u : Nat) (hri : rightB n l = true) : gClosed n l (gClose n l v ||| gClose n l u) = true := by
  obtain ⟨p, h1, hp, hn, hpp, _⟩ := right_has hri
  have hS := right_closed hri
  rw [hpp] at hS
  unfold gClosed
  rw [hri, close_eq hri hpp, close_eq hri hpp, close_eq hri hpp, clW_or hp hS]
  simp
theorem least6 {n : Int} {l : List Nat} (v u : Nat) (hri : rightB n l = true) : gClosed n l (gClose n l v &&& gClose n l u) = true := by
  obtain ⟨p, h1, hp, hn, hpp, _⟩ := right_has hri
  have hS := right_closed hri
  rw [hpp] at hS
  unfold gClosed
  rw [hri, close_eq hri hpp, close_eq hri hpp, close_eq hri hpp, clW_and hp hS]
  simp

set_option maxHeartbeats 4000000 in
theorem gridLeast_law (n : Int) (l : List Nat) (hl : RW l) (v : Nat) (hv : v < 18446744073709551616) (u : Nat) (hu : u < 18446744073709551616) (w : World) (hT : Tab w) :
    Calls Tryd.prog 5 #[.agg (rv n l), .int .u64 (v : Int), .int .u64 (u : Int)] w fun e w' => e = .returned (.bool true) ∧ Below w.heap.size w w' := by
  have hr1 := RelAt.new w n l
  have hb : Below w.heap.size w (w.alloc (.cells (rv n l) 25)) := (Below.refl _ _).alloc (Nat.le_refl _) _
  have HR : Hid (∀ w, Calls Tryd.prog 8 #[.agg (rv n l)] w fun e w' => e = .returned (.bool (rightB n l)) ∧ Below w.heap.size w w') := gright_any n l hl
  have HB := Lib.hid hb; clear hb
  cases hri : rightB n l with
  | false =>
    rw [hri] at HR
    clear hri
    have HT := Lib.hid hT; clear hT
    go_enter Tryd.func5, Tryd.ntmps5
    go_wp2_with (refine wpList_loadRel rfl _ rfl w.heap.size rfl n l hl hr1 ?_)
    refine (HR.out _).mono ?_
    rintro e w1 ⟨rfl, hb1⟩
    have HB1 := Lib.hid (HB.out.trans (hb1.mono HB.out.size)); clear hb1
    go_wp2_with fail
    refine (galive_any _ (HT.out.below HB1.out)).mono ?_
    rintro e w2 ⟨rfl, hb2⟩
    have HB2 := Lib.hid (HB1.out.trans (hb2.mono HB1.out.size)); clear hb2
    go_wp2_with fail
    go_ret
    exact ⟨rfl, HB2.out⟩
  | true =>
    rw [hri] at HR
    have HTO : Hid (∀ w, Calls Tryd.prog 10 #[.agg (rv n l)] w fun e w' => e = .returned (.int .u64 ((gTop n l : Nat) : Int)) ∧ Below w.heap.size w w') := gtop_any n l hl
    have HCV : Hid (∀ w, Tab w → Calls Tryd.prog 15 #[.agg (rv n l), .int .u64 (v : Int)] w fun e w' => e = .returned (.int .u64 ((gClose n l v : Nat) : Int)) ∧ Below w.heap.size w w') := fun w h => gclose_any n l hl v hv w h
    have HCU : Hid (∀ w, Tab w → Calls Tryd.prog 15 #[.agg (rv n l), .int .u64 (u : Int)] w fun e w' => e = .returned (.int .u64 ((gClose n l u : Nat) : Int)) ∧ Below w.heap.size w w') := fun w h => gclose_any n l hl u hu w h
    have HCA : Hid (∀ w, Tab w → Calls Tryd.prog 15 #[.agg (rv n l), .int .u64 ((gClose n l v : Nat) : Int)] w fun e w' => e = .returned (.int .u64 ((gClose n l v : Nat) : Int)) ∧ Below w.heap.size w w') := fun w h => by
      have h3 := gclose_any n l hl (gClose n l v) (gClose_lt _ _ _) w h
      rw [least2 v hri] at h3; exact h3
    have HCO : Hid (∀ w, Tab w → Calls Tryd.prog 16 #[.agg (rv n l), .int .u64 ((gClose n l v ||| gClose n l u : Nat) : Int)] w fun e w' => e = .returned (.bool true) ∧ Below w.heap.size w w') := fun w h => by
      have h3 := gclosed_any n l hl (gClose n l v ||| gClose n l u) (Nat.or_lt_two_pow (n := 64) (gClose_lt _ _ _) (gClose_lt _ _ _)) w h
      rw [least5 v u hri] at h3; exact h3
    have HCN : Hid (∀ w, Tab w → Calls Tryd.prog 16 #[.agg (rv n l), .int .u64 ((gClose n l v &&& gClose n l u : Nat) : Int)] w fun e w' => e = .returned (.bool true) ∧ Below w.heap.size w w') := fun w h => by
      have h3 := gclosed_any n l hl (gClose n l v &&& gClose n l u) (Nat.lt_of_le_of_lt Nat.and_le_left (gClose_lt _ _ _)) w h
      rw [least6 v u hri] at h3; exact h3
    have ha := gClose_lt n l v
    have hbb := gClose_lt n l u
    have htt := gTop_lt n l
    have hvt : v &&& gTop n l < 18446744073709551616 := Nat.lt_of_le_of_lt Nat.and_le_left hv
    have HS1 : Hid (∀ w, Calls Tryd.prog 24 #[.int .u64 ((v &&& gTop n l : Nat) : Int), .int .u64 ((gClose n l v : Nat) : Int)] w fun e w' => e = .returned (.bool true) ∧ w = w') := fun w => by
      have h := sub_any (v &&& gTop n l) (gClose n l v) hvt ha w
      rw [least1 v hri] at h; exact h
    have HS2 : Hid (∀ w, Calls Tryd.prog 24 #[.int .u64 ((gClose n l v : Nat) : Int), .int .u64 ((gTop n l : Nat) : Int)] w fun e w' => e = .returned (.bool true) ∧ w = w') := fun w => by
      have h := sub_any (gClose n l v) (gTop n l) ha htt w
      rw [least3 v hri] at h; exact h
    have HS3 : Hid (∀ w, Calls Tryd.prog 24 #[.int .u64 (v : Int), .int .u64 ((gClose n l u : Nat) : Int)] w fun e w' => e = .returned (.bool (MM.subN v (gClose n l u))) ∧ w = w') := fun w => sub_any v (gClose n l u) hv hbb w
    have HS4 : Hid (MM.subN v (gClose n l u) = true → ∀ w, Calls Tryd.prog 24 #[.int .u64 ((gClose n l v : Nat) : Int), .int .u64 ((gClose n l u : Nat) : Int)] w fun e w' => e = .returned (.bool true) ∧ w = w') := fun hs w => by
      have h := sub_any (gClose n l v) (gClose n l u) ha hbb w
      rw [least4 v u hri hs] at h; exact h
    have e1 : bits BinOp.and IntKind.u64 (v : Int) ((gTop n l : Nat) : Int) = ((v &&& gTop n l : Nat) : Int) := u64_and_nat v _ hv htt
    have e2 : bits BinOp.or IntKind.u64 ((gClose n l v : Nat) : Int) ((gClose n l u : Nat) : Int) = ((gClose n l v ||| gClose n l u : Nat) : Int) := u64_or_nat _ _ ha hbb
    have e3 : bits BinOp.and IntKind.u64 ((gClose n l v : Nat) : Int) ((gClose n l u : Nat) : Int) = ((gClose n l v &&& gClose n l u : Nat) : Int) := u64_and_nat _ _ ha hbb
    clear hri
    generalize MM.subN v (gClose n l u) = d at *
    generalize gClose n l v = a at *
    generalize gClose n l u = b at *
    generalize gTop n l = t at *
    generalize v &&& t = vt at *
    generalize a ||| b = ab at *
    generalize a &&& b = an at *
    have HT := Lib.hid hT; clear hT
    go_enter Tryd.func5, Tryd.ntmps5
    go_wp2_with (refine wpList_loadRel rfl _ rfl w.heap.size rfl n l hl hr1 ?_)
    refine (HR.out _).mono ?_
    rintro e w1 ⟨rfl, hb1⟩
    have r1 := hr1.below hb1 hr1.lt
    have HB1 := Lib.hid (HB.out.trans (hb1.mono HB.out.size)); clear hb1 hr1 HB
    obtain ⟨S, HS, pW, keepS⟩ := ex_gen w1
    have pR := fun w' h => r1.below (pW w' h) r1.lt
    have PB : Hid (∀ w', S w' → Below w.heap.size w w') := fun w' h => HB1.out.trans ((pW w' h).mono HB1.out.size)
    clear pW r1 HB1
    go_wp2_with fail
    refine wp_region_ord S [(0, true), (1, true), (3, true), (4, true), (2, false), (5, false), (6, true), (7, true)] (by kernel_rfl) (by kernel_rfl) rfl (by kernel_rfl) HS.out ?_
    iterate 4
      (refine wpOrd_step (o := ?_) ?_ ?_; rotate_left 1; (simp only [List.getElem?_toArray, List.getElem?_cons_succ, List.getElem?_cons_zero]; with_reducible rfl))
      (first
          | (refine wpOrd_skip (by rfl) ?_)
          | (refine wpOrd_take (by rfl) (take_loadRel _ rfl _ rfl _ _ hl pR) ?_)
          | (refine wpOrd_take (v := ?_) (by rfl) ?_ ?_; rotate_left 1; (intro wx hSx; go_simp; try with_reducible rfl)))
      (try simp only [Act.put, List.setIfInBounds_toArray, List.set_cons_zero, List.set_cons_succ])
    (refine wpOrd_solo (o := ?_) ?_ ?_; rotate_left 1; (simp only [List.getElem?_toArray, List.getElem?_cons_succ, List.getElem?_cons_zero]; with_reducible rfl))
    intro K hK
    go_simp
    go_at_call 15
    refine (HCV.out _ (HT.out.below (PB.out _ HS.out))).mono ?_
    rintro e w3 ⟨rfl, hb⟩
    have hS := keepS _ _ HS.out hb
    clear HS
    have HS := Lib.hid hS; clear hS hb
    refine hK.out _ _ HS.out ?_
    clear hK K
    (try simp only [Act.put, List.setIfInBounds_toArray, List.set_cons_zero, List.set_cons_succ])
    (refine wpOrd_solo (o := ?_) ?_ ?_; rotate_left 1; (simp only [List.getElem?_toArray, List.getElem?_cons_succ, List.getElem?_cons_zero]; with_reducible rfl))
    intro K hK
    go_simp
    go_at_call 15
    refine (HCU.out _ (HT.out.below (PB.out _ HS.out))).mono ?_
    rintro e w4 ⟨rfl, hb⟩
    have hS := keepS _ _ HS.out hb
    clear HS
    have HS := Lib.hid hS; clear hS hb
    refine hK.out _ _ HS.out ?_
    clear hK K
    (try simp only [Act.put, List.setIfInBounds_toArray, List.set_cons_zero, List.set_cons_succ])
    iterate 2
      (refine wpOrd_step (o := ?_) ?_ ?_; rotate_left 1; (simp only [List.getElem?_toArray, List.getElem?_cons_succ, List.getElem?_cons_zero]; with_reducible rfl))
      (first
          | (refine wpOrd_skip (by rfl) ?_)
          | (refine wpOrd_take (v := ?_) (by rfl) ?_ ?_; rotate_left 1; (intro wx hSx; go_simp; try with_reducible rfl)))
      (try simp only [Act.put, List.setIfInBounds_toArray, List.set_cons_zero, List.set_cons_succ])
    refine wpOrd_done ?_
    have r4 := pR _ HS.out
    have HB4 := Lib.hid (PB.out _ HS.out)
    clear pR PB HS keepS
    go_wp2_with (refine wpList_loadRel rfl _ rfl w.heap.size rfl n l hl r4 ?_)
    refine (HTO.out _).mono ?_
    rintro e w5 ⟨rfl, hb5⟩
    have r5 := r4.below hb5 r4.lt
    have HB5 := Lib.hid (HB4.out.trans (hb5.mono HB4.out.size)); clear hb5 r4 HB4
    go_wp2_with (first | (go_at_call 24; refine (HS1.out _).mono ?_; rintro e w' ⟨rfl, rfl⟩) | (refine wpList_loadRel rfl _ rfl w.heap.size rfl n l hl r5 ?_))
    refine (HCA.out _ (HT.out.below HB5.out)).mono ?_
    rintro e w6 ⟨rfl, hb6⟩
    have r6 := r5.below hb6 r5.lt
    have HB6 := Lib.hid (HB5.out.trans (hb6.mono HB5.out.size)); clear hb6 r5 HB5
    go_wp2_with (refine wpList_loadRel rfl _ rfl w.heap.size rfl n l hl r6 ?_)
    refine (HTO.out _).mono ?_
    rintro e w7 ⟨rfl, hb7⟩
    have r7 := r6.below hb7 r6.lt
    have HB7 := Lib.hid (HB6.out.trans (hb7.mono HB6.out.size)); clear hb7 r6 HB6
    go_wp2_with fail
    refine (HS2.out _).mono ?_
    rintro e w' ⟨rfl, rfl⟩
    go_wp2_with fail
    refine (HS3.out _).mono ?_
    rintro e w' ⟨rfl, rfl⟩
    cases d with
    | true =>
      go_wp2_with fail
      refine (HS4.out (by simp) _).mono ?_
      rintro e w' ⟨rfl, rfl⟩
      go_wp2_with (refine wpList_loadRel rfl _ rfl w.heap.size rfl n l hl r7 ?_)
      refine (HCO.out _ (HT.out.below HB7.out)).mono ?_
      rintro e w8 ⟨rfl, hb8⟩
      have r8 := r7.below hb8 r7.lt
      have HB8 := Lib.hid (HB7.out.trans (hb8.mono HB7.out.size)); clear hb8 r7 HB7
      go_wp2_with (refine wpList_loadRel rfl _ rfl w.heap.size rfl n l hl r8 ?_)
      refine (HCN.out _ (HT.out.below HB8.out)).mono ?_
      rintro e w9 ⟨rfl, hb9⟩
      have HB9 := Lib.hid (HB8.out.trans (hb9.mono HB8.out.size)); clear hb9 r8 HB8
      go_wp2_with fail
      refine (galive_any _ (HT.out.below HB9.out)).mono ?_
      rintro e w10 ⟨rfl, hb10⟩
      have HB10 := Lib.hid (HB9.out.trans (hb10.mono HB9.out.size)); clear hb10
      go_wp2_with fail
      go_ret
      exact ⟨rfl, HB10.out⟩
    | false =>
      go_wp2_with (refine wpList_loadRel rfl _ rfl w.heap.size rfl n l hl r7 ?_)
      refine (HCO.out _ (HT.out.below HB7.out)).mono ?_
      rintro e w8 ⟨rfl, hb8⟩
      have r8 := r7.below hb8 r7.lt
      have HB8 := Lib.hid (HB7.out.trans (hb8.mono HB7.out.size)); clear hb8 r7 HB7
      go_wp2_with (refine wpList_loadRel rfl _ rfl w.heap.size rfl n l hl r8 ?_)
      refine (HCN.out _ (HT.out.below HB8.out)).mono ?_
      rintro e w9 ⟨rfl, hb9⟩
      have HB9 := Lib.hid (HB8.out.trans (hb9.mono HB8.out.size)); clear hb9 r8 HB8
      go_wp2_with fail
      refine (galive_any _ (HT.out.below HB9.out)).mono ?_
      rintro e w10 ⟨rfl, hb10⟩
      have HB10 := Lib.hid (HB9.out.trans (hb10.mono HB9.out.size)); clear hb10
      go_wp2_with fail
      go_ret
      exact ⟨rfl, HB10.out⟩

set_option maxHeartbeats 4000000 in
theorem gridBack_law (n : Int) (l : List Nat) (hl : RW l) (v : Nat) (hv : v < 18446744073709551616) (w : World) (hT : Tab w) :
    Calls Tryd.prog 6 #[.agg (rv n l), .int .u64 (v : Int)] w fun e w' => e = .returned (.bool true) ∧ Below w.heap.size w w' := by
  have hr1 := RelAt.new w n l
  have hb : Below w.heap.size w (w.alloc (.cells (rv n l) 25)) := (Below.refl _ _).alloc (Nat.le_refl _) _
  have HR : Hid (∀ w, Calls Tryd.prog 8 #[.agg (rv n l)] w fun e w' => e = .returned (.bool (rightB n l)) ∧ Below w.heap.size w w') := gright_any n l hl
  have HB := Lib.hid hb; clear hb
  cases hri : rightB n l with
  | false =>
    rw [hri] at HR
    clear hri
    have HT := Lib.hid hT; clear hT
    go_enter Tryd.func6, Tryd.ntmps6
    go_wp2_with (refine wpList_loadRel rfl _ rfl w.heap.size rfl n l hl hr1 ?_)
    refine (HR.out _).mono ?_
    rintro e w1 ⟨rfl, hb1⟩
    have HB1 := Lib.hid (HB.out.trans (hb1.mono HB.out.size)); clear hb1
    go_wp2_with fail
    refine (galive_any _ (HT.out.below HB1.out)).mono ?_
    rintro e w2 ⟨rfl, hb2⟩
    have HB2 := Lib.hid (HB1.out.trans (hb2.mono HB1.out.size)); clear hb2
    go_wp2_with fail
    go_ret
    exact ⟨rfl, HB2.out⟩
  | true =>
    rw [hri] at HR
    have HCV : Hid (∀ w, Tab w → Calls Tryd.prog 15 #[.agg (rv n l), .int .u64 (v : Int)] w fun e w' => e = .returned (.int .u64 ((gClose n l v : Nat) : Int)) ∧ Below w.heap.size w w') := fun w h => gclose_any n l hl v hv w h
    have hc := gClose_lt n l v
    have hback := back_eq v hri
    clear hri
    generalize gClose n l v = c at *
    have HOW : Hid (∀ w, Calls Tryd.prog 22 #[.agg (rv n l), .int .u64 (c : Int)] w fun e w' => e = .returned (.int .u64 ((gOwners n l c : Nat) : Int)) ∧ Below w.heap.size w w') := fun w => gowners_any n l hl c hc w
    have HRD : Hid (∀ (o : Nat) w, Calls Tryd.prog 20 #[.agg (rv n l), .int .u64 (c : Int), .int .i64 (o : Int)] w fun e w' => e = .returned (.int .u64 ((gReaders n l c (o : Int) : Nat) : Int)) ∧ Below w.heap.size w w') := fun o w => greaders_any n l hl c hc (o : Int) w
    have HRU : Hid (∀ (o : Nat) w, Tab w → Calls Tryd.prog 18 #[.agg (rv n l), .int .i64 (o : Int), .int .u64 ((gReaders n l c (o : Int) : Nat) : Int)] w fun e w' => e = .returned (.int .u64 ((gRule n l (o : Int) (gReaders n l c (o : Int)) : Nat) : Int)) ∧ Below w.heap.size w w') := fun o w h => grule_any n l hl (o : Int) (gReaders n l c (o : Int)) (gReaders_lt _ _ _ _) w h
    have hrl : ∀ o : Nat, gRule n l (o : Int) (gReaders n l c (o : Int)) < 18446744073709551616 := fun o => gRule_lt _ _ _ _
    have hol := gOwners_lt n l c
    generalize hf : (fun o : Nat => gRule n l (o : Int) (gReaders n l c (o : Int))) = f at hback
    have hfo : ∀ o : Nat, gRule n l (o : Int) (gReaders n l c (o : Int)) = f o := fun o => by rw [← hf]
    simp only [hfo] at HRU hrl
    clear hf hfo
    generalize gOwners n l c = ow at *
    have h64 := MM.els_length ow
    have HLI : Hid (∀ w, Tab w → Calls Tryd.prog 25 #[.int .u64 (ow : Int)] w fun e w' => ∃ A c, e = .returned (.slice A (MM.els ow).length c) ∧ OwnI w' w.heap.size A c (ei (MM.els ow)) ∧ Below w.heap.size w w') := fun w h => list_any ow hol w h
    have HOT : Hid (∀ k, k < (MM.els ow).length → orF f ((MM.els ow).take (k + 1)) = orF f ((MM.els ow).take k) ||| f ((MM.els ow).getD k 0)) := fun k h => orF_take f _ k h
    have HOL : Hid (∀ k, orF f ((MM.els ow).take k) < 18446744073709551616) := fun k => orF_lt hrl _
    have HBK : Hid (orF f ((MM.els ow).take (MM.els ow).length) = c) := by rw [List.take_length]; exact hback
    have HGD : Hid (∀ k, k < (MM.els ow).length → (ei (MM.els ow)).getD k 0 = (((MM.els ow).getD k 0 : Nat) : Int)) := fun k h => by
      simp [ei, List.getD_eq_getElem?_getD, List.getElem?_eq_getElem h]
    have HEL : Hid ((ei (MM.els ow)).length = (MM.els ow).length) := ei_length _
    clear hback
    generalize hxs : MM.els ow = xs at *
    clear hxs
    generalize hm : xs.length = m at *
    have HM := Lib.hid hm; clear hm
    have HT := Lib.hid hT; clear hT
    go_enter Tryd.func6, Tryd.ntmps6
    go_wp2_with (refine wpList_loadRel rfl _ rfl w.heap.size rfl n l hl hr1 ?_)
    refine (HR.out _).mono ?_
    rintro e w1 ⟨rfl, hb1⟩
    have r1 := hr1.below hb1 hr1.lt
    have HB1 := Lib.hid (HB.out.trans (hb1.mono HB.out.size)); clear hb1 hr1 HB
    go_wp2_with (refine wpList_loadRel rfl _ rfl w.heap.size rfl n l hl r1 ?_)
    refine (HCV.out _ (HT.out.below HB1.out)).mono ?_
    rintro e w2 ⟨rfl, hb2⟩
    have r2 := r1.below hb2 r1.lt
    have HB2 := Lib.hid (HB1.out.trans (hb2.mono HB1.out.size)); clear hb2 r1 HB1
    go_wp2_with (refine wpList_loadRel rfl _ rfl w.heap.size rfl n l hl r2 ?_)
    refine (HOW.out _).mono ?_
    rintro e w3 ⟨rfl, hb3⟩
    have r3 := r2.below hb3 r2.lt
    have HB3 := Lib.hid (HB2.out.trans (hb3.mono HB2.out.size)); clear hb3 r2 HB2
    go_wp2_with fail
    refine (HLI.out _ (HT.out.below HB3.out)).mono ?_
    rintro e w4 ⟨A, cp, rfl, hown, hb4⟩
    have r4 := r3.below hb4 r3.lt
    have HI := Lib.hid hown.ints; clear hown
    have HB4 := Lib.hid (HB3.out.trans (hb4.mono HB3.out.size)); clear hb4 r3 HB3
    go_wp2_with fail
    go_loopw [6, 9, 23] (fun av _ kv wr => ∃ (k : Nat), k ≤ m ∧ kv = .int .i64 k ∧ av = .int .u64 ((orF f (xs.take k) : Nat) : Int) ∧ RelAt wr w.heap.size n l ∧ Hid (Ints wr A (ei xs)) ∧ Hid (Below w.heap.size w wr)) (fun _ _ kv _ => m - (intOf kv).toNat)
    case atStart => exact ⟨0, by omega, rfl, by rw [List.take_zero]; rfl, r4, HI, HB4⟩
    case round =>
      clear r4 HI HB4
      obtain ⟨k, hk, rfl, rfl, rr, HI, HB⟩ := hrel
      by_cases hlt : k < m
      · have hne : ei xs ≠ [] := by intro h; have h2 := HEL.out; rw [h] at h2; simp at h2; omega
        obtain ⟨bk, o, rfl, hcc⟩ := HI.out.cell hne
        have hck := hcc k (by rw [HEL.out]; exact hlt)
        rw [HGD.out k hlt] at hck
        clear hcc hne
        have HO2 := Lib.hid (HOT.out k hlt)
        have hql := HOL.out k
        generalize xs.getD k 0 = t at *
        have HRDT := Lib.hid (HRD.out t)
        have HRUT := Lib.hid (HRU.out t)
        have hft := hrl t
        generalize gReaders n l c (t : Int) = rd at *
        generalize f t = ft at *
        generalize orF f (xs.take k) = q at *
        have e1 : bits BinOp.or IntKind.u64 (q : Int) (ft : Int) = ((q ||| ft : Nat) : Int) := u64_or_nat q ft hql hft
        have hm0 : (0 : Int) ≤ (k : Int) := by omega
        have hkm : (k : Int) < (m : Int) := by omega
        obtain ⟨S, HS, pb, keepS⟩ := ex_gen wr
        have pR := fun w' h => rr.below (pb w' h) rr.lt
        have PI : Hid (∀ w', S w' → Ints w' (some ⟨bk, o, none⟩) (ei xs)) := fun w' h => HI.out.below (pb w' h)
        have PB : Hid (∀ w', S w' → Below w.heap.size w w') := fun w' h => HB.out.trans ((pb w' h).mono HB.out.size)
        clear pb
        go_wp2_with fail
        refine wp_region_ord S [(0, true), (1, true), (2, true), (3, true), (4, true), (5, true), (6, false), (7, false), (8, true), (9, true)] (by kernel_rfl) (by kernel_rfl) rfl (by kernel_rfl) HS.out ?_
        iterate 6
          (refine wpOrd_step (o := ?_) ?_ ?_; rotate_left 1; (simp only [List.getElem?_toArray, List.getElem?_cons_succ, List.getElem?_cons_zero]; with_reducible rfl))
          (first
              | (refine wpOrd_skip (by rfl) ?_)
              | (refine wpOrd_take (by rfl) (take_loadRel _ rfl _ rfl _ _ hl pR) ?_)
              | (refine wpOrd_take (v := ?_) (by rfl) ?_ ?_; rotate_left 1; (intro wx hSx; go_simp; try with_reducible rfl)))
          (try simp only [Act.put, List.setIfInBounds_toArray, List.set_cons_zero, List.set_cons_succ])
        (refine wpOrd_solo (o := ?_) ?_ ?_; rotate_left 1; (simp only [List.getElem?_toArray, List.getElem?_cons_succ, List.getElem?_cons_zero]; with_reducible rfl))
        intro K hK
        go_simp
        go_at_call 20
        refine (HRDT.out _).mono ?_
        rintro e w5 ⟨rfl, hb⟩
        have hS := keepS _ _ HS.out hb
        clear HS
        have HS := Lib.hid hS; clear hS hb
        refine hK.out _ _ HS.out ?_
        clear hK K
        (try simp only [Act.put, List.setIfInBounds_toArray, List.set_cons_zero, List.set_cons_succ])
        (refine wpOrd_solo (o := ?_) ?_ ?_; rotate_left 1; (simp only [List.getElem?_toArray, List.getElem?_cons_succ, List.getElem?_cons_zero]; with_reducible rfl))
        intro K hK
        go_simp
        go_at_call 18
        refine (HRUT.out _ (HT.out.below (PB.out _ HS.out))).mono ?_
        rintro e w6 ⟨rfl, hb⟩
        have hS := keepS _ _ HS.out hb
        clear HS
        have HS := Lib.hid hS; clear hS hb
        refine hK.out _ _ HS.out ?_
        clear hK K
        (try simp only [Act.put, List.setIfInBounds_toArray, List.set_cons_zero, List.set_cons_succ])
        iterate 2
          (refine wpOrd_step (o := ?_) ?_ ?_; rotate_left 1; (simp only [List.getElem?_toArray, List.getElem?_cons_succ, List.getElem?_cons_zero]; with_reducible rfl))
          (first
              | (refine wpOrd_skip (by rfl) ?_)
              | (refine wpOrd_take (v := ?_) (by rfl) ?_ ?_; rotate_left 1; (intro wx hSx; go_simp; try with_reducible rfl)))
          (try simp only [Act.put, List.setIfInBounds_toArray, List.set_cons_zero, List.set_cons_succ])
        refine wpOrd_done ?_
        have rr2 := pR _ HS.out
        have HI2 := Lib.hid (PI.out _ HS.out)
        have HB2 := Lib.hid (PB.out _ HS.out)
        clear pR PI PB HS keepS rr HI HB hck HRDT HRUT
        go_wp2_with fail
        go_roundw
        case rel => exact ⟨k + 1, by omega, by go_num, by rw [HO2.out], rr2, HI2, HB2⟩
        case measure => simp [intOf]; omega
      · have e : k = m := by omega
        subst e
        have hbk := HBK.out
        rw [hbk]
        clear hbk
        go_wp2_with fail
        refine (galive_any _ (HT.out.below HB.out)).mono ?_
        rintro e w8 ⟨rfl, hb8⟩
        have HB8 := Lib.hid (HB.out.trans (hb8.mono HB.out.size)); clear hb8
        go_wp2_with fail
        go_ret
        exact ⟨rfl, HB8.out⟩
end Go.Proofs.YtmnbeejckojkjaaDoor
