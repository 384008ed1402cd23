/-
  RelateLeast holds. Conditions: 64 words below 2^64; the table of math/bits in memory.
-/
import Derived.Test.YtepmcdneafpmeaaDoorRelR
namespace Go.Proofs.YtepmcdneafpmeaaDoor
open Go.RowKit RM

section
variable {o : Oper} {a : Act} {S : World → Prop}
theorem take_field1 (x : Operand) (ho : o.op = .field 29 x 1) (n : Int) (l : List Nat) (hl : RW l) (hx : a.eval x = .agg (rv n l)) :
    ∀ w, S w → (execOp a.eval o).run Tryd.prog w = .ok (.value (.agg (uv l))) w := by
  intro w _
  unfold execOp
  simp only [ho, hx, Sem.run_bind, Sem.run_pure, Result.andThen_ok, run_field1 n hl]
theorem take_index (x y : Operand) (ho : o.op = .index 27 x y) (l : List Nat) (hl : RW l) (i : Nat) (hi : i < 64) (hx : a.eval x = .agg (uv l)) (hy : a.eval y = .int .i64 (i : Int)) :
    ∀ w, S w → (execOp a.eval o).run Tryd.prog w = .ok (.value (.int .u64 ((l.getD i 0 : Nat) : Int))) w := by
  intro w _
  unfold execOp
  simp only [ho, hx, hy, Sem.run_bind, Sem.run_pure, Result.andThen_ok, run_index hl i hi]
end
/-- What is within: the bits of x without those of y. -/
theorem andNot_zero {x y : Nat} (hy : y < 18446744073709551616) (h : x &&& (18446744073709551615 - y) = 0) (j : Nat) (hj : j < 64) (hb : x.testBit j = true) : y.testBit j = true := by
  have h1 := congrArg (·.testBit j) h
  simp only [Nat.testBit_and, MM.not_bit y j hy, hb, Nat.zero_testBit, Bool.true_and] at h1
  simpa [hj] using h1
theorem least_end {n nb : Int} {l lb : List Nat} (hlb : RW lb) (lo hi : Int) (hc : hasR (pts n : Nat) (cz n l) lo hi = true) (hn : 0 < pts n → nb = (pts n : Int) ∧ closedB nb lb = true)
    (h : ∀ a, a < pts n → (cl n l).getD a 0 &&& (18446744073709551615 - lb.getD a 0) = 0) : hasR nb lb lo hi = true := by
  obtain ⟨a, b, rfl, rfl, ha, hb, h1⟩ := hasR_iff.1 hc
  rw [pts_pts] at ha hb
  rw [bt_cz] at h1
  obtain ⟨h2, h3⟩ := hn (by omega)
  have hp : pts nb = pts n := by rw [h2, pts_pts]
  have hcl := (closedB_iff nb lb).1 h3
  rw [hp] at hcl
  refine hasR_iff.2 ⟨a, b, rfl, rfl, by omega, by omega, ?_⟩
  have hp64 := pts_le n
  refine clo_least hcl (fun x y hx hy hr => ?_) h1
  refine andNot_zero (hlb.lt x) (h x hx) y (by omega) ?_
  show bt (cl n l) x y = true
  rw [bt_cl]; simp [hx, hy, hr]
set_option maxHeartbeats 8000000 in
theorem relateLeast_law (n : Int) (l : List Nat) (hl : RW l) (nb : Int) (lb : List Nat) (hlb : RW lb) (lo hi : Int) (w : World) (hT : Tab w) :
    Calls Tryd.prog 6 #[.agg (rv n l), .agg (rv nb lb), .agg #[.int .i64 lo, .int .i64 hi]] w fun e w' => e = .returned (.bool true) ∧ Below w.heap.size w w' := by
  have HCLO : Hid (∀ w, Calls Tryd.prog 26 #[.agg (rv n l)] w fun e w' => e = .returned (.agg (rv ((pts n : Nat) : Int) (cz n l))) ∧ Below w.heap.size w w') := rclosure_any n l hl
  have HCC : Hid (∀ w, Calls Tryd.prog 20 #[.agg (rv ((pts n : Nat) : Int) (cz n l))] w fun e w' => e = .returned (.bool true) ∧ Below w.heap.size w w') := fun w => by
    have h := rclosed_any (pts n : Nat) (cz n l) (RW.mk _ _) w
    have e : closedB (pts n : Nat) (cz n l) = true := by unfold closedB; rw [cl_cz, cz_cz]; simp
    rw [e] at h; exact h
  have HHA : Hid (∀ w, Calls Tryd.prog 14 #[.agg (rv n l), .int .i64 lo, .int .i64 hi] w fun e w' => e = .returned (.bool (hasR n l lo hi)) ∧ Below w.heap.size w w') := rhas_any n l hl lo hi
  have HHC : Hid (∀ w, Calls Tryd.prog 14 #[.agg (rv ((pts n : Nat) : Int) (cz n l)), .int .i64 lo, .int .i64 hi] w fun e w' => e = .returned (.bool (hasR (pts n : Nat) (cz n l) lo hi)) ∧ Below w.heap.size w w') := rhas_any _ _ (RW.mk _ _) lo hi
  have HAC : Hid (hasR n l lo hi = true → hasR (pts n : Nat) (cz n l) lo hi = true) := fun h => by
    obtain ⟨a, b, rfl, rfl, ha, hb, h1⟩ := hasR_iff.1 h
    exact hasR_iff.2 ⟨a, b, rfl, rfl, by rw [pts_pts]; exact ha, by rw [pts_pts]; exact hb, by rw [bt_cz]; exact clo_has ha hb h1⟩
  have HCLC : Hid (∀ w, Calls Tryd.prog 26 #[.agg (rv ((pts n : Nat) : Int) (cz n l))] w fun e w' => e = .returned (.agg (rv ((pts n : Nat) : Int) (cz n l))) ∧ Below w.heap.size w w') := fun w => by
    have h := rclosure_any (pts n : Nat) (cz n l) (RW.mk _ _) w
    rw [pts_pts, cz_cz] at h; exact h
  have HSC : Hid (∀ w, Calls Tryd.prog 17 #[.agg (rv ((pts n : Nat) : Int) (cz n l)), .agg (rv ((pts n : Nat) : Int) (cz n l))] w fun e w' => e = .returned (.bool true) ∧ Below w.heap.size w w') := fun w => by
    have h := rsame_any (pts n : Nat) (pts n : Nat) (cz n l) (cz n l) (RW.mk _ _) (RW.mk _ _) w
    rw [eqRel_true rfl rfl] at h; exact h
  have HCB : Hid (∀ w, Calls Tryd.prog 20 #[.agg (rv nb lb)] w fun e w' => e = .returned (.bool (closedB nb lb)) ∧ Below w.heap.size w w') := rclosed_any nb lb hlb
  have HHB : Hid (∀ w, Calls Tryd.prog 14 #[.agg (rv nb lb), .int .i64 lo, .int .i64 hi] w fun e w' => e = .returned (.bool (hasR nb lb lo hi)) ∧ Below w.heap.size w w') := rhas_any _ _ hlb lo hi
  have HPL : Hid (∀ w, Calls Tryd.prog 19 #[.agg (rv n l)] w fun e w' => e = .returned (.agg (rv ((pts n : Nat) : Int) (cl n l))) ∧ Below w.heap.size w w') := qplain_any n l hl
  have HEND : Hid (hasR (pts n : Nat) (cz n l) lo hi = true → (0 < pts n → nb = (pts n : Int) ∧ closedB nb lb = true) → (∀ a, a < pts n → (cl n l).getD a 0 &&& (18446744073709551615 - lb.getD a 0) = 0) → hasR nb lb lo hi = true) := fun h1 h2 h3 => least_end hlb lo hi h1 h2 h3
  have hz : RW (cz n l) := RW.mk _ _
  have hc : RW (cl n l) := RW.mk _ _
  have hp := pts_le n
  have HT := Lib.hid hT; clear hT
  generalize hasR n l lo hi = xa at *
  generalize hasR (pts n : Nat) (cz n l) lo hi = xc at *
  generalize hasR nb lb lo hi = xb at *
  generalize closedB nb lb = yb at *
  generalize cz n l = lz at *
  generalize cl n l = lc at *
  generalize pts n = p at *
  go_enter Tryd.func6, Tryd.ntmps6
  go_wp2_with (refine wpList_loadRel rfl _ rfl w.heap.size rfl n l hl (((RelAt.new _ _ _).alloc _).alloc _) ?_)
  refine (HCLO.out _).mono ?_
  rintro e w1 ⟨rfl, hb1⟩
  have ra : RelAt w1 w.heap.size n l := (((RelAt.new w n l).alloc _).alloc _).below hb1 (by simp; omega)
  have rb : RelAt w1 (w.heap.size + 1) nb lb := by
    have h := (RelAt.new (w.alloc (.cells (rv n l) 29)) nb lb).alloc (.cells #[.int .i64 lo, .int .i64 hi] 24)
    simp only [World.size_alloc] at h
    exact h.below hb1 (by simp)
  have q1 : PairAt w1 (w.heap.size + 1 + 1) lo hi := by
    have h := PairAt.new ((w.alloc (.cells (rv n l) 29)).alloc (.cells (rv nb lb) 29)) lo hi
    simp only [World.size_alloc] at h
    exact h.below hb1 (by simp)
  have hb : Below w.heap.size w w1 := ((((Below.refl _ _).alloc (Nat.le_refl _) _).alloc (by simp) _).alloc (by simp; omega) _).trans (hb1.mono (by simp; omega))
  have HB := Lib.hid hb; clear hb hb1
  go_wp2_with (refine wpList_storeRel rfl _ _ rfl w1.heap.size rfl _ _ rfl 0 zs RW.zs hz ?c2 ?_; (case c2 => rw [zero_rel]; exact RelAt.new _ _ _); intro W rc he)
  have ra2 := (ra.alloc (.cells Tryd.zeroCells29 29)).other he (Nat.ne_of_lt ra.lt)
  have rb2 := (rb.alloc (.cells Tryd.zeroCells29 29)).other he (Nat.ne_of_lt rb.lt)
  have q2 := (q1.alloc (.cells Tryd.zeroCells29 29)).other he (Nat.ne_of_lt q1.lt)
  have HW := Lib.hid ((HB.out.alloc HB.out.size (.cells Tryd.zeroCells29 29)).trans (he.below HB.out.size))
  clear he ra rb q1 HB
  generalize w1.heap.size = g at *
  obtain ⟨S, HS, pW, keepS⟩ := ex_gen W
  have pa := fun w' h => ra2.below (pW w' h) ra2.lt
  have pb := fun w' h => rb2.below (pW w' h) rb2.lt
  have pc := fun w' h => rc.below (pW w' h) rc.lt
  have pq := fun w' h => q2.below (pW w' h) q2.lt
  have c0 := fun w' h => (pq w' h).c0
  have c1 := fun w' h => (pq w' h).c1
  have cb := fun w' h => (pb w' h).cell0
  have cc := fun w' h => (pc w' h).cell0
  have PB : Hid (∀ w', S w' → Below w.heap.size w w') := fun w' h => HW.out.trans ((pW w' h).mono HW.out.size)
  clear pW ra2 rb2 rc q2 HW pq
  obtain ⟨xd, HHD, HXD⟩ : ∃ xd : Bool, Hid (∀ w, Calls Tryd.prog 14 #[.agg (rv (p : Int) lz), .int .i64 lo, .int .i64 hi] w fun e w' => e = .returned (.bool xd) ∧ Below w.heap.size w w') ∧ Hid (xa = true → xd = true) := ⟨xc, HHC, HAC⟩
  clear HAC
  have hin : xa = false ∨ (xa = true ∧ xd = true) := by
    cases xa with
    | false => exact .inl rfl
    | true => exact .inr ⟨rfl, HXD.out rfl⟩
  clear HXD
  rcases hin with rfl | ⟨rfl, rfl⟩
  all_goals
    refine wp_region_ord S [(0, true), (1, false), (2, true), (3, true), (4, true), (5, true), (6, true), (7, true), (8, true), (9, false), (10, true), (11, true), (12, true), (13, true), (14, true), (15, true), (16, false), (17, true), (18, true), (19, true), (20, true), (21, true), (23, true), (22, false), (24, false), (25, true), (26, true)] (by kernel_rfl) (by kernel_rfl) rfl (by kernel_rfl) HS.out ?_
    iterate 1
      (refine wpOrd_step (o := ?_) ?_ ?_; rotate_left 1; (simp only [List.getElem?_toArray, List.getElem?_cons_zero]; with_reducible rfl))
      (first
          | (refine wpOrd_skip (by rfl) ?_)
          | (refine wpOrd_take (by rfl) (take_loadRel _ rfl _ rfl _ _ hl pa) ?_)
          | (refine wpOrd_take (by rfl) (take_loadRel _ rfl _ rfl _ _ hlb pb) ?_)
          | (refine wpOrd_take (by rfl) (take_loadRel _ rfl _ rfl _ _ hz pc) ?_)
          | (refine wpOrd_take (v := ?_) (by rfl) ?_ ?_; rotate_left 1; (intro wx hSx; have hc_0 := c0 wx hSx; have hc_1 := c1 wx hSx; have hc_2 := cb wx hSx; have hc_3 := cc wx hSx; go_simp; try with_reducible rfl)))
      (try simp only [Act.put, List.setIfInBounds_toArray, List.set_cons_zero, List.set_cons_succ])
    (refine wpOrd_solo (o := ?_) ?_ ?_; rotate_left 1; (simp only [List.getElem?_toArray, List.getElem?_cons_succ, List.getElem?_cons_zero]; with_reducible rfl))
    intro K hK
    go_simp
    go_at_call 20
    refine (HCC.out _).mono ?_
    rintro e w3 ⟨rfl, hb⟩
    have hS := keepS _ _ HS.out hb
    clear HS
    have HS := Lib.hid hS; clear hS hb
    refine hK.out _ _ HS.out ?_
    clear hK K
    (try simp only [Act.put, List.setIfInBounds_toArray, List.set_cons_zero, List.set_cons_succ])
    iterate 7
      (refine wpOrd_step (o := ?_) ?_ ?_; rotate_left 1; (simp only [List.getElem?_toArray, List.getElem?_cons_succ, List.getElem?_cons_zero]; with_reducible rfl))
      (first
          | (refine wpOrd_skip (by rfl) ?_)
          | (refine wpOrd_take (by rfl) (take_loadRel _ rfl _ rfl _ _ hl pa) ?_)
          | (refine wpOrd_take (by rfl) (take_loadRel _ rfl _ rfl _ _ hlb pb) ?_)
          | (refine wpOrd_take (by rfl) (take_loadRel _ rfl _ rfl _ _ hz pc) ?_)
          | (refine wpOrd_take (v := ?_) (by rfl) ?_ ?_; rotate_left 1; (intro wx hSx; have hc_0 := c0 wx hSx; have hc_1 := c1 wx hSx; have hc_2 := cb wx hSx; have hc_3 := cc wx hSx; go_simp; try with_reducible rfl)))
      (try simp only [Act.put, List.setIfInBounds_toArray, List.set_cons_zero, List.set_cons_succ])
    (refine wpOrd_solo (o := ?_) ?_ ?_; rotate_left 1; (simp only [List.getElem?_toArray, List.getElem?_cons_succ, List.getElem?_cons_zero]; with_reducible rfl))
    intro K hK
    go_simp
    go_at_call 14
    refine (HHA.out _).mono ?_
    rintro e w4 ⟨rfl, hb⟩
    have hS := keepS _ _ HS.out hb
    clear HS
    have HS := Lib.hid hS; clear hS hb
    refine hK.out _ _ HS.out ?_
    clear hK K
    (try simp only [Act.put, List.setIfInBounds_toArray, List.set_cons_zero, List.set_cons_succ])
    iterate 6
      (refine wpOrd_step (o := ?_) ?_ ?_; rotate_left 1; (simp only [List.getElem?_toArray, List.getElem?_cons_succ, List.getElem?_cons_zero]; with_reducible rfl))
      (first
          | (refine wpOrd_skip (by rfl) ?_)
          | (refine wpOrd_take (by rfl) (take_loadRel _ rfl _ rfl _ _ hl pa) ?_)
          | (refine wpOrd_take (by rfl) (take_loadRel _ rfl _ rfl _ _ hlb pb) ?_)
          | (refine wpOrd_take (by rfl) (take_loadRel _ rfl _ rfl _ _ hz pc) ?_)
          | (refine wpOrd_take (v := ?_) (by rfl) ?_ ?_; rotate_left 1; (intro wx hSx; have hc_0 := c0 wx hSx; have hc_1 := c1 wx hSx; have hc_2 := cb wx hSx; have hc_3 := cc wx hSx; go_simp; try with_reducible rfl)))
      (try simp only [Act.put, List.setIfInBounds_toArray, List.set_cons_zero, List.set_cons_succ])
    first
      | (
          (refine wpOrd_solo (o := ?_) ?_ ?_; rotate_left 1; (simp only [List.getElem?_toArray, List.getElem?_cons_succ, List.getElem?_cons_zero]; with_reducible rfl))
          intro K hK
          go_simp
          refine hK.out _ _ HS.out ?_
          clear hK K
          (try simp only [Act.put, List.setIfInBounds_toArray, List.set_cons_zero, List.set_cons_succ]))
      | (
          (refine wpOrd_solo (o := ?_) ?_ ?_; rotate_left 1; (simp only [List.getElem?_toArray, List.getElem?_cons_succ, List.getElem?_cons_zero]; with_reducible rfl))
          intro K hK
          go_simp
          go_at_call 14
          refine (HHD.out _).mono ?_
          rintro e w5 ⟨rfl, hb⟩
          have hS := keepS _ _ HS.out hb
          clear HS
          have HS := Lib.hid hS; clear hS hb
          refine hK.out _ _ HS.out ?_
          clear hK K
          (try simp only [Act.put, List.setIfInBounds_toArray, List.set_cons_zero, List.set_cons_succ]))
    iterate 6
      (refine wpOrd_step (o := ?_) ?_ ?_; rotate_left 1; (simp only [List.getElem?_toArray, List.getElem?_cons_succ, List.getElem?_cons_zero]; with_reducible rfl))
      (first
          | (refine wpOrd_skip (by rfl) ?_)
          | (refine wpOrd_take (by rfl) (take_loadRel _ rfl _ rfl _ _ hl pa) ?_)
          | (refine wpOrd_take (by rfl) (take_loadRel _ rfl _ rfl _ _ hlb pb) ?_)
          | (refine wpOrd_take (by rfl) (take_loadRel _ rfl _ rfl _ _ hz pc) ?_)
          | (refine wpOrd_take (v := ?_) (by rfl) ?_ ?_; rotate_left 1; (intro wx hSx; have hc_0 := c0 wx hSx; have hc_1 := c1 wx hSx; have hc_2 := cb wx hSx; have hc_3 := cc wx hSx; go_simp; try with_reducible rfl)))
      (try simp only [Act.put, List.setIfInBounds_toArray, List.set_cons_zero, List.set_cons_succ])
    (refine wpOrd_solo (o := ?_) ?_ ?_; rotate_left 1; (simp only [List.getElem?_toArray, List.getElem?_cons_succ, List.getElem?_cons_zero]; with_reducible rfl))
    intro K hK
    go_simp
    go_at_call 26
    refine (HCLC.out _).mono ?_
    rintro e w6 ⟨rfl, hb⟩
    have hS := keepS _ _ HS.out hb
    clear HS
    have HS := Lib.hid hS; clear hS hb
    refine hK.out _ _ HS.out ?_
    clear hK K
    (try simp only [Act.put, List.setIfInBounds_toArray, List.set_cons_zero, List.set_cons_succ])
    (refine wpOrd_solo (o := ?_) ?_ ?_; rotate_left 1; (simp only [List.getElem?_toArray, List.getElem?_cons_succ, List.getElem?_cons_zero]; with_reducible rfl))
    intro K hK
    go_simp
    go_at_call 17
    refine (HSC.out _).mono ?_
    rintro e w7 ⟨rfl, hb⟩
    have hS := keepS _ _ HS.out hb
    clear HS
    have HS := Lib.hid hS; clear hS hb
    refine hK.out _ _ HS.out ?_
    clear hK K
    (try simp only [Act.put, List.setIfInBounds_toArray, List.set_cons_zero, List.set_cons_succ])
    iterate 2
      (refine wpOrd_step (o := ?_) ?_ ?_; rotate_left 1; (simp only [List.getElem?_toArray, List.getElem?_cons_succ, List.getElem?_cons_zero]; with_reducible rfl))
      (first
          | (refine wpOrd_skip (by rfl) ?_)
          | (refine wpOrd_take (v := ?_) (by rfl) ?_ ?_; rotate_left 1; (intro wx hSx; go_simp; try with_reducible rfl)))
      (try simp only [Act.put, List.setIfInBounds_toArray, List.set_cons_zero, List.set_cons_succ])
    refine wpOrd_done ?_
    have hcc := cc _ HS.out
    go_wp2_with fail
    clear hcc
    go_loopw [8] (fun iv wr => ∃ (i : Nat), i ≤ p ∧ iv = .int .i64 i ∧ Hid (S wr) ∧ Hid (0 < i → nb = (p : Int) ∧ yb = true) ∧ Hid (∀ a, a < i → lc.getD a 0 &&& (18446744073709551615 - lb.getD a 0) = 0)) (fun iv _ => p - (intOf iv).toNat)
    case atStart => exact ⟨0, by omega, rfl, HS, fun h => by omega, fun a h => by omega⟩
    case round =>
      clear HS
      obtain ⟨i, hi, rfl, HS, HN, HM⟩ := hrel
      have hcc := cc _ HS.out
      by_cases hlt : i < p
      · have hx := hc.lt i
        have hy := hlb.lt i
        have e1 : bits BinOp.andNot IntKind.u64 ((lc.getD i 0 : Nat) : Int) ((lb.getD i 0 : Nat) : Int) = ((lc.getD i 0 &&& (18446744073709551615 - lb.getD i 0) : Nat) : Int) := u64_andNot_nat _ _ hx hy
        have HM2 : Hid (lc.getD i 0 &&& (18446744073709551615 - lb.getD i 0) = 0 → ∀ a, a < i + 1 → lc.getD a 0 &&& (18446744073709551615 - lb.getD a 0) = 0) := fun h a ha => by
          by_cases e : a = i
          · subst e; exact h
          · exact HM.out a (by omega)
        have ci := fun w' h => (pb w' h).cell hlb i (by omega)
        have tix : ∀ {o : Oper} {a : Act} (x y : Operand) (_ : o.op = .index 27 x y) (_ : a.eval x = .agg (uv lc)) (_ : a.eval y = .int .i64 (i : Int)), ∀ w, S w → (execOp a.eval o).run Tryd.prog w = .ok (.value (.int .u64 ((lc.getD i 0 : Nat) : Int))) w := fun x y h1 h2 h3 => take_index x y h1 lc hc i (by omega) h2 h3
        generalize hz0 : lc.getD i 0 &&& (18446744073709551615 - lb.getD i 0) = z at *
        clear hz0
        generalize lc.getD i 0 = x at *
        generalize lb.getD i 0 = y at *
        have hi0 : (0 : Int) ≤ (i : Int) := by omega
        have hi64 : (i : Int) < 64 := by omega
        have hca : nb ≠ (p : Int) ∨ (nb = (p : Int) ∧ yb = false) ∨ (nb = (p : Int) ∧ yb = true ∧ z ≠ 0) ∨ (nb = (p : Int) ∧ yb = true ∧ z = 0) := by
          by_cases h1 : nb = (p : Int)
          · cases yb with
            | false => exact .inr (.inl ⟨h1, rfl⟩)
            | true =>
              by_cases h2 : z = 0
              · exact .inr (.inr (.inr ⟨h1, rfl, h2⟩))
              · exact .inr (.inr (.inl ⟨h1, rfl, h2⟩))
          · exact .inl h1
        rcases hca with h1 | ⟨h1, h2⟩ | ⟨h1, h2, h3⟩ | ⟨h1, h2, h3⟩
        · have hne : (nb != (p : Int)) = true := by simpa using h1
          clear h1
          go_wp2_with fail
          clear hcc
          have hS := keepS _ _ HS.out ((Below.refl _ _).drew)
          clear HS
          have HS := Lib.hid hS; clear hS
          refine wp_region_ord S [(0, true), (1, true), (2, true), (3, true), (4, true), (5, true), (6, true), (7, false), (8, true), (9, true), (10, true), (11, true), (14, true), (16, true), (17, true), (18, true), (19, true), (12, false), (13, true), (15, true), (20, true), (21, true), (22, true)] (by kernel_rfl) (by kernel_rfl) rfl (by kernel_rfl) HS.out ?_
          iterate 7
            (refine wpOrd_step (o := ?_) ?_ ?_; rotate_left 1; (simp only [List.getElem?_toArray, List.getElem?_cons_succ, List.getElem?_cons_zero]; with_reducible rfl))
            (first
                | (refine wpOrd_skip (by rfl) ?_)
                | (refine wpOrd_take (by rfl) (take_loadRel _ rfl _ rfl _ _ hl pa) ?_)
                | (refine wpOrd_take (by rfl) (take_loadRel _ rfl _ rfl _ _ hlb pb) ?_)
                | (refine wpOrd_take (by rfl) (take_loadRel _ rfl _ rfl _ _ hz pc) ?_)
                | (refine wpOrd_take (v := ?_) (by rfl) ?_ ?_; rotate_left 1; (intro wx hSx; have hc_0 := c0 wx hSx; have hc_1 := c1 wx hSx; have hc_2 := cb wx hSx; have hc_3 := cc wx hSx; have hc_4 := ci wx hSx; go_simp; try with_reducible rfl)))
            (try simp only [Act.put, List.setIfInBounds_toArray, List.set_cons_zero, List.set_cons_succ])
          first
            | (
                (refine wpOrd_solo (o := ?_) ?_ ?_; rotate_left 1; (simp only [List.getElem?_toArray, List.getElem?_cons_succ, List.getElem?_cons_zero]; with_reducible rfl))
                intro K hK
                go_simp
                refine hK.out _ _ HS.out ?_
                clear hK K
                (try simp only [Act.put, List.setIfInBounds_toArray, List.set_cons_zero, List.set_cons_succ]))
            | (
                (refine wpOrd_solo (o := ?_) ?_ ?_; rotate_left 1; (simp only [List.getElem?_toArray, List.getElem?_cons_succ, List.getElem?_cons_zero]; with_reducible rfl))
                intro K hK
                go_simp
                go_at_call 20
                refine (HCB.out _).mono ?_
                rintro e w3 ⟨rfl, hb⟩
                have hS := keepS _ _ HS.out hb
                clear HS
                have HS := Lib.hid hS; clear hS hb
                refine hK.out _ _ HS.out ?_
                clear hK K
                (try simp only [Act.put, List.setIfInBounds_toArray, List.set_cons_zero, List.set_cons_succ]))
          iterate 9
            (refine wpOrd_step (o := ?_) ?_ ?_; rotate_left 1; (simp only [List.getElem?_toArray, List.getElem?_cons_succ, List.getElem?_cons_zero]; with_reducible rfl))
            (first
                | (refine wpOrd_skip (by rfl) ?_)
                | (refine wpOrd_take (by rfl) (take_loadRel _ rfl _ rfl _ _ hl pa) ?_)
                | (refine wpOrd_take (by rfl) (take_loadRel _ rfl _ rfl _ _ hlb pb) ?_)
                | (refine wpOrd_take (by rfl) (take_loadRel _ rfl _ rfl _ _ hz pc) ?_)
                | (refine wpOrd_take (v := ?_) (by rfl) ?_ ?_; rotate_left 1; (intro wx hSx; have hc_0 := c0 wx hSx; have hc_1 := c1 wx hSx; have hc_2 := cb wx hSx; have hc_3 := cc wx hSx; have hc_4 := ci wx hSx; go_simp; try with_reducible rfl)))
            (try simp only [Act.put, List.setIfInBounds_toArray, List.set_cons_zero, List.set_cons_succ])
          first
            | (
                (refine wpOrd_solo (o := ?_) ?_ ?_; rotate_left 1; (simp only [List.getElem?_toArray, List.getElem?_cons_succ, List.getElem?_cons_zero]; with_reducible rfl))
                intro K hK
                go_simp
                refine hK.out _ _ HS.out ?_
                clear hK K
                (try simp only [Act.put, List.setIfInBounds_toArray, List.set_cons_zero, List.set_cons_succ]))
            | (
                (refine wpOrd_solo (o := ?_) ?_ ?_; rotate_left 1; (simp only [List.getElem?_toArray, List.getElem?_cons_succ, List.getElem?_cons_zero]; with_reducible rfl))
                intro K hK
                go_simp
                go_at_call 19
                refine (HPL.out _).mono ?_
                rintro e w4 ⟨rfl, hb⟩
                have hS := keepS _ _ HS.out hb
                clear HS
                have HS := Lib.hid hS; clear hS hb
                refine hK.out _ _ HS.out ?_
                clear hK K
                (try simp only [Act.put, List.setIfInBounds_toArray, List.set_cons_zero, List.set_cons_succ]))
          iterate 5
            (refine wpOrd_step (o := ?_) ?_ ?_; rotate_left 1; (simp only [List.getElem?_toArray, List.getElem?_cons_succ, List.getElem?_cons_zero]; with_reducible rfl))
            (first
                | (refine wpOrd_skip (by rfl) ?_)
                | (refine wpOrd_take (by rfl) (take_field1 _ rfl _ _ hc rfl) ?_)
                | (refine wpOrd_take (by rfl) (tix _ _ rfl rfl rfl) ?_)
                | (refine wpOrd_take (v := ?_) (by rfl) ?_ ?_; rotate_left 1; (intro wx hSx; go_simp; try with_reducible rfl)))
            (try simp only [Act.put, List.setIfInBounds_toArray, List.set_cons_zero, List.set_cons_succ])
          refine wpOrd_done ?_
          go_wp2_with fail
          refine (ralive_any _ (HT.out.below (PB.out _ HS.out))).mono ?_
          rintro e w5 ⟨rfl, hb5⟩
          have HB5 := Lib.hid ((PB.out _ HS.out).trans (hb5.mono (PB.out _ HS.out).size))
          clear hb5
          go_wp2_with fail
          go_ret
          exact ⟨rfl, HB5.out⟩
        · have hne : (nb != (p : Int)) = false := by simpa using h1
          rw [h2] at HCB
          clear h1 h2
          go_wp2_with fail
          clear hcc
          have hS := keepS _ _ HS.out ((Below.refl _ _).drew)
          clear HS
          have HS := Lib.hid hS; clear hS
          refine wp_region_ord S [(0, true), (1, true), (2, true), (3, true), (4, true), (5, true), (6, true), (7, false), (8, true), (9, true), (10, true), (11, true), (14, true), (16, true), (17, true), (18, true), (19, true), (12, false), (13, true), (15, true), (20, true), (21, true), (22, true)] (by kernel_rfl) (by kernel_rfl) rfl (by kernel_rfl) HS.out ?_
          iterate 7
            (refine wpOrd_step (o := ?_) ?_ ?_; rotate_left 1; (simp only [List.getElem?_toArray, List.getElem?_cons_succ, List.getElem?_cons_zero]; with_reducible rfl))
            (first
                | (refine wpOrd_skip (by rfl) ?_)
                | (refine wpOrd_take (by rfl) (take_loadRel _ rfl _ rfl _ _ hl pa) ?_)
                | (refine wpOrd_take (by rfl) (take_loadRel _ rfl _ rfl _ _ hlb pb) ?_)
                | (refine wpOrd_take (by rfl) (take_loadRel _ rfl _ rfl _ _ hz pc) ?_)
                | (refine wpOrd_take (v := ?_) (by rfl) ?_ ?_; rotate_left 1; (intro wx hSx; have hc_0 := c0 wx hSx; have hc_1 := c1 wx hSx; have hc_2 := cb wx hSx; have hc_3 := cc wx hSx; have hc_4 := ci wx hSx; go_simp; try with_reducible rfl)))
            (try simp only [Act.put, List.setIfInBounds_toArray, List.set_cons_zero, List.set_cons_succ])
          first
            | (
                (refine wpOrd_solo (o := ?_) ?_ ?_; rotate_left 1; (simp only [List.getElem?_toArray, List.getElem?_cons_succ, List.getElem?_cons_zero]; with_reducible rfl))
                intro K hK
                go_simp
                refine hK.out _ _ HS.out ?_
                clear hK K
                (try simp only [Act.put, List.setIfInBounds_toArray, List.set_cons_zero, List.set_cons_succ]))
            | (
                (refine wpOrd_solo (o := ?_) ?_ ?_; rotate_left 1; (simp only [List.getElem?_toArray, List.getElem?_cons_succ, List.getElem?_cons_zero]; with_reducible rfl))
                intro K hK
                go_simp
                go_at_call 20
                refine (HCB.out _).mono ?_
                rintro e w3 ⟨rfl, hb⟩
                have hS := keepS _ _ HS.out hb
                clear HS
                have HS := Lib.hid hS; clear hS hb
                refine hK.out _ _ HS.out ?_
                clear hK K
                (try simp only [Act.put, List.setIfInBounds_toArray, List.set_cons_zero, List.set_cons_succ]))
          iterate 9
            (refine wpOrd_step (o := ?_) ?_ ?_; rotate_left 1; (simp only [List.getElem?_toArray, List.getElem?_cons_succ, List.getElem?_cons_zero]; with_reducible rfl))
            (first
                | (refine wpOrd_skip (by rfl) ?_)
                | (refine wpOrd_take (by rfl) (take_loadRel _ rfl _ rfl _ _ hl pa) ?_)
                | (refine wpOrd_take (by rfl) (take_loadRel _ rfl _ rfl _ _ hlb pb) ?_)
                | (refine wpOrd_take (by rfl) (take_loadRel _ rfl _ rfl _ _ hz pc) ?_)
                | (refine wpOrd_take (v := ?_) (by rfl) ?_ ?_; rotate_left 1; (intro wx hSx; have hc_0 := c0 wx hSx; have hc_1 := c1 wx hSx; have hc_2 := cb wx hSx; have hc_3 := cc wx hSx; have hc_4 := ci wx hSx; go_simp; try with_reducible rfl)))
            (try simp only [Act.put, List.setIfInBounds_toArray, List.set_cons_zero, List.set_cons_succ])
          first
            | (
                (refine wpOrd_solo (o := ?_) ?_ ?_; rotate_left 1; (simp only [List.getElem?_toArray, List.getElem?_cons_succ, List.getElem?_cons_zero]; with_reducible rfl))
                intro K hK
                go_simp
                refine hK.out _ _ HS.out ?_
                clear hK K
                (try simp only [Act.put, List.setIfInBounds_toArray, List.set_cons_zero, List.set_cons_succ]))
            | (
                (refine wpOrd_solo (o := ?_) ?_ ?_; rotate_left 1; (simp only [List.getElem?_toArray, List.getElem?_cons_succ, List.getElem?_cons_zero]; with_reducible rfl))
                intro K hK
                go_simp
                go_at_call 19
                refine (HPL.out _).mono ?_
                rintro e w4 ⟨rfl, hb⟩
                have hS := keepS _ _ HS.out hb
                clear HS
                have HS := Lib.hid hS; clear hS hb
                refine hK.out _ _ HS.out ?_
                clear hK K
                (try simp only [Act.put, List.setIfInBounds_toArray, List.set_cons_zero, List.set_cons_succ]))
          iterate 5
            (refine wpOrd_step (o := ?_) ?_ ?_; rotate_left 1; (simp only [List.getElem?_toArray, List.getElem?_cons_succ, List.getElem?_cons_zero]; with_reducible rfl))
            (first
                | (refine wpOrd_skip (by rfl) ?_)
                | (refine wpOrd_take (by rfl) (take_field1 _ rfl _ _ hc rfl) ?_)
                | (refine wpOrd_take (by rfl) (tix _ _ rfl rfl rfl) ?_)
                | (refine wpOrd_take (v := ?_) (by rfl) ?_ ?_; rotate_left 1; (intro wx hSx; go_simp; try with_reducible rfl)))
            (try simp only [Act.put, List.setIfInBounds_toArray, List.set_cons_zero, List.set_cons_succ])
          refine wpOrd_done ?_
          go_wp2_with fail
          refine (ralive_any _ (HT.out.below (PB.out _ HS.out))).mono ?_
          rintro e w5 ⟨rfl, hb5⟩
          have HB5 := Lib.hid ((PB.out _ HS.out).trans (hb5.mono (PB.out _ HS.out).size))
          clear hb5
          go_wp2_with fail
          go_ret
          exact ⟨rfl, HB5.out⟩
        · have hne : (nb != (p : Int)) = false := by simpa using h1
          have hzb : ((z : Int) != 0) = true := by rw [bne_iff_ne]; omega
          rw [h2] at HCB
          clear h1 h2 h3
          go_wp2_with fail
          clear hcc
          have hS := keepS _ _ HS.out ((Below.refl _ _).drew)
          clear HS
          have HS := Lib.hid hS; clear hS
          refine wp_region_ord S [(0, true), (1, true), (2, true), (3, true), (4, true), (5, true), (6, true), (7, false), (8, true), (9, true), (10, true), (11, true), (14, true), (16, true), (17, true), (18, true), (19, true), (12, false), (13, true), (15, true), (20, true), (21, true), (22, true)] (by kernel_rfl) (by kernel_rfl) rfl (by kernel_rfl) HS.out ?_
          iterate 7
            (refine wpOrd_step (o := ?_) ?_ ?_; rotate_left 1; (simp only [List.getElem?_toArray, List.getElem?_cons_succ, List.getElem?_cons_zero]; with_reducible rfl))
            (first
                | (refine wpOrd_skip (by rfl) ?_)
                | (refine wpOrd_take (by rfl) (take_loadRel _ rfl _ rfl _ _ hl pa) ?_)
                | (refine wpOrd_take (by rfl) (take_loadRel _ rfl _ rfl _ _ hlb pb) ?_)
                | (refine wpOrd_take (by rfl) (take_loadRel _ rfl _ rfl _ _ hz pc) ?_)
                | (refine wpOrd_take (v := ?_) (by rfl) ?_ ?_; rotate_left 1; (intro wx hSx; have hc_0 := c0 wx hSx; have hc_1 := c1 wx hSx; have hc_2 := cb wx hSx; have hc_3 := cc wx hSx; have hc_4 := ci wx hSx; go_simp; try with_reducible rfl)))
            (try simp only [Act.put, List.setIfInBounds_toArray, List.set_cons_zero, List.set_cons_succ])
          first
            | (
                (refine wpOrd_solo (o := ?_) ?_ ?_; rotate_left 1; (simp only [List.getElem?_toArray, List.getElem?_cons_succ, List.getElem?_cons_zero]; with_reducible rfl))
                intro K hK
                go_simp
                refine hK.out _ _ HS.out ?_
                clear hK K
                (try simp only [Act.put, List.setIfInBounds_toArray, List.set_cons_zero, List.set_cons_succ]))
            | (
                (refine wpOrd_solo (o := ?_) ?_ ?_; rotate_left 1; (simp only [List.getElem?_toArray, List.getElem?_cons_succ, List.getElem?_cons_zero]; with_reducible rfl))
                intro K hK
                go_simp
                go_at_call 20
                refine (HCB.out _).mono ?_
                rintro e w3 ⟨rfl, hb⟩
                have hS := keepS _ _ HS.out hb
                clear HS
                have HS := Lib.hid hS; clear hS hb
                refine hK.out _ _ HS.out ?_
                clear hK K
                (try simp only [Act.put, List.setIfInBounds_toArray, List.set_cons_zero, List.set_cons_succ]))
          iterate 9
            (refine wpOrd_step (o := ?_) ?_ ?_; rotate_left 1; (simp only [List.getElem?_toArray, List.getElem?_cons_succ, List.getElem?_cons_zero]; with_reducible rfl))
            (first
                | (refine wpOrd_skip (by rfl) ?_)
                | (refine wpOrd_take (by rfl) (take_loadRel _ rfl _ rfl _ _ hl pa) ?_)
                | (refine wpOrd_take (by rfl) (take_loadRel _ rfl _ rfl _ _ hlb pb) ?_)
                | (refine wpOrd_take (by rfl) (take_loadRel _ rfl _ rfl _ _ hz pc) ?_)
                | (refine wpOrd_take (v := ?_) (by rfl) ?_ ?_; rotate_left 1; (intro wx hSx; have hc_0 := c0 wx hSx; have hc_1 := c1 wx hSx; have hc_2 := cb wx hSx; have hc_3 := cc wx hSx; have hc_4 := ci wx hSx; go_simp; try with_reducible rfl)))
            (try simp only [Act.put, List.setIfInBounds_toArray, List.set_cons_zero, List.set_cons_succ])
          first
            | (
                (refine wpOrd_solo (o := ?_) ?_ ?_; rotate_left 1; (simp only [List.getElem?_toArray, List.getElem?_cons_succ, List.getElem?_cons_zero]; with_reducible rfl))
                intro K hK
                go_simp
                refine hK.out _ _ HS.out ?_
                clear hK K
                (try simp only [Act.put, List.setIfInBounds_toArray, List.set_cons_zero, List.set_cons_succ]))
            | (
                (refine wpOrd_solo (o := ?_) ?_ ?_; rotate_left 1; (simp only [List.getElem?_toArray, List.getElem?_cons_succ, List.getElem?_cons_zero]; with_reducible rfl))
                intro K hK
                go_simp
                go_at_call 19
                refine (HPL.out _).mono ?_
                rintro e w4 ⟨rfl, hb⟩
                have hS := keepS _ _ HS.out hb
                clear HS
                have HS := Lib.hid hS; clear hS hb
                refine hK.out _ _ HS.out ?_
                clear hK K
                (try simp only [Act.put, List.setIfInBounds_toArray, List.set_cons_zero, List.set_cons_succ]))
          iterate 5
            (refine wpOrd_step (o := ?_) ?_ ?_; rotate_left 1; (simp only [List.getElem?_toArray, List.getElem?_cons_succ, List.getElem?_cons_zero]; with_reducible rfl))
            (first
                | (refine wpOrd_skip (by rfl) ?_)
                | (refine wpOrd_take (by rfl) (take_field1 _ rfl _ _ hc rfl) ?_)
                | (refine wpOrd_take (by rfl) (tix _ _ rfl rfl rfl) ?_)
                | (refine wpOrd_take (v := ?_) (by rfl) ?_ ?_; rotate_left 1; (intro wx hSx; go_simp; try with_reducible rfl)))
            (try simp only [Act.put, List.setIfInBounds_toArray, List.set_cons_zero, List.set_cons_succ])
          refine wpOrd_done ?_
          go_wp2_with fail
          refine (ralive_any _ (HT.out.below (PB.out _ HS.out))).mono ?_
          rintro e w5 ⟨rfl, hb5⟩
          have HB5 := Lib.hid ((PB.out _ HS.out).trans (hb5.mono (PB.out _ HS.out).size))
          clear hb5
          go_wp2_with fail
          go_ret
          exact ⟨rfl, HB5.out⟩
        · have hne : (nb != (p : Int)) = false := by simpa using h1
          have hzb : ((z : Int) != 0) = false := by rw [h3]; rfl
          have HN2 : Hid (0 < i + 1 → nb = (p : Int) ∧ yb = true) := fun _ => ⟨h1, h2⟩
          have HM3 := Lib.hid (HM2.out h3)
          rw [h2] at HCB
          clear h1 h2 h3
          go_wp2_with fail
          clear hcc
          have hS := keepS _ _ HS.out ((Below.refl _ _).drew)
          clear HS
          have HS := Lib.hid hS; clear hS
          refine wp_region_ord S [(0, true), (1, true), (2, true), (3, true), (4, true), (5, true), (6, true), (7, false), (8, true), (9, true), (10, true), (11, true), (14, true), (16, true), (17, true), (18, true), (19, true), (12, false), (13, true), (15, true), (20, true), (21, true), (22, true)] (by kernel_rfl) (by kernel_rfl) rfl (by kernel_rfl) HS.out ?_
          iterate 7
            (refine wpOrd_step (o := ?_) ?_ ?_; rotate_left 1; (simp only [List.getElem?_toArray, List.getElem?_cons_succ, List.getElem?_cons_zero]; with_reducible rfl))
            (first
                | (refine wpOrd_skip (by rfl) ?_)
                | (refine wpOrd_take (by rfl) (take_loadRel _ rfl _ rfl _ _ hl pa) ?_)
                | (refine wpOrd_take (by rfl) (take_loadRel _ rfl _ rfl _ _ hlb pb) ?_)
                | (refine wpOrd_take (by rfl) (take_loadRel _ rfl _ rfl _ _ hz pc) ?_)
                | (refine wpOrd_take (v := ?_) (by rfl) ?_ ?_; rotate_left 1; (intro wx hSx; have hc_0 := c0 wx hSx; have hc_1 := c1 wx hSx; have hc_2 := cb wx hSx; have hc_3 := cc wx hSx; have hc_4 := ci wx hSx; go_simp; try with_reducible rfl)))
            (try simp only [Act.put, List.setIfInBounds_toArray, List.set_cons_zero, List.set_cons_succ])
          first
            | (
                (refine wpOrd_solo (o := ?_) ?_ ?_; rotate_left 1; (simp only [List.getElem?_toArray, List.getElem?_cons_succ, List.getElem?_cons_zero]; with_reducible rfl))
                intro K hK
                go_simp
                refine hK.out _ _ HS.out ?_
                clear hK K
                (try simp only [Act.put, List.setIfInBounds_toArray, List.set_cons_zero, List.set_cons_succ]))
            | (
                (refine wpOrd_solo (o := ?_) ?_ ?_; rotate_left 1; (simp only [List.getElem?_toArray, List.getElem?_cons_succ, List.getElem?_cons_zero]; with_reducible rfl))
                intro K hK
                go_simp
                go_at_call 20
                refine (HCB.out _).mono ?_
                rintro e w3 ⟨rfl, hb⟩
                have hS := keepS _ _ HS.out hb
                clear HS
                have HS := Lib.hid hS; clear hS hb
                refine hK.out _ _ HS.out ?_
                clear hK K
                (try simp only [Act.put, List.setIfInBounds_toArray, List.set_cons_zero, List.set_cons_succ]))
          iterate 9
            (refine wpOrd_step (o := ?_) ?_ ?_; rotate_left 1; (simp only [List.getElem?_toArray, List.getElem?_cons_succ, List.getElem?_cons_zero]; with_reducible rfl))
            (first
                | (refine wpOrd_skip (by rfl) ?_)
                | (refine wpOrd_take (by rfl) (take_loadRel _ rfl _ rfl _ _ hl pa) ?_)
                | (refine wpOrd_take (by rfl) (take_loadRel _ rfl _ rfl _ _ hlb pb) ?_)
                | (refine wpOrd_take (by rfl) (take_loadRel _ rfl _ rfl _ _ hz pc) ?_)
                | (refine wpOrd_take (v := ?_) (by rfl) ?_ ?_; rotate_left 1; (intro wx hSx; have hc_0 := c0 wx hSx; have hc_1 := c1 wx hSx; have hc_2 := cb wx hSx; have hc_3 := cc wx hSx; have hc_4 := ci wx hSx; go_simp; try with_reducible rfl)))
            (try simp only [Act.put, List.setIfInBounds_toArray, List.set_cons_zero, List.set_cons_succ])
          first
            | (
                (refine wpOrd_solo (o := ?_) ?_ ?_; rotate_left 1; (simp only [List.getElem?_toArray, List.getElem?_cons_succ, List.getElem?_cons_zero]; with_reducible rfl))
                intro K hK
                go_simp
                refine hK.out _ _ HS.out ?_
                clear hK K
                (try simp only [Act.put, List.setIfInBounds_toArray, List.set_cons_zero, List.set_cons_succ]))
            | (
                (refine wpOrd_solo (o := ?_) ?_ ?_; rotate_left 1; (simp only [List.getElem?_toArray, List.getElem?_cons_succ, List.getElem?_cons_zero]; with_reducible rfl))
                intro K hK
                go_simp
                go_at_call 19
                refine (HPL.out _).mono ?_
                rintro e w4 ⟨rfl, hb⟩
                have hS := keepS _ _ HS.out hb
                clear HS
                have HS := Lib.hid hS; clear hS hb
                refine hK.out _ _ HS.out ?_
                clear hK K
                (try simp only [Act.put, List.setIfInBounds_toArray, List.set_cons_zero, List.set_cons_succ]))
          iterate 5
            (refine wpOrd_step (o := ?_) ?_ ?_; rotate_left 1; (simp only [List.getElem?_toArray, List.getElem?_cons_succ, List.getElem?_cons_zero]; with_reducible rfl))
            (first
                | (refine wpOrd_skip (by rfl) ?_)
                | (refine wpOrd_take (by rfl) (take_field1 _ rfl _ _ hc rfl) ?_)
                | (refine wpOrd_take (by rfl) (tix _ _ rfl rfl rfl) ?_)
                | (refine wpOrd_take (v := ?_) (by rfl) ?_ ?_; rotate_left 1; (intro wx hSx; go_simp; try with_reducible rfl)))
            (try simp only [Act.put, List.setIfInBounds_toArray, List.set_cons_zero, List.set_cons_succ])
          refine wpOrd_done ?_
          go_wp2_with fail
          go_roundw
          case rel => exact ⟨i + 1, by omega, by go_num, HS, HN2, HM3⟩
          case measure => simp [intOf]; omega
      · have e : i = p := by omega
        subst e
        have HX : Hid (xc = true → xb = true) := fun h => HEND.out h HN.out HM.out
        clear HEND
        have rc4 := pc _ HS.out
        have d0 := c0 _ HS.out
        have d1 := c1 _ HS.out
        go_wp2_with (refine wpList_loadRel rfl _ rfl g rfl _ _ hz rc4 ?_)
        clear hcc d0 d1 rc4
        refine (HHC.out _).mono ?_
        rintro e w3 ⟨rfl, hb3⟩
        have hS := keepS _ _ HS.out hb3
        clear HS hb3
        have HS := Lib.hid hS; clear hS
        cases xc with
        | false =>
          go_wp2_with fail
          refine (ralive_any _ (HT.out.below (PB.out _ HS.out))).mono ?_
          rintro e w5 ⟨rfl, hb5⟩
          have HB5 := Lib.hid ((PB.out _ HS.out).trans (hb5.mono (PB.out _ HS.out).size))
          clear hb5
          go_wp2_with fail
          go_ret
          exact ⟨rfl, HB5.out⟩
        | true =>
          have hxb := HX.out rfl
          rw [hxb] at HHB
          have rb4 := pb _ HS.out
          have d0 := c0 _ HS.out
          have d1 := c1 _ HS.out
          clear hxb
          go_wp2_with (refine wpList_loadRel rfl _ rfl (w.heap.size + 1) rfl _ _ hlb rb4 ?_)
          clear d0 d1 rb4
          refine (HHB.out _).mono ?_
          rintro e w4 ⟨rfl, hb4⟩
          have hS := keepS _ _ HS.out hb4
          clear HS hb4
          have HS := Lib.hid hS; clear hS
          go_wp2_with fail
          refine (ralive_any _ (HT.out.below (PB.out _ HS.out))).mono ?_
          rintro e w5 ⟨rfl, hb5⟩
          have HB5 := Lib.hid ((PB.out _ HS.out).trans (hb5.mono (PB.out _ HS.out).size))
          clear hb5
          go_wp2_with fail
          go_ret
          exact ⟨rfl, HB5.out⟩
end Go.Proofs.YtepmcdneafpmeaaDoor
