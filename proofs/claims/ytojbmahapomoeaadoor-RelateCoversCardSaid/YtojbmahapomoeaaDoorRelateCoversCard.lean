/-
  RelateCovers: for every input its function returns true and leaves the arguments as they were. Conditions: those of the given card.
-/
import Derived.Test.YtojbmahapomoeaaDoorLongMath
import Derived.Test.YtojbmahapomoeaaDoorRelT
import Derived.Test.YtojbmahapomoeaaDoorRelLong
import Derived.Test.YtojbmahapomoeaaDoorRelW
import Derived.Test.YtojbmahapomoeaaDoorRelS
import Derived.Test.YtojbmahapomoeaaDoorSortK
import Derived.Deep.MidRow
import Derived.Great.BuildSlice
import Derived.Test.YtojbmahapomoeaaDoorCard
import Derived.Test.YtojbmahapomoeaaDoorCardR
import Derived.Test.YtojbmahapomoeaaDoorCards
import Derived.Test.YtojbmahapomoeaaDoorTie
/-
  An order is the closure of its covers, in plain Lean. Conditions: none.
-/
namespace Go.Proofs.YtojbmahapomoeaaDoor
open Go.RowKit RM

section
variable {n : Int} {l : List Nat}
theorem mem_cvs {L : List Nat} : ∀ {k : Nat} {q : Int × Int}, q ∈ cvs L k ↔ ∃ i j : Nat, q = ((i : Int), (j : Int)) ∧ i < k ∧ j ∈ MM.els (cvRow L i)
  | 0, q => by simp [cvs]
  | k + 1, q => by
    simp only [cvs, List.mem_append, mem_cvs (k := k), cvp, List.mem_map]
    constructor
    · rintro (⟨i, j, h1, h2, h3⟩ | ⟨j, h1, h2⟩)
      · exact ⟨i, j, h1, by omega, h3⟩
      · exact ⟨k, j, h2.symm, by omega, h1⟩
    · rintro ⟨i, j, h1, h2, h3⟩
      by_cases e : i = k
      · subst e; exact .inr ⟨j, h3, h1.symm⟩
      · exact .inl ⟨i, j, h1, by omega, h3⟩
/-- Covers are steps; what stands between makes two steps of one. -/
theorem cov_path (ho : ordR n l = true) (R : Nat → Nat → Bool) (hR : ∀ i j, i < pts n → j < pts n → cvC (pts n) (bt l) i j = true → R i j = true) :
    ∀ (m i j : Nat), cnt n l j - cnt n l i ≤ m → stp n l i j = true → Path (pts n) R i j
  | m, i, j, hm, h => by
    obtain ⟨hi, hj⟩ := stp_lt h
    have h2 := h
    rw [stp_eq] at h2
    simp only [Bool.and_eq_true, decide_eq_true_eq] at h2
    cases hb : btwT (bt l) i j (pts n) with
    | false => exact Path.one hi (hR i j hi hj (by unfold cvC; simp [h2.1.2, h2.2, hb])) hj
    | true =>
      unfold btwT at hb
      rw [List.any_eq_true] at hb
      obtain ⟨k, hk, h3⟩ := hb
      have hk' := List.mem_range.1 hk
      simp only [Bool.and_eq_true, decide_eq_true_eq] at h3
      have s1 : stp n l i k = true := by rw [stp_eq]; simp [hi, hk', h3.1.2, Ne.symm h3.1.1.1]
      have s2 : stp n l k j = true := by rw [stp_eq]; simp [hj, hk', h3.2, h3.1.1.2]
      have c1 := cnt_lt ho s1
      have c2 := cnt_lt ho s2
      cases m with
      | zero => omega
      | succ m => exact (cov_path ho R hR m i k (by omega) s1).trans (cov_path ho R hR m k j (by omega) s2)
theorem clo_cov (ho : ordR n l = true) (R : Nat → Nat → Bool) (hR : ∀ i j, i < pts n → j < pts n → (R i j = true ↔ cvC (pts n) (bt l) i j = true)) (i j : Nat) (hi : i < pts n) (hj : j < pts n) : clo (pts n) R i j = bt l i j := by
  obtain ⟨hc, _⟩ := ord_facts ho
  rw [Bool.eq_iff_iff]
  constructor
  · intro h
    refine clo_least hc (fun a b ha hb h2 => ?_) h
    have h3 := (hR a b ha hb).1 h2
    unfold cvC at h3
    simp only [Bool.and_eq_true] at h3
    exact h3.1.2
  · intro h
    by_cases e : i = j
    · subst e; exact clo_iff.2 (Path.refl _ hi)
    · exact clo_iff.2 (cov_path ho R (fun a b ha hb h2 => (hR a b ha hb).2 h2) _ i j (Nat.le_refl _) (by rw [stp_eq]; simp [hi, hj, h, e]))
theorem bt_cov (ho : ordR n l = true) (i j : Nat) (hi : i < pts n) (hj : j < pts n) : bt (ofR n (cvL n l)) i j = true ↔ cvC (pts n) (bt l) i j = true := by
  have hp := pts_le n
  rw [bt_ofR]
  unfold wantB
  rw [List.any_eq_true]
  have hcv : cvL n l = cvs (strL (cl n l)) (pts n) := by unfold cvL; rw [ho, ← cvs_all]; rfl
  rw [hcv]
  constructor
  · rintro ⟨q, hq, h2⟩
    obtain ⟨a, b, rfl, ha, hb⟩ := mem_cvs.1 hq
    rw [els_cv n l a ha, List.mem_filter] at hb
    unfold eqP at h2
    simp only [Bool.and_eq_true, decide_eq_true_eq] at h2
    obtain rfl : a = i := by omega
    obtain rfl : b = j := by omega
    exact hb.2
  · intro h
    refine ⟨((i : Int), (j : Int)), mem_cvs.2 ⟨i, j, rfl, hi, ?_⟩, ?_⟩
    · rw [els_cv n l i hi, List.mem_filter]
      exact ⟨List.mem_range.2 hj, h⟩
    · unfold eqP inP
      rw [isPt_true (by omega) (by omega), isPt_true (by omega) (by omega)]
      simp
theorem cz_cov (ho : ordR n l = true) : cz (pts n : Nat) (ofR n (cvL n l)) = cl n l := by
  have hp := pts_le n
  refine rext (RW.mk _ _) (RW.mk _ _) fun i j hi hj => ?_
  have h1 : bt (cz (pts n : Nat) (ofR n (cvL n l))) i j = clo (pts n) (bt (ofR n (cvL n l))) i j := by rw [bt_cz, pts_pts]
  have h2 : bt (cl n l) i j = (decide (i < pts n) && decide (j < pts n) && bt l i j) := bt_cl n l i j
  rw [h1, h2]
  by_cases h : i < pts n ∧ j < pts n
  · rw [clo_cov ho _ (fun a b ha hb => bt_cov ho a b ha hb) i j h.1 h.2]
    simp [h.1, h.2]
  · unfold clo
    cases hd : (decide (i < pts n) && decide (j < pts n)) with
    | false => rfl
    | true => exact absurd (by simpa using hd) h
end
end Go.Proofs.YtojbmahapomoeaaDoor

/-
  Two relations side by side in one block, and pairs compared: what the statement on Covers asks of memory. Conditions: 64 words below 2^64.
-/
namespace Go.Proofs.YtojbmahapomoeaaDoor
open Go.RowKit RM

/-- The cells of a relation, as a list. -/
def rvL (n : Int) (l : List Nat) : List Value := Value.int .i64 n :: l.map fun x : Nat => Value.int .u64 (x : Int)
theorem rv_toList (n : Int) (l : List Nat) : (rv n l).toList = rvL n l := rfl
theorem rvL_toArray (n : Int) (l : List Nat) : (rvL n l).toArray = rv n l := rfl
theorem rvL_length (n : Int) {l : List Nat} (h : RW l) : (rvL n l).length = 65 := by simp [rvL, h.1]
/-- A relation within a block, from an offset on. -/
def RelIn (w : World) (g o : Nat) (n : Int) (l : List Nat) : Prop := g < w.heap.size ∧ w.rangeAt g o (rvL n l)
theorem RelIn.below {w w' : World} {g o : Nat} {n : Int} {l : List Nat} (h : RelIn w g o n l) (hb : Below w.heap.size w w') : RelIn w' g o n l :=
  ⟨Nat.lt_of_lt_of_le h.1 hb.size, fun j v hv => (hb.cell (p := ⟨g, o + j, none⟩) h.1).trans (h.2 j v hv)⟩
theorem wpList_loadIn {ops : Array Oper} {rest : List Oper} {o : Oper} {a : Act} {w : World} {Q : Exit → Act → World → Prop} (hgd : o.guard = none) (x : Operand) (ho : o.op = .load 25 x) (g k : Nat) (hx : a.eval x = .pointer (some ⟨g, k, none⟩))
    (n : Int) (l : List Nat) (hl : RW l) (hg : RelIn w g k n l) (h : wpList Tryd.prog ops Q rest (a.put o.dst (.agg (rv n l))) w) : wpList Tryd.prog ops Q (o :: rest) a w :=
  wpList_load_mid hgd _ x ho g k hx (rvL n l) _ hg.2 Tryd.underlying25 rfl (by rw [rvL_length n hl]; kernel_rfl) h
theorem infoRel : (Tryd.prog.info? 25).map (fun i => (i.zero.isSome, i.size)) = some (true, 65) := by kernel_rfl
/-- A slice of two relations is made. -/
theorem wp_two {o : Oper} {a : Act} {w : World} {K : Act → World → Prop} {Q : Exit → Act → World → Prop} (x y : Operand) (ho : o.op = .buildSlice 27 2 #[(0, x), (1, y)])
    (n m : Int) (l k : List Nat) (hl : RW l) (hk : RW k) (hx : a.eval x = .agg (rv n l)) (hy : a.eval y = .agg (rv m k))
    (h : ∀ w', RelIn w' w.heap.size 0 n l → RelIn w' w.heap.size 65 m k → Below w.heap.size w w' → K (a.put o.dst (.slice (some ⟨w.heap.size, 0, none⟩) 2 2)) w') : o.wp Tryd.prog a w K Q := by
  cases hi : Tryd.prog.info? 25 with
  | none => have h0 := infoRel; rw [hi] at h0; cases h0
  | some i =>
    have h0 := infoRel
    rw [hi] at h0
    simp only [Option.map_some, Option.some.injEq, Prod.mk.injEq] at h0
    obtain ⟨z, hz⟩ := Option.isSome_iff_exists.1 h0.1
    have hs := h0.2
    have e1 : ∀ (n : Int) (l : List Nat), (Value.agg (rv n l)).cells = rv n l := fun _ _ => rfl
    refine wp_buildSlice 27 25 2 _ ho (rvL n l ++ rvL m k).toArray i z Tryd.underlying27 hi hz (by rw [hs]; decide) (by rw [hs]; decide) ?_ ?_
    · have hp : ((#[(0, x), (1, y)] : Array (Nat × Operand)).map fun (i, x) => (i, a.eval x)).toList = (([Value.agg (rv n l), Value.agg (rv m k)] : List Value).zipIdx 0).map fun x => (x.2, x.1) := by
        simp [hx, hy]
      rw [hp, hs]
      have := Great.fill_whole (s := 65) (by decide) [Value.agg (rv n l), Value.agg (rv m k)] ((Array.range (2 * 65)).map (z.cells[· % z.cells.size]!)) (by
        intro v hv
        simp only [List.mem_cons, List.not_mem_nil, or_false] at hv
        rcases hv with rfl | rfl
        · rw [e1, rv_size n hl]
        · rw [e1, rv_size m hk]) (by simp)
      rw [this]
      simp [e1, rv_toList]
    · refine h _ ⟨by simp, ?_⟩ ⟨by simp, ?_⟩ ((Below.refl _ _).alloc (Nat.le_refl _) _)
      · intro j v hv
        rw [cell_of_row _ w.heap.size _ _ 25 (0, 0) (heap_alloc_new w _)]
        have hj : j < (rvL n l).length := by
          rcases Nat.lt_or_ge j (rvL n l).length with h | h
          · exact h
          · rw [List.getElem?_eq_none h] at hv; cases hv
        rw [Nat.zero_add, List.getElem?_toArray, List.getElem?_append_left hj, hv]
      · intro j v hv
        rw [cell_of_row _ w.heap.size _ _ 25 (0, 0) (heap_alloc_new w _)]
        rw [List.getElem?_toArray, List.getElem?_append_right (by rw [rvL_length n hl]; omega), rvL_length n hl, Nat.add_sub_cancel_left, hv]
theorem cvL_le (n : Int) (l : List Nat) : (cvL n l).length ≤ 4294967296 := by
  unfold cvL
  split
  · have := cvs_length (strL (cl n l)) 64; omega
  · simp
theorem eqP_iff {p q lo hi : Int} : eqP p q lo hi = true ↔ p = lo ∧ q = hi := by simp [eqP]
theorem run_neqPair (p q : Int) (w : World) : (binOp .neq 31 (.agg #[.int .i64 p, .int .i64 q]) (.agg #[.int .i64 p, .int .i64 q])).run Tryd.prog w = .ok (.bool false) w := by
  rw [run_neq_struct, run_equalIn_agg w 9999 _ _ _ (by simp only [Program.fieldsOf, Tryd.underlying31]) Tryd.stoodInHeld31]
  simp [Program.fieldsOf, Tryd.underlying31, Op.eqFields, Sem.run_bind,
    run_part_one (show (#[Value.int .i64 p, Value.int .i64 q])[0]? = some (.int .i64 p) from rfl),
    run_part_one (show (#[Value.int .i64 p, Value.int .i64 q])[1]? = some (.int .i64 q) from rfl),
    Result.andThen_ok, run_equalIn_int w 9998 _ .i64 .i64 _ _ Tryd.underlying3]
section
variable {o : Oper} {a : Act} {S : World → Prop}
theorem take_neqPair (x y : Operand) (t : TypeId) (ho : o.op = .binOp .neq 31 x y t) (p q : Int) (hx : a.eval x = .agg #[.int .i64 p, .int .i64 q]) (hy : a.eval y = .agg #[.int .i64 p, .int .i64 q]) :
    ∀ w, S w → (execOp a.eval o).run Tryd.prog w = .ok (.value (.bool false)) w := by
  intro w _
  unfold execOp
  simp only [ho, hx, hy, Sem.run_bind, Sem.run_pure, run_eqGuard_agg w _ _ _ _ _ _ Tryd.eqGuardType31, Result.andThen_ok, run_neqPair p q w]
theorem take_loadPair (x : Operand) (ho : o.op = .load 31 x) (g k : Nat) (hx : a.eval x = .pointer (some ⟨g, k, none⟩)) (p q : Int)
    (hS : ∀ w, S w → w.cell? ⟨g, k, none⟩ = some (.int .i64 p) ∧ w.cell? ⟨g, k + 1, none⟩ = some (.int .i64 q)) :
    ∀ w, S w → (execOp a.eval o).run Tryd.prog w = .ok (.value (.agg #[.int .i64 p, .int .i64 q])) w := by
  intro w h
  obtain ⟨h1, h2⟩ := hS w h
  have hr : w.rangeAt g k [.int .i64 p, .int .i64 q] := by
    intro j v hv
    match j, hv with
    | 0, hv => simp at hv; subst hv; exact h1
    | 1, hv => simp at hv; subst hv; exact h2
    | j + 2, hv => simp at hv
  unfold execOp
  simp only [ho, hx, Sem.run_bind, Sem.run_pure, Result.andThen_ok, run_loadAt_mid w g k _ _ _ hr Tryd.underlying31 rfl (by kernel_rfl)]
end
end Go.Proofs.YtojbmahapomoeaaDoor

/-
  RelateCovers. Conditions: the tables that the program reads.
-/
namespace Go.Proofs.YtojbmahapomoeaaDoor
open Go.RowKit RM

set_option maxHeartbeats 8000000 in
theorem relateCovers_law (n : Int) (l : List Nat) (hl : RW l) (w : World) (hT : Tab w) :
    Calls Tryd.prog 3 #[.agg (rv n l)] w fun e w' => e = .returned (.bool true) ∧ Below w.heap.size w w' := by
  have HT := Lib.hid hT; clear hT
  have hz : RW (cz n l) := RW.mk _ _
  have HCL : Hid (∀ w, Calls Tryd.prog 4 #[.agg (rv n l)] w fun e w' => e = .returned (.agg (rv ((pts n : Nat) : Int) (cz n l))) ∧ Below w.heap.size w w') := qclosure_any n l hl
  have ra := RelAt.new w n l
  have HW : Hid (Below w.heap.size w (w.alloc (.cells (rv n l) 25))) := (Below.refl _ _).alloc (Nat.le_refl _) _
  go_enter Tryd.func3, Tryd.ntmps3
  go_wp2_with fail
  generalize w.alloc (.cells (rv n l) 25) = W at *
  obtain ⟨S, HS, pW, keepS⟩ := ex_gen W
  have pa := fun w' h => ra.below (pW w' h) ra.lt
  have PB : Hid (∀ w', S w' → Below w.heap.size w w') := fun w' h => HW.out.trans ((pW w' h).mono HW.out.size)
  clear pW ra HW
  refine wp_region_ord S [(0, true), (1, true), (5, true), (2, false), (3, false), (4, true)] (by kernel_rfl) (by kernel_rfl) rfl (by kernel_rfl) HS.out ?_
  iterate 3
    (refine wpOrd_step (o := ?_) ?_ ?_; rotate_left 1; (simp only [List.getElem?_toArray, List.getElem?_cons_succ, List.getElem?_cons_zero]; with_reducible rfl))
    (first
        | (refine wpOrd_skip (by rfl) ?_)
        | (refine wpOrd_take (by rfl) (take_loadRel _ rfl _ rfl _ _ hl pa) ?_)
        | (refine wpOrd_take (v := ?_) (by rfl) ?_ ?_; rotate_left 1; (intro wx hSx; go_simp; try with_reducible rfl)))
    (try simp only [Act.put, List.setIfInBounds_toArray, List.set_cons_zero, List.set_cons_succ])
  (refine wpOrd_solo (o := ?_) ?_ ?_; rotate_left 1; (simp only [List.getElem?_toArray, List.getElem?_cons_succ, List.getElem?_cons_zero]; with_reducible rfl))
  intro K hK
  go_simp
  go_at_call 4
  refine (HCL.out _).mono ?_
  rintro e w2 ⟨rfl, hb⟩
  have hS := keepS _ _ HS.out hb
  clear HS
  have HS := Lib.hid hS; clear hS hb
  refine hK.out _ _ HS.out ?_
  clear hK K
  (try simp only [Act.put, List.setIfInBounds_toArray, List.set_cons_zero, List.set_cons_succ])
  (refine wpOrd_solo (o := ?_) ?_ ?_; rotate_left 1; (simp only [List.getElem?_toArray, List.getElem?_cons_succ, List.getElem?_cons_zero]; with_reducible rfl))
  intro K hK
  rw [if_pos (by rfl)]
  refine wp_two _ _ rfl n (pts n : Nat) l (cz n l) hl hz rfl rfl ?_
  intro w3 hr1 hr2 hb
  have hS := keepS _ _ HS.out hb
  clear HS
  have HS := Lib.hid hS; clear hS hb
  refine hK.out _ _ HS.out ?_
  clear hK K
  (try simp only [Act.put, List.setIfInBounds_toArray, List.set_cons_zero, List.set_cons_succ])
  iterate 1
    (refine wpOrd_step (o := ?_) ?_ ?_; rotate_left 1; (simp only [List.getElem?_toArray, List.getElem?_cons_succ, List.getElem?_cons_zero]; with_reducible rfl))
    (first
        | (refine wpOrd_skip (by rfl) ?_)
        | (refine wpOrd_take (v := ?_) (by rfl) ?_ ?_; rotate_left 1; (intro wx hSx; go_simp; try with_reducible rfl)))
    (try simp only [Act.put, List.setIfInBounds_toArray, List.set_cons_zero, List.set_cons_succ])
  refine wpOrd_done ?_
  have HB3 := Lib.hid (PB.out _ HS.out)
  clear pa PB HS keepS HCL
  generalize w2.heap.size = g at *
  go_wp2_with fail
  go_loopw [4, 5, 6, 7, 8, 9, 10, 11, 17] (fun _ _ _ _ _ _ _ _ jv wr => ∃ j : Nat, j ≤ 2 ∧ jv = .int .i64 j ∧ RelIn wr g 0 n l ∧ RelIn wr g 65 (pts n : Nat) (cz n l) ∧ Hid (Below w.heap.size w wr)) (fun _ _ _ _ _ _ _ _ jv _ => 2 - (intOf jv).toNat)
  case atStart => exact ⟨0, by omega, rfl, hr1, hr2, HB3⟩
  case round =>
    obtain ⟨j, hj, rfl, hr1, hr2, HB⟩ := hrel
    by_cases hlt : j < 2
    · have hex : ∃ (nq : Int) (lq : List Nat), RW lq ∧ RelIn wr g (j * 65) nq lq := by
        rcases Nat.lt_or_ge j 1 with h | h
        · have : j = 0 := by omega
          subst this
          exact ⟨n, l, hl, hr1⟩
        · have : j = 1 := by omega
          subst this
          exact ⟨_, _, hz, hr2⟩
      obtain ⟨nq, lq, hlq, hin⟩ := hex
      have HCV : Hid (∀ w, Tab w → Calls Tryd.prog 5 #[.agg (rv nq lq)] w fun e w' => ∃ A c, e = .returned (.slice A (cvL nq lq).length c) ∧ OwnP w' w.heap.size A c (cvL nq lq) ∧ Below w.heap.size w w') := fun w h => rcovers_any 64 sort_64 nq lq hlq (pts_le nq) w h
      have HCR : Hid (∀ w, Calls Tryd.prog 6 #[.agg (rv nq lq)] w fun e w' => ∃ A c, e = .returned (.slice A (cvL nq lq).length c) ∧ OwnP w' w.heap.size A c (cvL nq lq) ∧ Below w.heap.size w w') := qcovers_any nq lq hlq
      have hr1b : ∀ w', Below wr.heap.size wr w' → RelIn w' g 0 n l := fun w' h => hr1.below h
      have hr2b : ∀ w', Below wr.heap.size wr w' → RelIn w' g 65 (pts n : Nat) (cz n l) := fun w' h => hr2.below h
      have HR1 := Lib.hid hr1b
      have HR2 := Lib.hid hr2b
      clear hr1 hr2 hr1b hr2b
      have r0 : RelAt (wr.alloc (.cells (Tryd.zeroCells25) 25)) wr.heap.size 0 zs := by rw [zero_rel]; exact RelAt.new _ _ _
      have hb0 : Below wr.heap.size wr (wr.alloc (.cells (Tryd.zeroCells25) 25)) := (Below.refl _ _).alloc (Nat.le_refl _) _
      have H0 := Lib.hid hb0; clear hb0
      go_wp2_with (first | (refine wpList_loadIn rfl _ rfl g (j * 65) rfl nq lq hlq hin ?_) | (refine wpList_storeRel rfl _ _ rfl wr.heap.size rfl nq lq rfl 0 zs RW.zs hlq r0 ?_; intro w4 r4 he; have HB4 := Lib.hid (H0.out.trans (he.below (Nat.le_refl _))); clear he H0 r0 hin))
      generalize wr.heap.size = q at r4
      generalize hxs : cvL nq lq = xs at *
      have HXS := Lib.hid hxs; clear hxs
      have hxb : xs.length ≤ 4294967296 := by rw [← HXS.out]; exact cvL_le nq lq
      generalize hm : xs.length = m at *
      have HM := Lib.hid hm; clear hm
      have HB4w : Hid (Below w.heap.size w w4) := HB.out.trans (HB4.out.mono HB.out.size)
      have HTS : Hid (∀ w', Below w.heap.size w w' → Tab w') := fun w' h => HT.out.below h
      obtain ⟨S, HS, pW, keepS⟩ := ex_gen w4
      have pa := fun w' h => r4.below (pW w' h) r4.lt
      have PB : Hid (∀ w', S w' → Below w.heap.size w w') := fun w' h => HB4w.out.trans ((pW w' h).mono HB4w.out.size)
      have PR : Hid (∀ w', S w' → Below wr.heap.size wr w') := fun w' h => HB4.out.trans ((pW w' h).mono HB4.out.size)
      clear pW r4
      refine wp_region_ord S [(0, true), (2, true), (1, false), (3, false), (4, true), (5, true)] (by kernel_rfl) (by kernel_rfl) rfl (by kernel_rfl) HS.out ?_
      iterate 2
        (refine wpOrd_step (o := ?_) ?_ ?_; rotate_left 1; (simp only [List.getElem?_toArray, List.getElem?_cons_succ, List.getElem?_cons_zero]; with_reducible rfl))
        (first
            | (refine wpOrd_skip (by rfl) ?_)
            | (refine wpOrd_take (by rfl) (take_loadRel _ rfl _ rfl _ _ hlq pa) ?_)
            | (refine wpOrd_take (v := ?_) (by rfl) ?_ ?_; rotate_left 1; (intro wx hSx; go_simp; try with_reducible rfl)))
        (try simp only [Act.put, List.setIfInBounds_toArray, List.set_cons_zero, List.set_cons_succ])
      (refine wpOrd_solo (o := ?_) ?_ ?_; rotate_left 1; (simp only [List.getElem?_toArray, List.getElem?_cons_succ, List.getElem?_cons_zero]; with_reducible rfl))
      intro K hK
      go_simp
      go_at_call 5
      refine (HCV.out _ (HTS.out _ (PB.out _ HS.out))).mono ?_
      rintro e w5 ⟨A1, c1, rfl, hown, hb⟩
      have hS := keepS _ _ HS.out hb
      clear HS
      have HS := Lib.hid hS; clear hS hb
      have O1 := Lib.hid hown; clear hown
      refine hK.out _ _ HS.out ?_
      clear hK K
      (try simp only [Act.put, List.setIfInBounds_toArray, List.set_cons_zero, List.set_cons_succ])
      (refine wpOrd_solo (o := ?_) ?_ ?_; rotate_left 1; (simp only [List.getElem?_toArray, List.getElem?_cons_succ, List.getElem?_cons_zero]; with_reducible rfl))
      intro K hK
      go_simp
      go_at_call 6
      refine (HCR.out _).mono ?_
      rintro e w6 ⟨A2, c2, rfl, hown2, hb⟩
      have O1b := Lib.hid (own_below O1.out hb (Nat.le_refl _))
      have hS := keepS _ _ HS.out hb
      clear HS
      have HS := Lib.hid hS; clear hS hb
      have O2 := Lib.hid hown2; clear hown2 O1
      refine hK.out _ _ HS.out ?_
      clear hK K
      (try simp only [Act.put, List.setIfInBounds_toArray, List.set_cons_zero, List.set_cons_succ])
      iterate 2
        (refine wpOrd_step (o := ?_) ?_ ?_; rotate_left 1; (simp only [List.getElem?_toArray, List.getElem?_cons_succ, List.getElem?_cons_zero]; with_reducible rfl))
        (first
            | (refine wpOrd_skip (by rfl) ?_)
            | (refine wpOrd_take (v := ?_) (by rfl) ?_ ?_; rotate_left 1; (intro wx hSx; go_simp; try with_reducible rfl)))
        (try simp only [Act.put, List.setIfInBounds_toArray, List.set_cons_zero, List.set_cons_succ])
      refine wpOrd_done ?_
      have HB6 := Lib.hid (PB.out _ HS.out)
      have HR6 := Lib.hid (PR.out _ HS.out)
      have r6 := pa _ HS.out
      clear pa PB PR HS keepS HB4 HB4w HB
      go_wp2_with fail
      have P1 : Hid (Prs w6 A1 xs) := OwnP.prs O1b.out
      have P2 : Hid (Prs w6 A2 xs) := OwnP.prs O2.out
      clear O1b O2
      obtain ⟨wo, rfl⟩ : ∃ wo : World, wo = wr := ⟨_, rfl⟩
      go_loopw [7, 32] (fun _ iv wi => ∃ i : Nat, i ≤ m ∧ iv = .int .i64 i ∧ Hid (Below w6.heap.size w6 wi)) (fun _ iv _ => m - (intOf iv).toNat)
      case atStart => exact ⟨0, by omega, rfl, Below.refl _ _⟩
      case round =>
        obtain ⟨i, hi, rfl, HBi⟩ := hrel
        by_cases hlti : i < m
        · have hne : xs ≠ [] := by
            intro e
            have h := HM.out
            rw [e] at h
            simp at h
            omega
          obtain ⟨b1, o1, rfl, hb1, hc1⟩ := (P1.out.below HBi.out).cell hne
          obtain ⟨b2, o2, rfl, hb2, hc2⟩ := (P2.out.below HBi.out).cell hne
          have hx1 := hc1 i (by rw [HM.out]; exact hlti)
          have hx2 := hc2 i (by rw [HM.out]; exact hlti)
          clear hc1 hc2 hne
          generalize (xs.getD i (0, 0)).1 = x at *
          generalize (xs.getD i (0, 0)).2 = y at *
          obtain ⟨S, HS, pW, keepS⟩ := ex_gen wr
          have p1 := fun w' h => (⟨((pW w' h).cell (p := ⟨b1, o1 + i * 2, none⟩) hb1).trans hx1.1, ((pW w' h).cell (p := ⟨b1, o1 + i * 2 + 1, none⟩) hb1).trans hx1.2⟩ : w'.cell? ⟨b1, o1 + i * 2, none⟩ = some (.int .i64 x) ∧ w'.cell? ⟨b1, o1 + i * 2 + 1, none⟩ = some (.int .i64 y))
          have p2 := fun w' h => (⟨((pW w' h).cell (p := ⟨b2, o2 + i * 2, none⟩) hb2).trans hx2.1, ((pW w' h).cell (p := ⟨b2, o2 + i * 2 + 1, none⟩) hb2).trans hx2.2⟩ : w'.cell? ⟨b2, o2 + i * 2, none⟩ = some (.int .i64 x) ∧ w'.cell? ⟨b2, o2 + i * 2 + 1, none⟩ = some (.int .i64 y))
          have PI : Hid (∀ w', S w' → Below w6.heap.size w6 w') := fun w' h => HBi.out.trans ((pW w' h).mono HBi.out.size)
          have hnz : m ≠ 0 := by omega
          clear pW hx1 hx2 hb1 hb2 keepS
          go_upto_region 10 with fail
          refine wp_region_ord S [(0, true), (1, true), (2, true), (3, true), (4, true), (5, true), (6, true), (7, true), (8, true)] (by kernel_rfl) (by kernel_rfl) rfl (by kernel_rfl) HS.out ?_
          iterate 9
            (refine wpOrd_step (o := ?_) ?_ ?_; rotate_left 1; (simp only [List.getElem?_toArray, List.getElem?_cons_succ, List.getElem?_cons_zero]; with_reducible rfl))
            (first
                | (refine wpOrd_skip (by rfl) ?_)
                | (refine wpOrd_take (by rfl) (take_loadPair _ rfl _ _ rfl _ _ p1) ?_)
                | (refine wpOrd_take (by rfl) (take_loadPair _ rfl _ _ rfl _ _ p2) ?_)
                | (refine wpOrd_take (by rfl) (take_neqPair _ _ _ rfl _ _ rfl rfl) ?_)
                | (refine wpOrd_take (v := ?_) (by rfl) ?_ ?_; rotate_left 1; (intro wx hSx; go_simp; try with_reducible rfl)))
            (try simp only [Act.put, List.setIfInBounds_toArray, List.set_cons_zero, List.set_cons_succ])
          refine wpOrd_done ?_
          have HBj := Lib.hid (PI.out _ HS.out)
          go_wp2_with fail
          go_roundw
          case rel => exact ⟨i + 1, by omega, by go_num, HBj⟩
          case measure => simp [intOf]; omega
        · have rq := r6.below HBi.out r6.lt
          have P1i : Hid (Prs wr A1 xs) := P1.out.below HBi.out
          have HBw : Hid (Below w.heap.size w wr) := HB6.out.trans (HBi.out.mono HB6.out.size)
          have HBo : Hid (Below wo.heap.size wo wr) := HR6.out.trans (HBi.out.mono HR6.out.size)
          clear P1 P2 HB6 HR6 HBi r6 HCV HCR
          have HPT := pts_le nq
          cases hoo : ordR nq lq with
          | false =>
            have HLA : Hid (∀ w, Calls Tryd.prog 7 #[.agg (rv nq lq)] w fun e w' => e = .returned (.tuple #[.int .i64 0, .bool false]) ∧ Below w.heap.size w w') := rlong_no 64 sort_64 nq lq hlq (pts_le nq) hoo
            have HLR : Hid (∀ w, Calls Tryd.prog 8 #[.agg (rv nq lq)] w fun e w' => e = .returned (.tuple #[.int .i64 0, .bool false]) ∧ Below w.heap.size w w') := qlong_no nq lq hlq hoo
            clear hoo
            go_wp2_with (refine wpList_loadRel rfl _ rfl q rfl nq lq hlq rq ?_)
            refine (HLA.out _).mono ?_
            rintro e w7 ⟨rfl, hb⟩
            have r7 := rq.below hb rq.lt
            have HBw7 := Lib.hid (HBw.out.trans (hb.mono HBw.out.size))
            have HBo7 := Lib.hid (HBo.out.trans (hb.mono HBo.out.size))
            clear hb rq HBw HBo P1i
            go_wp2_with (refine wpList_loadRel rfl _ rfl q rfl nq lq hlq r7 ?_)
            refine (HLR.out _).mono ?_
            rintro e w8 ⟨rfl, hb⟩
            have HBw8 := Lib.hid (HBw7.out.trans (hb.mono HBw7.out.size))
            have HBo8 := Lib.hid (HBo7.out.trans (hb.mono HBo7.out.size))
            clear hb r7 HBw7 HBo7 HLA HLR
            go_upto_region 15 with fail
            obtain ⟨S, HS, pW, keepS⟩ := ex_gen w8
            have PW : Hid (∀ w', S w' → Below w.heap.size w w') := fun w' h => HBw8.out.trans ((pW w' h).mono HBw8.out.size)
            have PO : Hid (∀ w', S w' → Below wo.heap.size wo w') := fun w' h => HBo8.out.trans ((pW w' h).mono HBo8.out.size)
            clear pW HBw8 HBo8
            refine wp_region_ord S [(0, true), (1, true), (2, true), (3, true), (4, true), (5, true), (6, true), (7, true), (8, true), (9, true), (10, true), (11, true), (12, true), (13, true), (16, true), (14, false), (15, false), (17, false), (18, true), (19, true), (20, true)] (by kernel_rfl) (by kernel_rfl) rfl (by kernel_rfl) HS.out ?_
            iterate 15
              (refine wpOrd_step (o := ?_) ?_ ?_; rotate_left 1; (simp only [List.getElem?_toArray, List.getElem?_cons_succ, List.getElem?_cons_zero]; with_reducible rfl))
              (first
                  | (refine wpOrd_skip (by rfl) ?_)
                  | (refine wpOrd_take (v := ?_) (by rfl) ?_ ?_; rotate_left 1; (intro wx hSx; go_simp; try with_reducible rfl)))
              (try simp only [Act.put, List.setIfInBounds_toArray, List.set_cons_zero, List.set_cons_succ])
            (refine wpOrd_solo (o := ?_) ?_ ?_; rotate_left 1; (simp only [List.getElem?_toArray, List.getElem?_cons_succ, List.getElem?_cons_zero]; with_reducible rfl))
            intro K hK
            go_simp
            refine hK.out _ _ HS.out ?_
            clear hK K
            (try simp only [Act.put, List.setIfInBounds_toArray, List.set_cons_zero, List.set_cons_succ])
            (refine wpOrd_solo (o := ?_) ?_ ?_; rotate_left 1; (simp only [List.getElem?_toArray, List.getElem?_cons_succ, List.getElem?_cons_zero]; with_reducible rfl))
            intro K hK
            go_simp
            refine hK.out _ _ HS.out ?_
            clear hK K
            (try simp only [Act.put, List.setIfInBounds_toArray, List.set_cons_zero, List.set_cons_succ])
            (refine wpOrd_solo (o := ?_) ?_ ?_; rotate_left 1; (simp only [List.getElem?_toArray, List.getElem?_cons_succ, List.getElem?_cons_zero]; with_reducible rfl))
            intro K hK
            go_simp
            refine hK.out _ _ HS.out ?_
            clear hK K
            (try simp only [Act.put, List.setIfInBounds_toArray, List.set_cons_zero, List.set_cons_succ])
            iterate 3
              (refine wpOrd_step (o := ?_) ?_ ?_; rotate_left 1; (simp only [List.getElem?_toArray, List.getElem?_cons_succ, List.getElem?_cons_zero]; with_reducible rfl))
              (first
                  | (refine wpOrd_skip (by rfl) ?_)
                  | (refine wpOrd_take (v := ?_) (by rfl) ?_ ?_; rotate_left 1; (intro wx hSx; go_simp; try with_reducible rfl)))
              (try simp only [Act.put, List.setIfInBounds_toArray, List.set_cons_zero, List.set_cons_succ])
            refine wpOrd_done ?_
            have HBw9 := Lib.hid (PW.out _ HS.out)
            have HBo9 := PO.out _ HS.out
            have HF1 := Lib.hid (HR1.out _ HBo9)
            have HF2 := Lib.hid (HR2.out _ HBo9)
            clear HBo9 HR1 HR2 PW PO HS keepS
            go_wp2_with fail
            go_roundw
            case rel => exact ⟨j + 1, by omega, by go_num, HF1.out, HF2.out, HBw9⟩
            case measure => simp [intOf]; omega
          | true =>
            have HLA : Hid (∀ w, Tab w → Calls Tryd.prog 7 #[.agg (rv nq lq)] w fun e w' => e = .returned (.tuple #[.int .i64 (top nq lq : Int), .bool true]) ∧ Below w.heap.size w w') := fun w h => rlong_top hoo hlq 64 sort_64 (pts_le nq) w h
            have HLR : Hid (∀ w, Calls Tryd.prog 8 #[.agg (rv nq lq)] w fun e w' => e = .returned (.tuple #[.int .i64 (top nq lq : Int), .bool true]) ∧ Below w.heap.size w w') := qlong_yes nq lq hlq hoo
            have HOF : Hid (∀ w, Prs w A1 xs → Calls Tryd.prog 11 #[.int .i64 nq, .slice A1 m c1] w fun e w' => e = .returned (.agg (rv ((pts nq : Nat) : Int) (ofR nq xs))) ∧ Below w.heap.size w w') := fun w h => by
              have h2 := rof_any nq A1 c1 xs w (by rw [HM.out]; exact hxb) h
              rw [HM.out] at h2; exact h2
            have HCC : Hid (∀ w, Calls Tryd.prog 10 #[.agg (rv ((pts nq : Nat) : Int) (ofR nq xs))] w fun e w' => e = .returned (.agg (rv ((pts nq : Nat) : Int) (cl nq lq))) ∧ Below w.heap.size w w') := fun w => by
              have h2 := rclosure_any ((pts nq : Nat) : Int) (ofR nq xs) (rw_ofR _ _) w
              rw [pts_pts, ← HXS.out, cz_cov hoo, HXS.out] at h2; exact h2
            have HSM : Hid (∀ w, Calls Tryd.prog 9 #[.agg (rv ((pts nq : Nat) : Int) (cl nq lq)), .agg (rv nq lq)] w fun e w' => e = .returned (.bool true) ∧ Below w.heap.size w w') := fun w => by
              have h2 := rsame_any ((pts nq : Nat) : Int) nq (cl nq lq) lq (RW.mk _ _) hlq w
              rw [eqRel_true (by rw [pts_pts]) (by rw [cl_cl])] at h2; exact h2
            clear hoo
            generalize top nq lq = tp at *
            generalize ofR nq xs = lo at *
            generalize cl nq lq = lc at *
            generalize pts nq = pq at *
            go_wp2_with (refine wpList_loadRel rfl _ rfl q rfl nq lq hlq rq ?_)
            refine (HLA.out _ (HT.out.below HBw.out)).mono ?_
            rintro e w7 ⟨rfl, hb⟩
            have r7 := rq.below hb rq.lt
            have HBw7 := Lib.hid (HBw.out.trans (hb.mono HBw.out.size))
            have HBo7 := Lib.hid (HBo.out.trans (hb.mono HBo.out.size))
            have P17 := Lib.hid (P1i.out.below hb)
            clear hb rq HBw HBo P1i
            go_wp2_with (refine wpList_loadRel rfl _ rfl q rfl nq lq hlq r7 ?_)
            refine (HLR.out _).mono ?_
            rintro e w8 ⟨rfl, hb⟩
            have r8 := r7.below hb r7.lt
            have HBw8 := Lib.hid (HBw7.out.trans (hb.mono HBw7.out.size))
            have HBo8 := Lib.hid (HBo7.out.trans (hb.mono HBo7.out.size))
            have P18 := Lib.hid (P17.out.below hb)
            clear hb r7 HBw7 HBo7 HLA HLR P17
            go_upto_region 15 with fail
            obtain ⟨S, HS, pW, keepS⟩ := ex_gen w8
            have PW : Hid (∀ w', S w' → Below w.heap.size w w') := fun w' h => HBw8.out.trans ((pW w' h).mono HBw8.out.size)
            have PO : Hid (∀ w', S w' → Below wo.heap.size wo w') := fun w' h => HBo8.out.trans ((pW w' h).mono HBo8.out.size)
            have PP : Hid (∀ w', S w' → Prs w' A1 xs) := fun w' h => P18.out.below (pW w' h)
            have pa := fun w' h => r8.below (pW w' h) r8.lt
            have c0 := fun w' h => (pa w' h).cell0
            clear pW HBw8 HBo8 P18 r8
            refine wp_region_ord S [(0, true), (1, true), (2, true), (3, true), (4, true), (5, true), (6, true), (7, true), (8, true), (9, true), (10, true), (11, true), (12, true), (13, true), (16, true), (14, false), (15, false), (17, false), (18, true), (19, true), (20, true)] (by kernel_rfl) (by kernel_rfl) rfl (by kernel_rfl) HS.out ?_
            iterate 15
              (refine wpOrd_step (o := ?_) ?_ ?_; rotate_left 1; (simp only [List.getElem?_toArray, List.getElem?_cons_succ, List.getElem?_cons_zero]; with_reducible rfl))
              (first
                  | (refine wpOrd_skip (by rfl) ?_)
                  | (refine wpOrd_take (by rfl) (take_loadRel _ rfl _ rfl _ _ hlq pa) ?_)
                  | (refine wpOrd_take (v := ?_) (by rfl) ?_ ?_; rotate_left 1; (intro wx hSx; have hc_0 := c0 wx hSx; go_simp; try with_reducible rfl)))
              (try simp only [Act.put, List.setIfInBounds_toArray, List.set_cons_zero, List.set_cons_succ])
            (refine wpOrd_solo (o := ?_) ?_ ?_; rotate_left 1; (simp only [List.getElem?_toArray, List.getElem?_cons_succ, List.getElem?_cons_zero]; with_reducible rfl))
            intro K hK
            go_simp
            go_at_call 11
            refine (HOF.out _ (PP.out _ HS.out)).mono ?_
            rintro e w9 ⟨rfl, hb⟩
            have hS := keepS _ _ HS.out hb
            clear HS
            have HS := Lib.hid hS; clear hS hb
            refine hK.out _ _ HS.out ?_
            clear hK K
            (try simp only [Act.put, List.setIfInBounds_toArray, List.set_cons_zero, List.set_cons_succ])
            (refine wpOrd_solo (o := ?_) ?_ ?_; rotate_left 1; (simp only [List.getElem?_toArray, List.getElem?_cons_succ, List.getElem?_cons_zero]; with_reducible rfl))
            intro K hK
            go_simp
            go_at_call 10
            refine (HCC.out _).mono ?_
            rintro e w10 ⟨rfl, hb⟩
            have hS := keepS _ _ HS.out hb
            clear HS
            have HS := Lib.hid hS; clear hS hb
            refine hK.out _ _ HS.out ?_
            clear hK K
            (try simp only [Act.put, List.setIfInBounds_toArray, List.set_cons_zero, List.set_cons_succ])
            (refine wpOrd_solo (o := ?_) ?_ ?_; rotate_left 1; (simp only [List.getElem?_toArray, List.getElem?_cons_succ, List.getElem?_cons_zero]; with_reducible rfl))
            intro K hK
            go_simp
            go_at_call 9
            refine (HSM.out _).mono ?_
            rintro e w11 ⟨rfl, hb⟩
            have hS := keepS _ _ HS.out hb
            clear HS
            have HS := Lib.hid hS; clear hS hb
            refine hK.out _ _ HS.out ?_
            clear hK K
            (try simp only [Act.put, List.setIfInBounds_toArray, List.set_cons_zero, List.set_cons_succ])
            iterate 3
              (refine wpOrd_step (o := ?_) ?_ ?_; rotate_left 1; (simp only [List.getElem?_toArray, List.getElem?_cons_succ, List.getElem?_cons_zero]; with_reducible rfl))
              (first
                  | (refine wpOrd_skip (by rfl) ?_)
                  | (refine wpOrd_take (v := ?_) (by rfl) ?_ ?_; rotate_left 1; (intro wx hSx; go_simp; try with_reducible rfl)))
              (try simp only [Act.put, List.setIfInBounds_toArray, List.set_cons_zero, List.set_cons_succ])
            refine wpOrd_done ?_
            have HBw9 := Lib.hid (PW.out _ HS.out)
            have HBo9 := PO.out _ HS.out
            have HF1 := Lib.hid (HR1.out _ HBo9)
            have HF2 := Lib.hid (HR2.out _ HBo9)
            clear HBo9 HR1 HR2 PW PO HS keepS pa c0 PP
            go_wp2_with fail
            go_roundw
            case rel => exact ⟨j + 1, by omega, by go_num, HF1.out, HF2.out, HBw9⟩
            case measure => simp [intOf]; omega
    · clear hr1 hr2
      go_wp2_with fail
      refine (ralive_any _ (HT.out.below HB.out)).mono ?_
      rintro e w5 ⟨rfl, hb5⟩
      have HB5 := Lib.hid (HB.out.trans (hb5.mono HB.out.size))
      clear hb5
      go_wp2_with fail
      go_ret
      exact ⟨rfl, HB5.out⟩
end Go.Proofs.YtojbmahapomoeaaDoor

namespace Go.Proofs.YtojbmahapomoeaaDoor.relateCoversC
open Go.ChangeShapes Go.WideShapes Go.ChangeAt Go.RowKit

theorem own : ownKnob Tryd.prog.godebug = none := by kernel_rfl
theorem gTab : Tryd.prog.globalNamed "math/bits.deBruijn64tab" = some 0 := by kernel_rfl
theorem gTabType : (Tryd.prog.globals[0]?).map (·.type) = some 62 := by kernel_rfl
theorem cellsT : Tryd.prog.cellsOf 62 = 64 := by kernel_rfl
theorem cells5 : Tryd.prog.cellsOf 5 = 1 := by kernel_rfl
theorem table {W : World} (h : laidMetH Tryd.prog Rows.relateCoversRow.laid W) : Tab W := by
  have ht : Lib.TabIs Tryd.prog W "math/bits.deBruijn64tab" .u8 (Lib.deBruijn64tab.map Int.ofNat) :=
    Lib.tabIs_of_head (rest := []) gTab gTabType Tryd.underlying62 Tryd.underlying5 cells5 cellsT h
  intro j hj
  have hc := ht.cell gTab j (by simpa [Lib.deBruijn64tab] using hj)
  rw [hc]
  have hl : j < Lib.deBruijn64tab.length := by simpa [Lib.deBruijn64tab] using hj
  simp only [List.getD_eq_getElem?_getD, List.getElem?_map, List.getElem?_eq_getElem hl, Option.map_some, Option.getD_some, Int.ofNat_eq_natCast]
theorem laidOut : laidOutB Tryd.prog = true := by kernel_rfl
theorem readable : ∀ t ∈ Tryd.f3.params.toList, Tryd.prog.readableRec t = true ∧ t < Tryd.prog.types.size := by
  intro t ht
  rw [Tryd.params3] at ht
  simp only [List.mem_cons, List.not_mem_nil, or_false] at ht
  rcases ht with rfl
  all_goals exact ⟨by kernel_rfl, of_decide_eq_true (by kernel_rfl)⟩

theorem contract (H : Type) (enc : TypeId × Value → H) (W : World) (base : Nat) (args : Array Value) (ds gs : List (DataW H)) (before : List MemPlace)
    (hval : ∀ (j : Nat) t v, Tryd.f3.params[j]? = some t → args[j]? = some v → Value.okWide Tryd.prog W .any base t v)
    (hW : DataW.Whole enc Tryd.prog Tryd.f3.params.toList Rows.relateCoversSpec.vars false W args.toList ds gs before) (hL : laidMetH Tryd.prog Rows.relateCoversRow.laid W) :
    Calls Tryd.prog 3 args W fun e W' => ∃ v, e = .returned v ∧ Rows.relateCoversSpec.post enc Tryd.prog Tryd.f3 false true false false W args v W' := by
  have hW' := hW
  obtain ⟨p, q, hA0, hV, hpq, _, _⟩ := hW
  have hA : DataW.TrodAll enc Tryd.prog W 0 (fun _ => true) true Tryd.f3.params.toList args.toList ds p := hA0
  have hgs := hV
  rw [Tryd.params3] at hA hval
  obtain ⟨v0, vs0, d0, ds0, p0, q0, hargs, rfl, rfl, h0, r0⟩ := trodAll_cons hA
  obtain ⟨rfl, rfl, rfl⟩ := trodAll_nil r0
  obtain rfl : args = #[v0] := by cases args; simp_all
  obtain ⟨rfl, rfl⟩ := trodVars_none hV
  have hclose : ∀ W' : World, Below W.heap.size W W' → Rows.relateCoversSpec.post enc Tryd.prog Tryd.f3 false true false false W #[v0] (.bool true) W' := fun W' hb =>
    post_true laidOut readable rfl rfl Tryd.underlying4 rfl hW' hb
  have hT := table hL
  obtain ⟨a0, l0, rfl, hl0⟩ := open_rel (hval 0 25 v0 rfl rfl) h0
  refine (relateCovers_law a0 l0 hl0 W hT).mono fun e W' ⟨he, hb⟩ => ?_
  exact ⟨_, he, hclose W' hb⟩

/-- A world for the witness. -/
noncomputable def laidWorld (os : Os) : World :=
  { World.holding Tryd.prog os ⟨#[], #[], []⟩ with heap := (World.holding Tryd.prog os ⟨#[], #[], []⟩).heap.modify 0 fun
      | .cells _ t frozen => .cells (Lib.deBruijn64tab.map fun (z : Nat) => Value.int .u8 (Int.ofNat z)).toArray t frozen
      | o => o }
theorem laid_met (os : Os) : laidMet Tryd.prog Rows.relateCoversRow.laid ((laidWorld os).forCall (fun _ _ => 0) ⟨#[], #[.agg (rv 0 RM.zs)], []⟩).memory :=
  laidMet_of_run' 8 (by kernel_rfl) (by kernel_rfl)
theorem reads (os : Os) {H : Type} (enc : TypeId × Value → H) : ∃ places, DataW.whole enc Tryd.prog ((laidWorld os).forCall (fun _ _ => 0) ⟨#[], #[.agg (rv 0 RM.zs)], []⟩).memory Tryd.f3.params.toList Rows.relateCoversSpec.vars false #[(.agg (rv 0 RM.zs) : Value)].toList 8 = some ([.agg [.lit (.int .i64 0), .agg (List.replicate 64 (.lit (.int .u64 0)))]], [], places) :=
  ⟨[], by kernel_rfl⟩

set_option maxRecDepth 100000 in
theorem lifted (os : Os) (started : os.Started) (H : Type) (enc : TypeId × Value → H) (F : Stop.Interp) :
    ReturnsInHanded {} Tryd.checked os 3 .any ((OpenSpec.ofChange Rows.relateCoversSpec).preRow enc Tryd.prog Tryd.f3 Rows.relateCoversRow.domain false Rows.relateCoversRow.laid) (((OpenSpec.ofChange Rows.relateCoversSpec).at F).post enc Tryd.prog Tryd.f3 false true false false) := by
  obtain ⟨places, hx⟩ := reads os enc
  refine returnsInHanded_of_row (C := Tryd.checked) (s := OpenSpec.ofChange Rows.relateCoversSpec) own started (by kernel_rfl) Tryd.func3
    (witness_row_at (enc := enc) (C := Tryd.checked) false (laidWorld os) #[.agg (rv 0 RM.zs)] rfl (by kernel_rfl) (by kernel_rfl) (by kernel_rfl)
      (OpenSpec.preRow_of_cond 8 hx (by kernel_rfl) (fun k hk => by cases hk) (by kernel_rfl) (laid_met os))) ?_
  intro W base args ds gs before hval hW _ _ _ hL _ _
  exact contract H enc W base args ds gs before hval hW hL

theorem said : Rows.RelateCoversSaid :=
  OpenClaim.holds_of_cond 3 Tryd.f3 rfl rfl rfl rfl rfl rfl rfl ⟨rfl, rfl, rfl, rfl, rfl⟩ rfl rfl rfl rfl rfl (by kernel_rfl) Tryd.func3 (by kernel_rfl)
    (of_decide_eq_true (by kernel_rfl)) (by unfold Func.isWrapper; first | (rw [if_pos (by decide +kernel)]; kernel_rfl) | (rw [if_neg (by decide +kernel)]; exact ⟨rfl, rfl⟩))
    (fun os started H enc _ F => by rw [OpenClaim.pre_eq_preRow]; exact lifted os started H enc F)

theorem plain (f : FuncId) (fn : Func) (hf : Tryd.pinned.checked.prog.funcNamed "clearance/clearancelaw03.RelateCovers" = some f) (hfn : Tryd.pinned.checked.prog.funcs[f]? = some fn) :
    false = Tryd.pinned.checked.prog.looks [] ∧ ∀ (j : Nat) t, fn.params[j]? = some t → Tryd.pinned.checked.prog.wantsStandIn t = false := by
  obtain rfl : f = 3 := Option.some.inj ((show Tryd.prog.funcNamed "clearance/clearancelaw03.RelateCovers" = some 3 by kernel_rfl).symm.trans hf) |>.symm
  obtain rfl : fn = Tryd.f3 := (Option.some.inj (Tryd.func3.symm.trans hfn)).symm
  refine ⟨by kernel_rfl, fun j t ht => ?_⟩
  rw [Tryd.params3] at ht
  have hm := List.mem_of_getElem? (by simpa using ht)
  simp only [List.mem_cons, List.not_mem_nil, or_false] at hm
  rcases hm with rfl
  · exact (show Tryd.prog.wantsStandIn 25 = false by kernel_rfl)

theorem card : Rows.RelateCoversCardSaid :=
  Claim7.holds_tied_plain_at .later [] _ _ _ _ said (fun _ h => by cases h) (by kernel_rfl) (fun _ h => by cases h) relateCovers_row_tie rfl ⟨rfl, rfl⟩ (by kernel_rfl) rfl plain (by kernel_rfl)

end Go.Proofs.YtojbmahapomoeaaDoor.relateCoversC
