/-
  What Closed, above, strict, Up and Down of package relate return. Conditions: 64 words below 2^64; the table of math/bits in memory, where a set is walked.
-/
import Derived.Test.YtopckkdmldhmlaaDoorRelE
namespace Go.Proofs.YtopckkdmldhmlaaDoor
open Go.RowKit RM

/-- Is it closed? -/
def closedB (n : Int) (l : List Nat) : Bool := decide (cl n l = cz n l)
theorem closedB_iff (n : Int) (l : List Nat) : closedB n l = true ↔ Closed (pts n) (bt l) := by unfold closedB; rw [decide_eq_true_eq, closed_iff]
theorem rclosed_any (n : Int) (l : List Nat) (hl : RW l) (w : World) :
    Calls Tryd.prog 50 #[.agg (rv n l)] w fun e w' => e = .returned (.bool (closedB n l)) ∧ Below w.heap.size w w' := by
  have he : closedB n l = eqRel (pts n : Nat) (pts n : Nat) (cl n l) (cz n l) := by unfold closedB eqRel; simp
  rw [he]
  clear he
  go_enter Tryd.func50, Tryd.ntmps50
  go_wp2_with fail
  have hr1 := RelAt.new w n l
  have hb : Below w.heap.size w (w.alloc (.cells (rv n l) 25)) := (Below.refl _ _).alloc (Nat.le_refl _) _
  obtain ⟨S, HS, p1, PB, keep⟩ := ex_one _ _ _ _ _ _ hr1 hb
  have keepS := keep.out (by simp)
  clear keep hr1 hb
  refine wp_region_ord S [(0, true), (2, true), (1, false), (3, false), (4, true), (5, true)] (by kernel_rfl) (by kernel_rfl) rfl (by kernel_rfl) HS.out ?_
  iterate 2
    (refine wpOrd_step (o := ?_) ?_ ?_; rotate_left 1; (simp only [List.getElem?_toArray, List.getElem?_cons_succ, List.getElem?_cons_zero]; with_reducible rfl))
    (first
        | (refine wpOrd_skip (by rfl) ?_)
        | (refine wpOrd_take (by rfl) (take_loadRel _ rfl _ rfl n l hl p1) ?_)
        | (refine wpOrd_take (v := ?_) (by rfl) ?_ ?_; rotate_left 1; (intro wx hSx; go_simp; try with_reducible rfl)))
    (try simp only [Act.put, List.setIfInBounds_toArray, List.set_cons_zero, List.set_cons_succ])
  (refine wpOrd_solo (o := ?_) ?_ ?_; rotate_left 1; (simp only [List.getElem?_toArray, List.getElem?_cons_succ, List.getElem?_cons_zero]; with_reducible rfl))
  intro K hK
  go_simp
  go_at_call 45
  refine (rclean_any _ _ hl _).mono ?_
  rintro e w2 ⟨rfl, hb⟩
  have hS := keepS _ _ HS.out hb
  clear HS
  have HS := Lib.hid hS; clear hS hb
  refine hK.out _ _ HS.out ?_
  clear hK K
  (try simp only [Act.put, List.setIfInBounds_toArray, List.set_cons_zero, List.set_cons_succ])
  (refine wpOrd_solo (o := ?_) ?_ ?_; rotate_left 1; (simp only [List.getElem?_toArray, List.getElem?_cons_succ, List.getElem?_cons_zero]; with_reducible rfl))
  intro K hK
  go_simp
  go_at_call 47
  refine (rclosure_any _ _ hl _).mono ?_
  rintro e w3 ⟨rfl, hb⟩
  have hS := keepS _ _ HS.out hb
  clear HS
  have HS := Lib.hid hS; clear hS hb
  refine hK.out _ _ HS.out ?_
  clear hK K
  (try simp only [Act.put, List.setIfInBounds_toArray, List.set_cons_zero, List.set_cons_succ])
  iterate 2
    (refine wpOrd_step (o := ?_) ?_ ?_; rotate_left 1; (simp only [List.getElem?_toArray, List.getElem?_cons_succ, List.getElem?_cons_zero]; with_reducible rfl))
    (first
        | (refine wpOrd_skip (by rfl) ?_)
        | (refine wpOrd_take (by rfl) (take_eqRel _ _ _ rfl _ _ _ _ rfl rfl (RW.mk _ _) (RW.mk _ _)) ?_)
        | (refine wpOrd_take (v := ?_) (by rfl) ?_ ?_; rotate_left 1; (intro wx hSx; go_simp; try with_reducible rfl)))
    (try simp only [Act.put, List.setIfInBounds_toArray, List.set_cons_zero, List.set_cons_succ])
  refine wpOrd_done ?_
  go_wp2_with fail
  go_ret
  exact ⟨rfl, PB.out _ HS.out⟩

/-- The union of rows. -/
def orl (l : List Nat) (xs : List Nat) : Nat := xs.foldl (fun a i => a ||| l.getD i 0) 0
theorem orl_snoc (l : List Nat) (xs : List Nat) (i : Nat) : orl l (xs ++ [i]) = orl l xs ||| l.getD i 0 := by simp [orl]
theorem orl_lt {l : List Nat} (h : RW l) (xs : List Nat) : orl l xs < 18446744073709551616 := by
  suffices ∀ (xs : List Nat) (a : Nat), a < 2 ^ 64 → xs.foldl (fun a i => a ||| l.getD i 0) a < 2 ^ 64 from this xs 0 (by omega)
  intro xs
  induction xs with
  | nil => intro a ha; exact ha
  | cons i xs ih => intro a ha; exact ih _ (Nat.or_lt_two_pow ha (h.lt i))
theorem orl_bit (l : List Nat) (xs : List Nat) (j : Nat) : (orl l xs).testBit j = xs.any fun i => bt l i j := by
  suffices ∀ (xs : List Nat) (a : Nat), (xs.foldl (fun a i => a ||| l.getD i 0) a).testBit j = (a.testBit j || xs.any fun i => bt l i j) by
    have := this xs 0
    simpa [orl] using this
  intro xs
  induction xs with
  | nil => intro a; simp
  | cons i xs ih => intro a; rw [List.foldl_cons, ih, Nat.testBit_or, List.any_cons, Bool.or_assoc]; rfl
/-- What is above some element of s. -/
def abv (l : List Nat) (s : Nat) : Nat := orl l (MM.els s)
theorem abv_lt {l : List Nat} (h : RW l) (s : Nat) : abv l s < 18446744073709551616 := orl_lt h _
theorem abv_bit (l : List Nat) (s j : Nat) : (abv l s).testBit j = true ↔ ∃ i, i < 64 ∧ s.testBit i = true ∧ bt l i j = true := by
  unfold abv
  rw [orl_bit, List.any_eq_true]
  simp only [MM.mem_els]
  exact ⟨fun ⟨i, ⟨h1, h2⟩, h3⟩ => ⟨i, h1, h2, h3⟩, fun ⟨i, h1, h2, h3⟩ => ⟨i, ⟨h1, h2⟩, h3⟩⟩
set_option maxRecDepth 8000 in
theorem rabove1_any (ga gr i q : Nat) (l : List Nat) (hl : RW l) (hi : i < 64) (hq : q < 18446744073709551616) (w : World) (ha : Box w ga 22 (.int .u64 (q : Int))) (hr : RowsAt w gr l) (hne : ga ≠ gr) :
    Calls Tryd.prog 54 #[.int .i64 (i : Int), .pointer (some ⟨ga, 0, none⟩), .pointer (some ⟨gr, 0, none⟩)] w fun e w' => e = .returned (.bool true) ∧ Box w' ga 22 (.int .u64 ((q ||| l.getD i 0 : Nat) : Int)) ∧ RowsAt w' gr l ∧ Else ga w w' := by
  have hca := ha.cell
  have hfa := ha.free
  have hcr := hr.cell hl i hi
  have hx := hl.lt i
  obtain ⟨x, hxe⟩ : ∃ x, x = l.getD i 0 := ⟨_, rfl⟩
  rw [← hxe] at hcr hx ⊢
  have HX := Lib.hid hxe; clear hxe
  have e1 : bits BinOp.or IntKind.u64 (q : Int) (x : Int) = ((q ||| x : Nat) : Int) := u64_or_nat q x hq hx
  have hi' : (i : Int) < 64 := by omega
  go_enter Tryd.func54, Tryd.ntmps54
  go_wp2_with fail
  refine wp_region_still_tail 5 (by kernel_rfl) (by kernel_rfl) ?_
  simp only [List.take_succ_cons, List.take_zero, List.drop_succ_cons, List.drop_zero]
  repeat still_step
  refine wpStill_nil ?_
  go_wp2_with fail
  go_ret
  have he := Else.setCell w ⟨ga, 0, none⟩ (.int .u64 ((q ||| x : Nat) : Int))
  exact ⟨rfl, (ha.drewN 1).put _, (hr.drewN 1).far (p := ⟨ga, 0, none⟩) hne _, ⟨he.os, he.tape, he.output, he.size, he.block⟩⟩
/-- What holds behind j elements. -/
def AbvInv (B ga gr : Nat) (l : List Nat) (els : List Nat) (w : World) (j : Nat) (W : World) : Prop := Box W ga 22 (.int .u64 ((orl l (els.take j) : Nat) : Int)) ∧ RowsAt W gr l ∧ Below B w W
set_option maxHeartbeats 400000 in
theorem rabove_any (l : List Nat) (hl : RW l) (s : Nat) (hs : s < 18446744073709551616) (w : World) (hT : Tab w) :
    Calls Tryd.prog 44 #[.agg (uv l), .int .u64 (s : Int)] w fun e w' => e = .returned (.int .u64 ((abv l s : Nat) : Int)) ∧ Below w.heap.size w w' := by
  have hmf : ∀ (fn : Fn) (first cap : Array Value) (w : World), (Instr.makeFunc fn first cap).run Tryd.prog w = .ok (.func fn first cap) w := fun _ _ _ _ => rfl
  have h64 := MM.els_length s
  have h1 : RowsAt ((w.alloc (.cells (uv l) 23)).alloc (.cells #[.int .u64 0] 22)) w.heap.size l := (RowsAt.new w l).alloc _
  have h2 : Box ((w.alloc (.cells (uv l) 23)).alloc (.cells #[.int .u64 0] 22)) (w.heap.size + 1) 22 (.int .u64 ((orl l ((MM.els s).take 0) : Nat) : Int)) := by
    have := Box.new (w.alloc (.cells (uv l) 23)) 22 (.int .u64 0)
    simpa [orl] using this
  have hb : Below w.heap.size w ((w.alloc (.cells (uv l) 23)).alloc (.cells #[.int .u64 0] 22)) := ((Below.refl _ _).alloc (Nat.le_refl _) _).alloc (by simp) _
  have hcall := each_any s hs 54 #[.pointer (some ⟨w.heap.size + 1, 0, none⟩), .pointer (some ⟨w.heap.size, 0, none⟩)] _ (fun _ _ => by kernel_rfl) (AbvInv w.heap.size (w.heap.size + 1) w.heap.size l (MM.els s) w) (AbvInv w.heap.size (w.heap.size + 1) w.heap.size l (MM.els s) w (MM.els s).length)
    (fun j W h => hT.below h.2.2) ⟨h2, h1, hb⟩ (fun W h => h) (fun j W hj ⟨i1, i2, i3⟩ => by
      refine (rabove1_any (w.heap.size + 1) w.heap.size ((MM.els s).getD j 0) _ l hl (MM.els_getD_lt s j) (orl_lt hl _) W i1 i2 (by omega)).mono ?_
      rintro e W' ⟨rfl, k1, k2, k3⟩
      refine .inl ⟨rfl, ?_, k2, i3.trans (k3.below (by omega))⟩
      rw [List.take_succ_eq_append_getElem hj, orl_snoc]
      have e : (MM.els s).getD j 0 = (MM.els s)[j] := by rw [List.getD_eq_getElem?_getD, List.getElem?_eq_getElem hj]; rfl
      rw [e] at k1
      exact k1)
  have HC := Lib.hid hcall
  clear hcall h1 h2 hb
  go_enter Tryd.func44, Tryd.ntmps44
  go_wp2_with fail
  refine HC.out.mono ?_
  rintro e W ⟨rfl, i1, i2, i3⟩
  have hc := i1.cell
  rw [List.take_of_length_le (Nat.le_refl _)] at hc
  have HI := Lib.hid i3; clear i3 i1 i2
  have hab : orl l (MM.els s) = abv l s := rfl
  rw [hab] at hc
  clear hab
  go_wp2_with fail
  go_ret
  exact ⟨rfl, HI.out⟩
end Go.Proofs.YtopckkdmldhmlaaDoor
