/-
  What the statement on Of asks: its own helper, pairs compared, lists of pairs appended; the mathematics of Of. Conditions: 64 words below 2^64.
-/
import Derived.Test.YtopckkdmldhmlaaDoorRelS
import Derived.Laws.AppendOwnNone
namespace Go.Proofs.YtopckkdmldhmlaaDoor
open Go.RowKit RM

/-- Are both numbers points? -/
def inP (n lo hi : Int) : Bool := isPt n lo && isPt n hi
/-- The pair, if it is one of points: what is looked for. -/
def eqP (a b lo hi : Int) : Bool := decide (a = lo) && decide (b = hi)
def wantB (n : Int) (xs : List (Int × Int)) (lo hi : Int) : Bool := xs.any fun q => eqP q.1 q.2 lo hi && inP n q.1 q.2
theorem isPt_pts (n i : Int) : isPt ((pts n : Nat) : Int) i = isPt n i := by unfold isPt; rw [pts_pts]
theorem bt_ofR (n : Int) (xs : List (Int × Int)) (a b : Nat) : bt (ofR n xs) a b = wantB n xs (a : Int) (b : Int) := by
  suffices ∀ (xs : List (Int × Int)) m, RW m → bt (xs.foldl (fun m q => addR (pts n : Nat) m q.1 q.2) m) a b = (bt m a b || wantB n xs (a : Int) (b : Int)) by
    have h := this xs zs RW.zs
    rw [bt_zs, Bool.false_or] at h
    exact h
  intro xs
  induction xs with
  | nil => intro m _; simp [wantB]
  | cons q xs ih =>
    intro m hm
    rw [List.foldl_cons, ih _ (rw_addR hm _ _ _), bt_addR hm, isPt_pts, isPt_pts]
    unfold wantB
    rw [List.any_cons, Bool.or_assoc]
    congr 2
    unfold eqP inP
    cases isPt n q.1 <;> cases isPt n q.2 <;> cases decide (q.1 = (a : Int)) <;> cases decide (q.2 = (b : Int)) <;> rfl
theorem wantB_inP {n : Int} {xs : List (Int × Int)} {lo hi : Int} (h : wantB n xs lo hi = true) : inP n lo hi = true := by
  unfold wantB at h
  obtain ⟨q, _, h2⟩ := List.any_eq_true.1 h
  rw [Bool.and_eq_true] at h2
  unfold eqP at h2
  rw [Bool.and_eq_true, decide_eq_true_eq, decide_eq_true_eq] at h2
  obtain ⟨⟨rfl, rfl⟩, h3⟩ := h2
  exact h3
theorem has_of (n : Int) (xs : List (Int × Int)) (lo hi : Int) : hasR (pts n : Nat) (ofR n xs) lo hi = wantB n xs lo hi := by
  unfold hasR
  rw [isPt_pts, isPt_pts, bt_ofR]
  cases h1 : isPt n lo with
  | false =>
    cases h2 : wantB n xs lo hi with
    | false => rfl
    | true => have := wantB_inP h2; unfold inP at this; rw [h1] at this; cases this
  | true =>
    cases h3 : isPt n hi with
    | false =>
      cases h2 : wantB n xs lo hi with
      | false => rfl
      | true => have := wantB_inP h2; unfold inP at this; rw [h3] at this; simp at this
    | true =>
      have := isPt_iff.1 h1
      have := isPt_iff.1 h3
      rw [show ((lo.toNat : Nat) : Int) = lo by omega, show ((hi.toNat : Nat) : Int) = hi by omega]
      simp
theorem cl_of (n : Int) (xs : List (Int × Int)) : cl (pts n : Nat) (ofR n xs) = ofR n xs :=
  (eq_mk (rw_ofR n xs) _ _ (pts_le _) fun i j _ _ => by
    rw [pts_pts]
    cases h : bt (ofR n xs) i j with
    | false => simp
    | true =>
      rw [bt_ofR] at h
      have h2 := wantB_inP h
      unfold inP at h2
      rw [isPt_nat, isPt_nat] at h2
      rw [h2]; rfl).symm
theorem has_with (n : Int) (l : List Nat) (hl : RW l) (lo hi : Int) : hasR (pts n : Nat) (addR (pts n : Nat) l lo hi) lo hi = inP n lo hi := by
  unfold hasR inP
  rw [isPt_pts, isPt_pts]
  cases h1 : isPt n lo with
  | false => rfl
  | true =>
    cases h2 : isPt n hi with
    | false => rfl
    | true =>
      have h3 := isPt_iff.1 h1
      have h4 := isPt_iff.1 h2
      rw [bt_addR hl, isPt_pts, isPt_pts, h1, h2]
      have e1 : decide (lo = ((lo.toNat : Nat) : Int)) = true := by rw [decide_eq_true_eq]; omega
      have e2 : decide (hi = ((hi.toNat : Nat) : Int)) = true := by rw [decide_eq_true_eq]; omega
      rw [e1, e2]; simp

theorem run_eqPair (p q lo hi : Int) (w : World) : (binOp .eql 27 (.agg #[.int .i64 p, .int .i64 q]) (.agg #[.int .i64 lo, .int .i64 hi])).run Tryd.prog w = .ok (.bool (eqP p q lo hi)) w := by
  have e1 : (p == lo) = decide (p = lo) := by rw [Bool.eq_iff_iff]; simp
  have e2 : (q == hi) = decide (q = hi) := by rw [Bool.eq_iff_iff]; simp
  rw [run_eql_struct, run_equalIn_agg w 9999 _ _ _ (by simp only [Program.fieldsOf, Tryd.underlying27]) Tryd.stoodInHeld27]
  simp only [Program.fieldsOf, Tryd.underlying27, Op.eqFields, ne_eq, String.reduceEq, not_false_eq_true, if_true, Sem.run_bind,
    run_part_one (show (#[Value.int .i64 p, Value.int .i64 q])[0]? = some (.int .i64 p) from rfl),
    run_part_one (show (#[Value.int .i64 lo, Value.int .i64 hi])[0]? = some (.int .i64 lo) from rfl),
    Result.andThen_ok, run_equalIn_int w 9998 _ .i64 .i64 _ _ Tryd.underlying3, e1]
  unfold eqP
  by_cases h1 : p = lo
  · simp only [h1, decide_true, Bool.not_true, Bool.false_eq_true, if_false, Bool.true_and, Sem.run_bind, Result.andThen_ok, run_part_one (show (#[Value.int .i64 lo, Value.int .i64 q])[1]? = some (.int .i64 q) from rfl), run_part_one (show (#[Value.int .i64 lo, Value.int .i64 hi])[1]? = some (.int .i64 hi) from rfl), run_equalIn_int w 9998 _ .i64 .i64 _ _ Tryd.underlying3, e2]
    by_cases h2 : q = hi <;> simp [h2]
  · simp [h1]
end Go.Proofs.YtopckkdmldhmlaaDoor
