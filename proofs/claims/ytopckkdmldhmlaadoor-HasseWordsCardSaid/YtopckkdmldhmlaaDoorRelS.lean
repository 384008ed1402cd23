/-
  RelateLeast holds. Conditions: 64 words below 2^64; the table of math/bits in memory.
-/
import Derived.Test.YtopckkdmldhmlaaDoorRelR
namespace Go.Proofs.YtopckkdmldhmlaaDoor
open Go.RowKit RM

section
variable {o : Oper} {a : Act} {S : World → Prop}
theorem take_field1 (x : Operand) (ho : o.op = .field 25 x 1) (n : Int) (l : List Nat) (hl : RW l) (hx : a.eval x = .agg (rv n l)) :
    ∀ w, S w → (execOp a.eval o).run Tryd.prog w = .ok (.value (.agg (uv l))) w := by
  intro w _
  unfold execOp
  simp only [ho, hx, Sem.run_bind, Sem.run_pure, Result.andThen_ok, run_field1 n hl]
theorem take_index (x y : Operand) (ho : o.op = .index 23 x y) (l : List Nat) (hl : RW l) (i : Nat) (hi : i < 64) (hx : a.eval x = .agg (uv l)) (hy : a.eval y = .int .i64 (i : Int)) :
    ∀ w, S w → (execOp a.eval o).run Tryd.prog w = .ok (.value (.int .u64 ((l.getD i 0 : Nat) : Int))) w := by
  intro w _
  unfold execOp
  simp only [ho, hx, hy, Sem.run_bind, Sem.run_pure, Result.andThen_ok, run_index hl i hi]
end
/-- What is within: the bits of x without those of y. -/
theorem andNot_zero {x y : Nat} (hy : y < 18446744073709551616) (h : x &&& (18446744073709551615 - y) = 0) (j : Nat) (hj : j < 64) (hb : x.testBit j = true) : y.testBit j = true := by
  have h1 := congrArg (·.testBit j) h
  simp only [Nat.testBit_and, MM.not_bit y j hy, hb, Nat.zero_testBit, Bool.true_and] at h1
  simpa [hj] using h1
theorem least_end {n nb : Int} {l lb : List Nat} (hlb : RW lb) (lo hi : Int) (hc : hasR (pts n : Nat) (cz n l) lo hi = true) (hn : 0 < pts n → nb = (pts n : Int) ∧ closedB nb lb = true)
    (h : ∀ a, a < pts n → (cl n l).getD a 0 &&& (18446744073709551615 - lb.getD a 0) = 0) : hasR nb lb lo hi = true := by
  obtain ⟨a, b, rfl, rfl, ha, hb, h1⟩ := hasR_iff.1 hc
  rw [pts_pts] at ha hb
  rw [bt_cz] at h1
  obtain ⟨h2, h3⟩ := hn (by omega)
  have hp : pts nb = pts n := by rw [h2, pts_pts]
  have hcl := (closedB_iff nb lb).1 h3
  rw [hp] at hcl
  refine hasR_iff.2 ⟨a, b, rfl, rfl, by omega, by omega, ?_⟩
  have hp64 := pts_le n
  refine clo_least hcl (fun x y hx hy hr => ?_) h1
  refine andNot_zero (hlb.lt x) (h x hx) y (by omega) ?_
  show bt (cl n l) x y = true
  rw [bt_cl]; simp [hx, hy, hr]
end Go.Proofs.YtopckkdmldhmlaaDoor
