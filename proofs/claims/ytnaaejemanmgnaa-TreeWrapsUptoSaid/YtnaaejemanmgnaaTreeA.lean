/-
  The small functions of package tree and of the document's answer: closing kinds, equal roots, a fault. Conditions: none.
-/
import Derived.Test.YtnaaejemanmgnaaTreeKit
namespace Go.Proofs.Ytnaaejemanmgnaa
open Go.RowKit LX TR

theorem closing_any (k : Nat) (w : World) :
    Calls Try.prog 28 #[.int .u8 (k : Int)] w fun e w' => e = .returned (.int .u8 ((cl k : Nat) : Int)) ∧ w = w' := by
  rcases cl_cases k with ⟨rfl, h⟩ | ⟨rfl, h⟩ | ⟨rfl, h⟩ | ⟨h1, h2, h3, h⟩
  · rw [h]
    clear h
    go_enter Try.func28, Try.ntmps28
    go_wp2
    go_ret
    exact ⟨rfl, rfl⟩
  · rw [h]
    clear h
    go_enter Try.func28, Try.ntmps28
    go_wp2
    go_ret
    exact ⟨rfl, rfl⟩
  · rw [h]
    clear h
    go_enter Try.func28, Try.ntmps28
    go_wp2
    go_ret
    exact ⟨rfl, rfl⟩
  · rw [h]
    clear h
    have g1 : ((k : Int) == 40) = false := by rw [beq_eq_false_iff_ne]; omega
    have g2 : ((k : Int) == 123) = false := by rw [beq_eq_false_iff_ne]; omega
    have g3 : ((k : Int) == 91) = false := by rw [beq_eq_false_iff_ne]; omega
    clear h1 h2 h3
    go_enter Try.func28, Try.ntmps28
    go_wp2
    go_ret
    exact ⟨rfl, rfl⟩
theorem cls_cases (k : Nat) : (k = 41 ∧ cls k = true) ∨ (k = 125 ∧ cls k = true) ∨ (k = 93 ∧ cls k = true) ∨ (k ≠ 41 ∧ k ≠ 125 ∧ k ≠ 93 ∧ cls k = false) := by
  by_cases h1 : k = 41
  · subst h1; exact .inl ⟨rfl, rfl⟩
  · by_cases h2 : k = 125
    · subst h2; exact .inr (.inl ⟨rfl, rfl⟩)
    · by_cases h3 : k = 93
      · subst h3; exact .inr (.inr (.inl ⟨rfl, rfl⟩))
      · exact .inr (.inr (.inr ⟨h1, h2, h3, by simp [cls, h1, h2, h3]⟩))
theorem closes_any (k : Nat) (w : World) :
    Calls Try.prog 34 #[.int .u8 (k : Int)] w fun e w' => e = .returned (.bool (cls k)) ∧ w = w' := by
  rcases cls_cases k with ⟨rfl, h⟩ | ⟨rfl, h⟩ | ⟨rfl, h⟩ | ⟨h1, h2, h3, h⟩
  · rw [h]
    clear h
    go_enter Try.func34, Try.ntmps34
    go_wp2
    go_ret
    exact ⟨rfl, rfl⟩
  · rw [h]
    clear h
    go_enter Try.func34, Try.ntmps34
    go_wp2
    go_ret
    exact ⟨rfl, rfl⟩
  · rw [h]
    clear h
    go_enter Try.func34, Try.ntmps34
    go_wp2
    go_ret
    exact ⟨rfl, rfl⟩
  · rw [h]
    clear h
    have g1 : ((k : Int) == 41) = false := by rw [beq_eq_false_iff_ne]; omega
    have g2 : ((k : Int) == 125) = false := by rw [beq_eq_false_iff_ne]; omega
    have g3 : ((k : Int) == 93) = false := by rw [beq_eq_false_iff_ne]; omega
    clear h1 h2 h3
    go_enter Try.func34, Try.ntmps34
    go_wp2
    go_ret
    exact ⟨rfl, rfl⟩
theorem closer_any (k : Nat) (w : World) :
    Calls Try.prog 22 #[.int .u8 (k : Int)] w fun e w' => e = .returned (.int .u8 ((cl k : Nat) : Int)) ∧ w = w' := by
  rcases cl_cases k with ⟨rfl, h⟩ | ⟨rfl, h⟩ | ⟨rfl, h⟩ | ⟨h1, h2, h3, h⟩
  · rw [h]
    clear h
    go_enter Try.func22, Try.ntmps22
    go_wp2
    go_ret
    exact ⟨rfl, rfl⟩
  · rw [h]
    clear h
    go_enter Try.func22, Try.ntmps22
    go_wp2
    go_ret
    exact ⟨rfl, rfl⟩
  · rw [h]
    clear h
    go_enter Try.func22, Try.ntmps22
    go_wp2
    go_ret
    exact ⟨rfl, rfl⟩
  · rw [h]
    clear h
    have g1 : ((k : Int) == 40) = false := by rw [beq_eq_false_iff_ne]; omega
    have g2 : ((k : Int) == 123) = false := by rw [beq_eq_false_iff_ne]; omega
    have g3 : ((k : Int) == 91) = false := by rw [beq_eq_false_iff_ne]; omega
    clear h1 h2 h3
    go_enter Try.func22, Try.ntmps22
    go_wp2
    go_ret
    exact ⟨rfl, rfl⟩
theorem fault9_any (t : Tk) (w : World) :
    Calls Try.prog 21 #[.agg (tv t)] w fun e w' => e = .returned (.agg #[.int .i64 2, .int .i64 t.p]) ∧ Below w.heap.size w w' := by
  obtain ⟨k, s, p⟩ := t
  show Calls Try.prog 21 #[.agg #[.int .u8 (k : Int), .string s, .int .i64 p]] w fun e w' => e = .returned (.agg #[.int .i64 2, .int .i64 p]) ∧ Below w.heap.size w w'
  have hg1 := RowAt.new (w.alloc (.cells #[.int .u8 (k : Int), .string s, .int .i64 p] 36)) 27 #[.int .i64 2, .int .i64 p]
  rw [show (w.alloc (.cells #[.int .u8 (k : Int), .string s, .int .i64 p] 36)).heap.size = w.heap.size + 1 by simp] at hg1
  have HG := Lib.hid hg1; clear hg1
  go_enter Try.func21, Try.ntmps21
  go_wp2
  exact bodyPost_ret (results_cell_row rfl _ _ (w.heap.size + 1) _ _ (0, 0) _ rfl HG.out Try.underlying27 rfl (fault_info _ _)) rfl
    ⟨rfl, ((Below.refl _ _).alloc (Nat.le_refl _) _).alloc (by simp) _⟩
/-- Two trees but for their Kids. -/
def rootEq (x y : Tr) : Bool := decide (x.t = y.t) && decide (x.e = y.e)
theorem rootEq_any (x y : Tr) (w : World) :
    Calls Try.prog 31 #[.agg (trv x), .agg (trv y)] w fun e w' => e = .returned (.bool (rootEq x y)) ∧ Below w.heap.size w w' := by
  obtain ⟨⟨k1, s1, p1⟩, A1, c1, ks1, e1⟩ := x
  obtain ⟨⟨k2, s2, p2⟩, A2, c2, ks2, e2⟩ := y
  show Calls Try.prog 31 #[.agg #[.int .u8 (k1 : Int), .string s1, .int .i64 p1, .slice A1 ks1.length c1, .int .i64 e1], .agg #[.int .u8 (k2 : Int), .string s2, .int .i64 p2, .slice A2 ks2.length c2, .int .i64 e2]] w fun e w' => e = .returned (.bool (decide ((⟨k1, s1, p1⟩ : Tk) = ⟨k2, s2, p2⟩) && decide (e1 = e2))) ∧ Below w.heap.size w w'
  have hq : (decide ((⟨k1, s1, p1⟩ : Tk) = ⟨k2, s2, p2⟩)) = (decide (k1 = k2) && (decide (s1 = s2) && decide (p1 = p2))) := by
    rw [Bool.eq_iff_iff]; simp
  rw [hq]
  clear hq
  have q1 := int_beq k1 k2
  have q2 := NM.str_eq s1 s2
  have q3 : (p1 == p2) = decide (p1 = p2) := rfl
  have q4 : (e1 == e2) = decide (e1 = e2) := rfl
  generalize decide (k1 = k2) = d1 at *
  generalize decide (s1 = s2) = d2 at *
  generalize decide (p1 = p2) = d3 at *
  generalize decide (e1 = e2) = d4 at *
  generalize ks1.length = n1
  generalize ks2.length = n2
  cases d1 <;> cases d2 <;> cases d3 <;> cases d4
  all_goals
    go_enter Try.func31, Try.ntmps31
    go_wp2
    try go_quiet (fail)
    try go_wp2
    go_ret
    exact ⟨rfl, by first | exact ((Below.refl _ _).alloc (Nat.le_refl _) _).alloc (by simp) _ | exact bdrewN (((Below.refl _ _).alloc (Nat.le_refl _) _).alloc (by simp) _) _⟩
end Go.Proofs.Ytnaaejemanmgnaa
