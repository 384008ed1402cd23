/-
  What Same of package tree returns: a stack of pairs of lists. Conditions: fewer than 2^29 trees.
-/
import Derived.Test.YtnaaejemanmgnaaTreeD
import Derived.Test.YtnaaejemanmgnaaTreeJ
namespace Go.Proofs.Ytnaaejemanmgnaa
namespace TR
open LX
/-- The roots of two lists but for their Kids. -/
def rootsEq : List Tr → List Tr → Bool
  | [], [] => true
  | x :: a, y :: b => rootEq x y && rootsEq a b
  | _, _ => false
def kidsSame : List Tr → List Tr → Bool
  | x :: a, y :: b => TR.same x.ks y.ks && kidsSame a b
  | _, _ => true
theorem rootsEq_len : ∀ {a b : List Tr}, ¬ a.length = b.length → rootsEq a b = false
  | [], [], h => absurd rfl h
  | [], _ :: _, _ => rfl
  | _ :: _, [], _ => rfl
  | _ :: a, _ :: b, h => by rw [rootsEq, rootsEq_len (a := a) (b := b) (by simpa using h)]; simp
theorem same_split : ∀ a b : List Tr, TR.same a b = (rootsEq a b && kidsSame a b)
  | [], [] => by simp [TR.same, rootsEq, kidsSame]
  | [], y :: _ => by cases y; simp [TR.same, rootsEq]
  | x :: _, [] => by cases x; simp [TR.same, rootsEq]
  | x :: a, y :: b => by
    rw [TR.same_cons, same_split a b, rootsEq, kidsSame, rootEq]
    generalize (decide (x.t = y.t) && decide (x.e = y.e)) = p
    cases p <;> cases TR.same x.ks y.ks <;> cases rootsEq a b <;> cases kidsSame a b <;> rfl
/-- A pair of lists, and where they lie. -/
structure Pr where
  A : Option Addr
  c : Nat
  a : List Tr
  B : Option Addr
  d : Nat
  b : List Tr
def prcells (p : Pr) : List Value := [.slice p.A p.a.length p.c, .slice p.B p.b.length p.d]
theorem prcells_length (p : Pr) : (prcells p).length = 2 := rfl
def prs (ps : List Pr) : List Value := ps.flatMap prcells
theorem prs_length (ps : List Pr) : (prs ps).length = ps.length * 2 := fm_length prcells_length ps
theorem prs_append (a b : List Pr) : prs (a ++ b) = prs a ++ prs b := by simp [prs]
theorem prs_one (p : Pr) : prs [p] = prcells p := by simp [prs]
theorem prs_top (ws : List Pr) (v : Pr) (j : Nat) : (prs (ws ++ [v]))[ws.length * 2 + j]? = (prcells v)[j]? := by
  rw [prs_append, prs_one, List.getElem?_append_right (by rw [prs_length]; omega), prs_length, show ws.length * 2 + j - ws.length * 2 = j by omega]
theorem prs_cut (ws : List Pr) (v : Pr) : (prs (ws ++ [v])).take (ws.length * 2) = prs ws := by
  rw [prs_append]; exact List.take_left' (prs_length ws)
def allS (ps : List Pr) : Bool := ps.all fun p => TR.same p.a p.b
theorem allS_snoc (ps : List Pr) (p : Pr) : allS (ps ++ [p]) = (allS ps && TR.same p.a p.b) := by simp [allS]
def pw : List Pr → Nat
  | [] => 0
  | p :: ps => (nodes p.a).length + 1 + pw ps
theorem pw_append (a b : List Pr) : pw (a ++ b) = pw a + pw b := by
  induction a with
  | nil => simp [pw]
  | cons v a ih => simp only [List.cons_append, pw, ih]; omega
theorem pw_length (a : List Pr) : a.length ≤ pw a := by
  induction a with
  | nil => simp
  | cons v a ih => simp only [List.length_cons, pw]; omega
theorem rootsEq_at {a b : List Tr} (h : a.length = b.length) : (∀ i, i < a.length → rootEq (a.getD i r0) (b.getD i r0) = false → rootsEq a b = false) ∧ ((∀ j, j < a.length → rootEq (a.getD j r0) (b.getD j r0) = true) → rootsEq a b = true) := by
  induction a generalizing b with
  | nil =>
    cases b with
    | nil => exact ⟨fun i hi => by simp at hi, fun _ => rfl⟩
    | cons y b => simp at h
  | cons x a ih =>
    cases b with
    | nil => simp at h
    | cons y b =>
      have h2 := ih (b := b) (by simpa using h)
      refine ⟨fun i hi he => ?_, fun hh => ?_⟩
      · rw [rootsEq]
        cases i with
        | zero =>
          simp only [List.getD_cons_zero] at he
          rw [he]; rfl
        | succ i =>
          simp only [List.getD_cons_succ] at he
          rw [h2.1 i (by simpa using hi) he]; simp
      · rw [rootsEq]
        have e0 := hh 0 (by simp)
        simp only [List.getD_cons_zero] at e0
        rw [e0, h2.2 (fun j hj => by
          have := hh (j + 1) (by simpa using hj)
          simpa using this)]
        rfl
end TR
open Go.RowKit LX TR

theorem infoPr : (Try.prog.info? 48).map (fun i => (i.zero, i.size, i.bytes)) = some (some (.agg #[.slice none 0 0, .slice none 0 0]), 2, 48) := by kernel_rfl
set_option maxHeartbeats 800000 in
theorem equalTree_any (A B : Option Addr) (c d : Nat) (a b : List Tr) (F : FuncId) (hf : ∀ args w, (callFunc F args).run Try.prog w = .ok (.enter F args) w) (w : World) (D : Nat) (hD : D ≤ w.heap.size) (hl : a.length ≤ 4294967296) (hA : Trs w D A a) (hB : Trs w D B b)
    (hC : ∀ x y w, Calls Try.prog F #[.agg (trv x), .agg (trv y)] w fun e w' => e = .returned (.bool (rootEq x y)) ∧ Below w.heap.size w w') :
    Calls Try.prog 30 #[.slice A a.length c, .slice B b.length d, .func (.func F) #[] #[]] w fun e w' => e = .returned (.bool (rootsEq a b)) ∧ Below w.heap.size w w' := by
  have HA := Lib.hid hA; clear hA
  have HB := Lib.hid hB; clear hB
  have HC := Lib.hid hC; clear hC
  unfold trv at HC
  by_cases hab : a.length = b.length
  · have HIT := Lib.hid (rootsEq_at hab).1
    have MISS := Lib.hid (rootsEq_at hab).2
    generalize rootsEq a b = r at *
    have HM := Lib.hid hab.symm
    rw [← hab]
    clear hab
    generalize hn : a.length = n at *
    have HN := Lib.hid hn; clear hn
    go_enter Try.func30, Try.ntmps30
    go_wp2
    go_loopw [17] (fun iv wr => ∃ i : Nat, i ≤ n ∧ iv = .int .i64 i ∧ Hid (∀ j, j < i → rootEq (a.getD j r0) (b.getD j r0) = true) ∧ Hid (Below w.heap.size w wr)) (fun iv _ => n - (intOf iv).toNat)
    case atStart => exact ⟨0, by omega, rfl, fun j hj => by omega, Below.refl _ _⟩
    case round =>
      obtain ⟨i, hi, rfl, HF, HW⟩ := hrel
      by_cases hlt : i < n
      · obtain ⟨ba, oa, rfl, hla, hca⟩ := (HA.out.below (HW.out.mono hD)).at (k := i) (by rw [HN.out]; exact hlt)
        obtain ⟨bb, ob, rfl, hlb, hcb⟩ := (HB.out.below (HW.out.mono hD)).at (k := i) (by rw [HM.out]; exact hlt)
        obtain ⟨ha0, ha1, ha2, ha3, ha4⟩ := hca i (by rw [HN.out]; exact hlt)
        obtain ⟨hb0, hb1, hb2, hb3, hb4⟩ := hcb i (by rw [HM.out]; exact hlt)
        clear hca hcb
        have hsz := HW.out.size
        have hla2 : ba < wr.heap.size := by omega
        have hlb2 : bb < wr.heap.size := by omega
        have HIN : Hid (rootEq (a.getD i r0) (b.getD i r0) = true → ∀ j, j < i + 1 → rootEq (a.getD j r0) (b.getD j r0) = true) := fun h j hj => by
          by_cases hji : j = i
          · rw [hji]; exact h
          · exact HF.out j (by omega)
        have HNO : Hid (rootEq (a.getD i r0) (b.getD i r0) = false → r = false) := fun h => HIT.out i hlt h
        clear HF
        have HCC := Lib.hid (HC.out (a.getD i r0) (b.getD i r0))
        generalize rootEq (a.getD i r0) (b.getD i r0) = q at *
        generalize (a.getD i r0).t.k = k1 at *
        generalize (a.getD i r0).t.s = s1 at *
        generalize (a.getD i r0).t.p = p1 at *
        generalize (a.getD i r0).A = A1 at *
        generalize (a.getD i r0).c = c1 at *
        generalize (a.getD i r0).ks.length = n1 at *
        generalize (a.getD i r0).e = e1 at *
        generalize (b.getD i r0).t.k = k2 at *
        generalize (b.getD i r0).t.s = s2 at *
        generalize (b.getD i r0).t.p = p2 at *
        generalize (b.getD i r0).A = A2 at *
        generalize (b.getD i r0).c = c2 at *
        generalize (b.getD i r0).ks.length = n2 at *
        generalize (b.getD i r0).e = e2 at *
        have HB2 : Hid (Below w.heap.size w ((wr.alloc (.cells #[.int .u8 (k1 : Int), .string s1, .int .i64 p1, .slice A1 n1 c1, .int .i64 e1] 38)).alloc (.cells #[.int .u8 (k2 : Int), .string s2, .int .i64 p2, .slice A2 n2 c2, .int .i64 e2] 38))) :=
          (HW.out.alloc HW.out.size _).alloc (by have := HW.out.size; simp; omega) _
        cases q
        · have HT := Lib.hid (HNO.out rfl)
          clear HNO HIN
          go_wp2_with fail
          refine (HCC.out _).mono ?_
          rintro e w1 ⟨rfl, hb⟩
          have HW1 := Lib.hid (HB2.out.trans (hb.mono HB2.out.size)); clear hb
          go_wp2
          go_ret
          exact ⟨ret_eq (bool_eq HT.out.symm), HW1.out⟩
        · have HT := Lib.hid (HIN.out rfl)
          clear HNO HIN
          go_wp2_with fail
          refine (HCC.out _).mono ?_
          rintro e w1 ⟨rfl, hb⟩
          have HW1 := Lib.hid (HB2.out.trans (hb.mono HB2.out.size)); clear hb
          go_wp2
          go_roundw
          case rel => exact ⟨i + 1, by omega, by go_num, HT, HW1⟩
          case measure => simp [intOf]; omega
      · obtain rfl : i = n := by omega
        have HR := Lib.hid (MISS.out HF.out)
        go_wp2
        go_ret
        exact ⟨ret_eq (bool_eq HR.out.symm), HW.out⟩
  · rw [rootsEq_len hab]
    have hne : ((a.length : Int) != (b.length : Int)) = true := by simp; omega
    clear hab
    generalize a.length = n at *
    generalize b.length = m at *
    go_enter Try.func30, Try.ntmps30
    go_wp2
    go_ret
    exact ⟨rfl, Below.refl _ _⟩
end Go.Proofs.Ytnaaejemanmgnaa
