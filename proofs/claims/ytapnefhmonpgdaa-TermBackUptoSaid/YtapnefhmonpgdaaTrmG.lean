/-
  Whether two lists of words or of nodes are equal by a test. Conditions: fewer than 2^40.
-/
import Derived.Test.YtapnefhmonpgdaaTrmF
import Derived.Test.YtapnefhmonpgdaaTrmB
set_option linter.unusedSimpArgs false
set_option linter.unusedVariables false
namespace Go.Proofs.Ytapnefhmonpgdaa
namespace TM
def eqL {α : Type} (g : α → α → Bool) : List α → List α → Bool
  | [], [] => true
  | [], _ :: _ => false
  | _ :: _, [] => false
  | x :: a, y :: b => g x y && eqL g a b
set_option maxRecDepth 8000 in
theorem eqL_len {α : Type} {g : α → α → Bool} : ∀ {a b : List α}, ¬ a.length = b.length → eqL g a b = false
  | [], [], h => absurd rfl h
  | [], _ :: _, _ => rfl
  | _ :: _, [], _ => rfl
  | x :: a, y :: b, h => by
    rw [eqL, eqL_len (fun e => h (by simp [e]))]
    exact Bool.and_false _
set_option maxRecDepth 8000 in
theorem eqL_hit {α : Type} {g : α → α → Bool} {z : α} : ∀ {a b : List α}, a.length = b.length → ∀ i, i < a.length → g (a.getD i z) (b.getD i z) = false → eqL g a b = false
  | [], [], _, i, hi, _ => by simp at hi
  | x :: a, y :: b, h, 0, _, hg => by
    rw [List.getD_cons_zero, List.getD_cons_zero] at hg
    rw [eqL, hg]; rfl
  | x :: a, y :: b, h, i + 1, hi, hg => by
    rw [List.getD_cons_succ, List.getD_cons_succ] at hg
    rw [eqL, eqL_hit (z := z) (by simpa using h) i (by simpa using hi) hg]
    exact Bool.and_false _
set_option maxRecDepth 8000 in
theorem eqL_all {α : Type} {g : α → α → Bool} {z : α} : ∀ {a b : List α}, a.length = b.length → (∀ i, i < a.length → g (a.getD i z) (b.getD i z) = true) → eqL g a b = true
  | [], [], _, _ => rfl
  | x :: a, y :: b, h, hg => by
    have h0 := hg 0 (by simp)
    rw [List.getD_cons_zero, List.getD_cons_zero] at h0
    rw [eqL, h0, eqL_all (z := z) (by simpa using h) fun i hi => by
      have h1 := hg (i + 1) (by simpa using hi)
      rw [List.getD_cons_succ, List.getD_cons_succ] at h1
      exact h1]
    rfl
set_option maxRecDepth 8000 in
theorem getD_memL {α : Type} {l : List α} {i : Nat} {z : α} (h : i < l.length) : l.getD i z ∈ l := by
  rw [List.getD_eq_getElem?_getD, List.getElem?_eq_getElem h]
  exact List.getElem_mem h
end TM
open Go.RowKit LX TR TM

set_option maxRecDepth 100000 in
set_option maxHeartbeats 1600000 in
theorem equalW_any {F : FuncId} {g : Wd → Wd → Bool} (hf : ∀ args w, (callFunc F args).run Try.prog w = .ok (.enter F args) w) (A B : Option Addr) (c d : Nat) (a b : List Wd) (hn : a.length ≤ 1099511627776) (w : World)
    (hA : Sl w w.heap.size A (wcs a)) (hB : Sl w w.heap.size B (wcs b))
    (hC : ∀ x ∈ a, ∀ y ∈ b, ∀ W, Below w.heap.size w W → Calls Try.prog F #[.agg (wv x), .agg (wv y)] W fun e w' => e = .returned (.bool (g x y)) ∧ Below W.heap.size W w') :
    Calls Try.prog 42 #[.slice A a.length c, .slice B b.length d, .func (.func F) #[] #[]] w fun e w' => e = .returned (.bool (eqL g a b)) ∧ Below w.heap.size w w' := by
  have HA := Lib.hid hA; clear hA
  have HB := Lib.hid hB; clear hB
  have HC : Hid (∀ i, i < a.length → a.length = b.length → ∀ W, Below w.heap.size w W → Calls Try.prog F #[.agg (wv (a.getD i w0)), .agg (wv (b.getD i w0))] W fun e w' => e = .returned (.bool (g (a.getD i w0) (b.getD i w0))) ∧ Below W.heap.size W w') := fun i hi he W h => hC _ (getD_memL hi) _ (getD_memL (l := b) (i := i) (z := w0) (by rw [← he]; exact hi)) W h
  clear hC
  by_cases hab : a.length = b.length
  · have HIT := Lib.hid (fun i (hi : i < a.length) => @eqL_hit _ g w0 a b hab i hi)
    have MISS := Lib.hid (@eqL_all _ g w0 a b hab)
    have HCC := Lib.hid (fun i (hi : i < a.length) => HC.out i hi hab)
    clear HC
    generalize eqL g a b = r at *
    have HM := Lib.hid hab.symm
    rw [← hab]
    clear hab
    generalize hn' : a.length = n at *
    have HN := Lib.hid hn'; clear hn'
    go_enter Try.func42, Try.ntmps42
    go_wp2_with fail
    go_loopw [17] (fun iv wr => ∃ i : Nat, i ≤ n ∧ iv = .int .i64 i ∧ Hid (∀ j, j < i → g (a.getD j w0) (b.getD j w0) = true) ∧ Hid (Below w.heap.size w wr)) (fun iv _ => n - (intOf iv).toNat)
    case atStart => exact ⟨0, by omega, rfl, fun j hj => by omega, Below.refl _ _⟩
    case round =>
      obtain ⟨i, hi, rfl, HF, HW⟩ := hrel
      by_cases hlt : i < n
      · obtain ⟨ba, oa, rfl, hla, hca⟩ := sl_at (z := w0) wcells_length (HA.out.below HW.out) (k := i) (by rw [HN.out]; exact hlt) (by omega)
        have p0 := hca i 0 _ (by rw [HN.out]; exact hlt) (by omega) rfl
        have p1 := hca i 1 _ (by rw [HN.out]; exact hlt) (by omega) rfl
        rw [Nat.add_zero] at p0
        rw [← Nat.add_assoc] at p1
        have HIN : Hid (g (a.getD i w0) (b.getD i w0) = true → ∀ j, j < i + 1 → g (a.getD j w0) (b.getD j w0) = true) := fun h j hj => by
          by_cases hji : j = i
          · rw [hji]; exact h
          · exact HF.out j (by omega)
        have HNO : Hid (g (a.getD i w0) (b.getD i w0) = false → r = false) := fun h => HIT.out i hlt h
        have HD := Lib.hid (HCC.out i hlt)
        have hin : (i : Int) < (n : Int) := by omega
        clear hca HF
        generalize g (a.getD i w0) (b.getD i w0) = q at *
        generalize a.getD i w0 = x at *
        obtain ⟨s1, f1⟩ := x
        unfold wv at HD
        simp only at p0 p1 HD
        obtain ⟨bb, ob, rfl, hlb, hcb⟩ := sl_at (z := w0) wcells_length (HB.out.below (HW.out.alloc HW.out.size (.cells #[.string s1, .int .i64 f1] 69))) (k := i) (by rw [HM.out]; exact hlt) (by omega)
        have q0 := hcb i 0 _ (by rw [HM.out]; exact hlt) (by omega) rfl
        have q1 := hcb i 1 _ (by rw [HM.out]; exact hlt) (by omega) rfl
        rw [Nat.add_zero] at q0
        rw [← Nat.add_assoc] at q1
        clear hcb
        generalize b.getD i w0 = y at *
        obtain ⟨s2, f2⟩ := y
        simp only at q0 q1 HD
        have HB2 : Hid (Below w.heap.size w ((wr.alloc (.cells #[.string s1, .int .i64 f1] 69)).alloc (.cells #[.string s2, .int .i64 f2] 69))) :=
          (HW.out.alloc HW.out.size _).alloc (by have := HW.out.size; simp; omega) _
        cases q
        · have HT := Lib.hid (HNO.out rfl)
          clear HNO HIN
          go_wp2_with fail
          refine (HD.out _ HB2.out).mono ?_
          rintro e w1 ⟨rfl, hb⟩
          have HW1 := Lib.hid (HB2.out.trans (hb.mono HB2.out.size)); clear hb
          go_wp2_with fail
          go_ret
          exact ⟨ret_eq (bool_eq HT.out.symm), HW1.out⟩
        · have HT := Lib.hid (HIN.out rfl)
          clear HNO HIN
          go_wp2_with fail
          refine (HD.out _ HB2.out).mono ?_
          rintro e w1 ⟨rfl, hb⟩
          have HW1 := Lib.hid (HB2.out.trans (hb.mono HB2.out.size)); clear hb
          go_wp2_with fail
          go_roundw
          case rel => exact ⟨i + 1, by omega, by go_num, HT, HW1⟩
          case measure => simp [intOf]; omega
      · obtain rfl : i = n := by omega
        have HR := Lib.hid (MISS.out HF.out)
        go_wp2_with fail
        go_ret
        exact ⟨ret_eq (bool_eq HR.out.symm), HW.out⟩
  · rw [eqL_len hab]
    have hne : ((a.length : Int) != (b.length : Int)) = true := by simp; omega
    clear hab HC
    generalize a.length = n at *
    generalize b.length = m at *
    go_enter Try.func42, Try.ntmps42
    go_wp2_with fail
    go_ret
    exact ⟨rfl, Below.refl _ _⟩

set_option maxRecDepth 100000 in
set_option maxHeartbeats 1600000 in
theorem equalN_any {F : FuncId} {g : Nd → Nd → Bool} (hf : ∀ args w, (callFunc F args).run Try.prog w = .ok (.enter F args) w) (A B : Option Addr) (c d : Nat) (a b : List Nd) (hn : a.length ≤ 1099511627776) (w : World)
    (hA : Sl w w.heap.size A (ncs a)) (hB : Sl w w.heap.size B (ncs b))
    (hC : ∀ x ∈ a, ∀ y ∈ b, ∀ W, Below w.heap.size w W → Calls Try.prog F #[.agg (nv x), .agg (nv y)] W fun e w' => e = .returned (.bool (g x y)) ∧ Below W.heap.size W w') :
    Calls Try.prog 43 #[.slice A a.length c, .slice B b.length d, .func (.func F) #[] #[]] w fun e w' => e = .returned (.bool (eqL g a b)) ∧ Below w.heap.size w w' := by
  have HA := Lib.hid hA; clear hA
  have HB := Lib.hid hB; clear hB
  have HC : Hid (∀ i, i < a.length → a.length = b.length → ∀ W, Below w.heap.size w W → Calls Try.prog F #[.agg (nv (a.getD i n0)), .agg (nv (b.getD i n0))] W fun e w' => e = .returned (.bool (g (a.getD i n0) (b.getD i n0))) ∧ Below W.heap.size W w') := fun i hi he W h => hC _ (getD_memL hi) _ (getD_memL (l := b) (i := i) (z := n0) (by rw [← he]; exact hi)) W h
  clear hC
  by_cases hab : a.length = b.length
  · have HIT := Lib.hid (fun i (hi : i < a.length) => @eqL_hit _ g n0 a b hab i hi)
    have MISS := Lib.hid (@eqL_all _ g n0 a b hab)
    have HCC := Lib.hid (fun i (hi : i < a.length) => HC.out i hi hab)
    clear HC
    generalize eqL g a b = r at *
    have HM := Lib.hid hab.symm
    rw [← hab]
    clear hab
    generalize hn' : a.length = n at *
    have HN := Lib.hid hn'; clear hn'
    go_enter Try.func43, Try.ntmps43
    go_wp2_with fail
    go_loopw [17] (fun iv wr => ∃ i : Nat, i ≤ n ∧ iv = .int .i64 i ∧ Hid (∀ j, j < i → g (a.getD j n0) (b.getD j n0) = true) ∧ Hid (Below w.heap.size w wr)) (fun iv _ => n - (intOf iv).toNat)
    case atStart => exact ⟨0, by omega, rfl, fun j hj => by omega, Below.refl _ _⟩
    case round =>
      obtain ⟨i, hi, rfl, HF, HW⟩ := hrel
      by_cases hlt : i < n
      · obtain ⟨ba, oa, rfl, hla, hca⟩ := sl_at (z := n0) ncells_length (HA.out.below HW.out) (k := i) (by rw [HN.out]; exact hlt) (by omega)
        have p0 := hca i 0 _ (by rw [HN.out]; exact hlt) (by omega) rfl
        have p1 := hca i 1 _ (by rw [HN.out]; exact hlt) (by omega) rfl
        have p2 := hca i 2 _ (by rw [HN.out]; exact hlt) (by omega) rfl
        have p3 := hca i 3 _ (by rw [HN.out]; exact hlt) (by omega) rfl
        have p4 := hca i 4 _ (by rw [HN.out]; exact hlt) (by omega) rfl
        rw [Nat.add_zero] at p0
        rw [← Nat.add_assoc] at p1 p2 p3 p4
        have HIN : Hid (g (a.getD i n0) (b.getD i n0) = true → ∀ j, j < i + 1 → g (a.getD j n0) (b.getD j n0) = true) := fun h j hj => by
          by_cases hji : j = i
          · rw [hji]; exact h
          · exact HF.out j (by omega)
        have HNO : Hid (g (a.getD i n0) (b.getD i n0) = false → r = false) := fun h => HIT.out i hlt h
        have HD := Lib.hid (HCC.out i hlt)
        have hin : (i : Int) < (n : Int) := by omega
        clear hca HF
        generalize g (a.getD i n0) (b.getD i n0) = q at *
        generalize a.getD i n0 = x at *
        obtain ⟨xk, xp, xs, xA, xc, xw, xB, xd, xx⟩ := x
        unfold nv at HD
        simp only [Nd.k, Nd.p, Nd.s, Nd.A, Nd.c, Nd.ws, Nd.B, Nd.d, Nd.ks] at p0 p1 p2 p3 p4 HD
        obtain ⟨bb, ob, rfl, hlb, hcb⟩ := sl_at (z := n0) ncells_length (HB.out.below (HW.out.alloc HW.out.size (.cells #[.int .i64 xk, .int .i64 xp, .string xs, .slice xA xw.length xc, .slice xB xx.length xd] 32))) (k := i) (by rw [HM.out]; exact hlt) (by omega)
        have q0 := hcb i 0 _ (by rw [HM.out]; exact hlt) (by omega) rfl
        have q1 := hcb i 1 _ (by rw [HM.out]; exact hlt) (by omega) rfl
        have q2 := hcb i 2 _ (by rw [HM.out]; exact hlt) (by omega) rfl
        have q3 := hcb i 3 _ (by rw [HM.out]; exact hlt) (by omega) rfl
        have q4 := hcb i 4 _ (by rw [HM.out]; exact hlt) (by omega) rfl
        rw [Nat.add_zero] at q0
        rw [← Nat.add_assoc] at q1 q2 q3 q4
        clear hcb
        generalize b.getD i n0 = y at *
        obtain ⟨yk, yp, ys, yA, yc, yw, yB, yd, yy⟩ := y
        simp only [Nd.k, Nd.p, Nd.s, Nd.A, Nd.c, Nd.ws, Nd.B, Nd.d, Nd.ks] at q0 q1 q2 q3 q4 HD
        have HB2 : Hid (Below w.heap.size w ((wr.alloc (.cells #[.int .i64 xk, .int .i64 xp, .string xs, .slice xA xw.length xc, .slice xB xx.length xd] 32)).alloc (.cells #[.int .i64 yk, .int .i64 yp, .string ys, .slice yA yw.length yc, .slice yB yy.length yd] 32))) :=
          (HW.out.alloc HW.out.size _).alloc (by have := HW.out.size; simp; omega) _
        cases q
        · have HT := Lib.hid (HNO.out rfl)
          clear HNO HIN
          go_wp2_with fail
          refine (HD.out _ HB2.out).mono ?_
          rintro e w1 ⟨rfl, hb⟩
          have HW1 := Lib.hid (HB2.out.trans (hb.mono HB2.out.size)); clear hb
          go_wp2_with fail
          go_ret
          exact ⟨ret_eq (bool_eq HT.out.symm), HW1.out⟩
        · have HT := Lib.hid (HIN.out rfl)
          clear HNO HIN
          go_wp2_with fail
          refine (HD.out _ HB2.out).mono ?_
          rintro e w1 ⟨rfl, hb⟩
          have HW1 := Lib.hid (HB2.out.trans (hb.mono HB2.out.size)); clear hb
          go_wp2_with fail
          go_roundw
          case rel => exact ⟨i + 1, by omega, by go_num, HT, HW1⟩
          case measure => simp [intOf]; omega
      · obtain rfl : i = n := by omega
        have HR := Lib.hid (MISS.out HF.out)
        go_wp2_with fail
        go_ret
        exact ⟨ret_eq (bool_eq HR.out.symm), HW.out⟩
  · rw [eqL_len hab]
    have hne : ((a.length : Int) != (b.length : Int)) = true := by simp; omega
    clear hab HC
    generalize a.length = n at *
    generalize b.length = m at *
    go_enter Try.func43, Try.ntmps43
    go_wp2_with fail
    go_ret
    exact ⟨rfl, Below.refl _ _⟩
end Go.Proofs.Ytapnefhmonpgdaa

/-
  The program's Same of nodes. Conditions: at most 2^32 nodes and words in the first.
-/
namespace Go.Proofs.Ytapnefhmonpgdaa
namespace TM
def sw (a b : Wd) : Bool := decide (a.s = b.s)
def sms : List Nd → List Nd → Bool
  | [], [] => true
  | [], _ :: _ => false
  | _ :: _, [] => false
  | .mk k _ s _ _ ws _ _ ks :: r, y :: b => (decide (k = y.k) && (decide (s = y.s) && (eqL sw ws y.ws && sms ks y.ks))) && sms r b
/-- Whether two nodes are the same but for offsets. -/
def sm (x y : Nd) : Bool := decide (x.k = y.k) && (decide (x.s = y.s) && (eqL sw x.ws y.ws && sms x.ks y.ks))
set_option maxRecDepth 8000 in
theorem sms_eqL : ∀ a b : List Nd, sms a b = eqL sm a b
  | [], [] => by rw [sms, eqL]
  | [], _ :: _ => by rw [sms, eqL]
  | _ :: _, [] => by rw [sms, eqL]
  | .mk k p s A c ws B d ks :: r, y :: b => by rw [sms, eqL, sms_eqL r b]; rfl
set_option maxRecDepth 8000 in
theorem sm_mk {xk xp xs xA xc xw xB xd xx yk yp ys yA yc yw yB yd yy} : sm (.mk xk xp xs xA xc xw xB xd xx) (.mk yk yp ys yA yc yw yB yd yy) = (decide (xk = yk) && (decide (xs = ys) && (eqL sw xw yw && eqL sm xx yy))) := by
  rw [← sms_eqL]; rfl
end TM
open Go.RowKit LX TR TM
set_option maxRecDepth 8000 in
set_option maxHeartbeats 800000 in
theorem same1_any (x y : Wd) (w : World) : Calls Try.prog 41 #[.agg (wv x), .agg (wv y)] w fun e w' => e = .returned (.bool (sw x y)) ∧ Below w.heap.size w w' := by
  obtain ⟨s, p⟩ := x
  obtain ⟨t, q⟩ := y
  have hB : Below w.heap.size w ((w.alloc (.cells #[.string s, .int .i64 p] 69)).alloc (.cells #[.string t, .int .i64 q] 69)) := ((Below.refl _ _).alloc (Nat.le_refl _) _).alloc (by simp) _
  have HB := Lib.hid hB
  have q1 := NM.str_eq s t
  have HX : Hid (sw ⟨s, p⟩ ⟨t, q⟩ = decide (s = t)) := rfl
  rw [HX.out]
  clear hB HX
  unfold wv
  simp only
  generalize decide (s = t) = r at *
  go_enter Try.func41, Try.ntmps41
  go_wp2_with fail
  go_ret
  exact ⟨rfl, HB.out⟩
set_option maxRecDepth 100000 in
set_option maxHeartbeats 3200000 in
theorem same_step (N : Nat) (hN : N < 4294967296) (ih : ∀ x y, cnt [x] ≤ N → ∀ w, Nods w w.heap.size [x] → Nods w w.heap.size [y] → Calls Try.prog 15 #[.agg (nv x), .agg (nv y)] w fun e w' => e = .returned (.bool (sm x y)) ∧ Below w.heap.size w w') (x y : Nd) (hz : cnt [x] ≤ N + 1) (w : World) (hx : Nods w w.heap.size [x]) (hy : Nods w w.heap.size [y]) :
    Calls Try.prog 15 #[.agg (nv x), .agg (nv y)] w fun e w' => e = .returned (.bool (sm x y)) ∧ Below w.heap.size w w' := by
  obtain ⟨xk, xp, xs, xA, xc, xw, xB, xd, xx⟩ := x
  obtain ⟨yk, yp, ys, yA, yc, yw, yB, yd, yy⟩ := y
  have hcz : 1 + xw.length + cnt xx ≤ N + 1 := by rw [cnt_cons] at hz; simp only [cnt, Nat.add_zero] at hz; exact hz
  have hzl := length_cnt xx
  have hn := RowAt.new w 32 #[.int .i64 xk, .int .i64 xp, .string xs, .slice xA xw.length xc, .slice xB xx.length xd]
  have hrx := hn.alloc (.cells #[.int .i64 yk, .int .i64 yp, .string ys, .slice yA yw.length yc, .slice yB yy.length yd] 32)
  have hry := RowAt.new (w.alloc (.cells #[.int .i64 xk, .int .i64 xp, .string xs, .slice xA xw.length xc, .slice xB xx.length xd] 32)) 32 #[.int .i64 yk, .int .i64 yp, .string ys, .slice yA yw.length yc, .slice yB yy.length yd]
  rw [show ((w.alloc (.cells #[.int .i64 xk, .int .i64 xp, .string xs, .slice xA xw.length xc, .slice xB xx.length xd] 32))).heap.size = w.heap.size + 1 by simp] at hry
  have hB : Below w.heap.size w ((w.alloc (.cells #[.int .i64 xk, .int .i64 xp, .string xs, .slice xA xw.length xc, .slice xB xx.length xd] 32)).alloc (.cells #[.int .i64 yk, .int .i64 yp, .string ys, .slice yA yw.length yc, .slice yB yy.length yd] 32)) := ((Below.refl _ _).alloc (Nat.le_refl _) _).alloc (by simp) _
  have HXK : Hid (∀ W, Below w.heap.size w W → Nods W W.heap.size xx) := fun W h => (hx.kids.below h).mono h.size
  have HYK : Hid (∀ W, Below w.heap.size w W → Nods W W.heap.size yy) := fun W h => (hy.kids.below h).mono h.size
  have HE1 := Lib.hid (fun W (h : Below w.heap.size w W) => equalW_any (F := 41) (g := sw) (fun _ _ => by kernel_rfl) xA yA xc yc xw yw (by omega) W ((hx.at.1.1.below h).mono h.size) ((hy.at.1.1.below h).mono h.size) (fun a _ b _ W' _ => same1_any a b W'))
  have HE2 := Lib.hid (fun W (h : Below w.heap.size w W) => equalN_any (F := 15) (g := sm) (fun _ _ => by kernel_rfl) xB yB xd yd xx yy (by omega) W ((hx.at.2.1.below h).mono h.size) ((hy.at.2.1.below h).mono h.size) (fun a ha b hb W' h' => ih a b (by
    have h1 := cnt_mem ha
    rw [cnt_cons]
    simp only [cnt, Nat.add_zero]
    omega) W' (((HXK.out W h).mem ha).below h' |>.mono h'.size) (((HYK.out W h).mem hb).below h' |>.mono h'.size)))
  have HSM : Hid (sm (.mk xk xp xs xA xc xw xB xd xx) (.mk yk yp ys yA yc yw yB yd yy) = (decide (xk = yk) && (decide (xs = ys) && (eqL sw xw yw && eqL sm xx yy)))) := sm_mk
  unfold nv
  simp only [Nd.k, Nd.p, Nd.s, Nd.A, Nd.c, Nd.ws, Nd.B, Nd.d, Nd.ks]
  rw [HSM.out]
  clear hx hy ih HXK HYK HSM
  generalize eqL sw xw yw = rw' at *
  generalize eqL sm xx yy = rk at *
  have HB := Lib.hid hB
  have HRX := Lib.hid hrx
  have HRY := Lib.hid hry
  generalize xw.length = nw at *
  generalize yw.length = mw at *
  generalize xx.length = nx at *
  generalize yy.length = my at *
  obtain ⟨m0, m1, m2, m3, m4, _, _, _, _, _⟩ := row5 hrx
  obtain ⟨n0', n1', n2', n3', n4', _, _, _, _, _⟩ := row5 hry
  clear hn hrx hry hB
  by_cases hk : xk = yk
  · subst hk
    by_cases hs : xs = ys
    · subst hs
      cases rw'
      · go_enter Try.func15, Try.ntmps15
        go_wp2_with fail
        refine (HE1.out _ HB.out).mono ?_
        rintro e w2 ⟨rfl, hb⟩
        have HB2 := Lib.hid (HB.out.trans (hb.mono HB.out.size))
        have r1 := HRX.out.below hb HRX.out.lt
        have r2 := HRY.out.below hb HRY.out.lt
        obtain ⟨m0, m1, m2, m3, m4, _, _, _, _, _⟩ := row5 r1
        obtain ⟨n0', n1', n2', n3', n4', _, _, _, _, _⟩ := row5 r2
        clear hb r1 r2
        go_wp2_with fail
        go_ret
        exact ⟨ret_eq (bool_eq (by simp)), HB2.out⟩
      · go_enter Try.func15, Try.ntmps15
        go_wp2_with fail
        refine (HE1.out _ HB.out).mono ?_
        rintro e w2 ⟨rfl, hb⟩
        have HB2 := Lib.hid (HB.out.trans (hb.mono HB.out.size))
        have r1 := HRX.out.below hb HRX.out.lt
        have r2 := HRY.out.below hb HRY.out.lt
        obtain ⟨m0, m1, m2, m3, m4, _, _, _, _, _⟩ := row5 r1
        obtain ⟨n0', n1', n2', n3', n4', _, _, _, _, _⟩ := row5 r2
        clear hb r1 r2
        go_wp2_with fail
        refine (HE2.out _ HB2.out).mono ?_
        rintro e w3 ⟨rfl, hb⟩
        have HB3 := Lib.hid (HB2.out.trans (hb.mono HB2.out.size))
        clear hb
        go_wp2_with fail
        go_ret
        exact ⟨ret_eq (bool_eq (by simp)), HB3.out⟩
    · have q1 : (xs.toList == ys.toList) = false := (NM.str_eq xs ys).trans (decide_eq_false hs)
      have q2 : (xs.toList != ys.toList) = true := by rw [bne, q1]; rfl
      go_enter Try.func15, Try.ntmps15
      go_wp2_with fail
      go_ret
      exact ⟨ret_eq (bool_eq (by simp [hs])), HB.out⟩
  · have q1 : (xk == yk) = false := by rw [beq_eq_false_iff_ne]; exact hk
    have q2 : (xk != yk) = true := by rw [bne_iff_ne]; exact hk
    go_enter Try.func15, Try.ntmps15
    go_wp2_with fail
    go_ret
    exact ⟨ret_eq (bool_eq (by simp [hk])), HB.out⟩
set_option maxRecDepth 8000 in
theorem same10_any : ∀ N, N ≤ 4294967296 → ∀ x y, cnt [x] ≤ N → ∀ w, Nods w w.heap.size [x] → Nods w w.heap.size [y] → Calls Try.prog 15 #[.agg (nv x), .agg (nv y)] w fun e w' => e = .returned (.bool (sm x y)) ∧ Below w.heap.size w w' := by
  intro N
  induction N with
  | zero => intro _ x y hz; rw [cnt_cons] at hz; omega
  | succ N ih => intro h x y hz; exact same_step N (by omega) (ih (by omega)) x y hz
end Go.Proofs.Ytapnefhmonpgdaa

/-
  The document's Same of nodes. Conditions: at most 2^32 nodes and words in the first.
-/
namespace Go.Proofs.Ytapnefhmonpgdaa
open Go.RowKit LX TR TM
set_option maxRecDepth 8000 in
theorem below_cell {B : Nat} {w w' : World} (h : Below B w w') {b o : Nat} (hb : b < B) : w'.cell? ⟨b, o, none⟩ = w.cell? ⟨b, o, none⟩ := by
  simp only [World.cell?]
  rw [h.block b hb]
set_option maxRecDepth 100000 in
set_option maxHeartbeats 3200000 in
theorem refSame10_step (N : Nat) (hN : N < 4294967296) (ih : ∀ x y, cnt [x] ≤ N → ∀ w, Nods w w.heap.size [x] → Nods w w.heap.size [y] → Calls Try.prog 16 #[.agg (nv x), .agg (nv y)] w fun e w' => e = .returned (.bool (sm x y)) ∧ Below w.heap.size w w') (x y : Nd) (hz : cnt [x] ≤ N + 1) (w : World) (hx : Nods w w.heap.size [x]) (hy : Nods w w.heap.size [y]) :
    Calls Try.prog 16 #[.agg (nv x), .agg (nv y)] w fun e w' => e = .returned (.bool (sm x y)) ∧ Below w.heap.size w w' := by
  obtain ⟨xk, xp, xs, xA, xc, xw, xB, xd, xx⟩ := x
  obtain ⟨yk, yp, ys, yA, yc, yw, yB, yd, yy⟩ := y
  have hcz : 1 + xw.length + cnt xx ≤ N + 1 := by rw [cnt_cons] at hz; simp only [cnt, Nat.add_zero] at hz; exact hz
  have hzl := length_cnt xx
  have hxw : xw.length ≤ 4294967296 := by omega
  have hxx : xx.length ≤ 4294967296 := by omega
  have hn := RowAt.new w 32 #[.int .i64 xk, .int .i64 xp, .string xs, .slice xA xw.length xc, .slice xB xx.length xd]
  have hrx := hn.alloc (.cells #[.int .i64 yk, .int .i64 yp, .string ys, .slice yA yw.length yc, .slice yB yy.length yd] 32)
  have hry := RowAt.new (w.alloc (.cells #[.int .i64 xk, .int .i64 xp, .string xs, .slice xA xw.length xc, .slice xB xx.length xd] 32)) 32 #[.int .i64 yk, .int .i64 yp, .string ys, .slice yA yw.length yc, .slice yB yy.length yd]
  rw [show ((w.alloc (.cells #[.int .i64 xk, .int .i64 xp, .string xs, .slice xA xw.length xc, .slice xB xx.length xd] 32))).heap.size = w.heap.size + 1 by simp] at hry
  have hB : Below w.heap.size w ((w.alloc (.cells #[.int .i64 xk, .int .i64 xp, .string xs, .slice xA xw.length xc, .slice xB xx.length xd] 32)).alloc (.cells #[.int .i64 yk, .int .i64 yp, .string ys, .slice yA yw.length yc, .slice yB yy.length yd] 32)) := ((Below.refl _ _).alloc (Nat.le_refl _) _).alloc (by simp) _
  have HXK : Hid (∀ W, Below w.heap.size w W → Nods W W.heap.size xx) := fun W h => (hx.kids.below h).mono h.size
  have HYK : Hid (∀ W, Below w.heap.size w W → Nods W W.heap.size yy) := fun W h => (hy.kids.below h).mono h.size
  have HXW : Hid (∀ W, Below w.heap.size w W → Sl W w.heap.size xA (wcs xw)) := fun W h => hx.at.1.1.below h
  have HYW : Hid (∀ W, Below w.heap.size w W → Sl W w.heap.size yA (wcs yw)) := fun W h => hy.at.1.1.below h
  have HXS : Hid (∀ W, Below w.heap.size w W → Sl W w.heap.size xB (ncs xx)) := fun W h => hx.at.2.1.below h
  have HYS : Hid (∀ W, Below w.heap.size w W → Sl W w.heap.size yB (ncs yy)) := fun W h => hy.at.2.1.below h
  have HD : Hid (∀ i, i < xx.length → xx.length = yy.length → ∀ W, Below w.heap.size w W → Calls Try.prog 16 #[.agg (nv (xx.getD i n0)), .agg (nv (yy.getD i n0))] W fun e w' => e = .returned (.bool (sm (xx.getD i n0) (yy.getD i n0))) ∧ Below W.heap.size W w') := fun i hi he W h => ih _ _ (by
    have h1 := cnt_mem (getD_memL (z := n0) hi)
    rw [cnt_cons]
    simp only [cnt, Nat.add_zero]
    omega) W ((HXK.out W h).mem (getD_memL hi)) ((HYK.out W h).mem (getD_memL (by rw [← he]; exact hi)))
  have HSM : Hid (sm (.mk xk xp xs xA xc xw xB xd xx) (.mk yk yp ys yA yc yw yB yd yy) = (decide (xk = yk) && (decide (xs = ys) && (eqL sw xw yw && eqL sm xx yy)))) := sm_mk
  have H1L : Hid (¬ xw.length = yw.length → eqL sw xw yw = false) := eqL_len
  have H2L : Hid (¬ xx.length = yy.length → eqL sm xx yy = false) := eqL_len
  have H1H : Hid (xw.length = yw.length → ∀ i, i < xw.length → sw (xw.getD i w0) (yw.getD i w0) = false → eqL sw xw yw = false) := fun h i => eqL_hit h i
  have H2H : Hid (xx.length = yy.length → ∀ i, i < xx.length → sm (xx.getD i n0) (yy.getD i n0) = false → eqL sm xx yy = false) := fun h i => eqL_hit h i
  have H1A : Hid (xw.length = yw.length → (∀ i, i < xw.length → sw (xw.getD i w0) (yw.getD i w0) = true) → eqL sw xw yw = true) := fun h => eqL_all h
  have H2A : Hid (xx.length = yy.length → (∀ i, i < xx.length → sm (xx.getD i n0) (yy.getD i n0) = true) → eqL sm xx yy = true) := fun h => eqL_all h
  unfold nv at HD ⊢
  simp only [Nd.k, Nd.p, Nd.s, Nd.A, Nd.c, Nd.ws, Nd.B, Nd.d, Nd.ks]
  rw [HSM.out]
  clear hx hy ih HXK HYK HSM hz hcz hzl
  have HWW : Hid (w.heap.size + 2 ≤ ((w.alloc (.cells #[.int .i64 xk, .int .i64 xp, .string xs, .slice xA xw.length xc, .slice xB xx.length xd] 32)).alloc (.cells #[.int .i64 yk, .int .i64 yp, .string ys, .slice yA yw.length yc, .slice yB yy.length yd] 32)).heap.size) := by show _ ≤ _; simp
  generalize eqL sw xw yw = r1 at *
  generalize eqL sm xx yy = r2 at *
  have HB := Lib.hid hB
  have HRX := Lib.hid hrx
  have HRY := Lib.hid hry
  generalize hnw : xw.length = nw at *
  generalize hmw : yw.length = mw at *
  generalize hnx : xx.length = nx at *
  generalize hmy : yy.length = my at *
  have HNW := Lib.hid hnw
  have HMW := Lib.hid hmw
  have HNX := Lib.hid hnx
  have HMY := Lib.hid hmy
  obtain ⟨m0, m1, m2, m3, m4, _, _, _, _, _⟩ := row5 hrx
  obtain ⟨n0', n1', n2', n3', n4', _, _, _, _, _⟩ := row5 hry
  clear hn hrx hry hB hnw hmw hnx hmy
  by_cases hk : xk = yk
  · subst hk
    by_cases hs : xs = ys
    · subst hs
      by_cases hw : nw = mw
      · subst hw
        by_cases hkk : nx = my
        · subst hkk
          go_enter Try.func16, Try.ntmps16
          go_wp2_with fail
          generalize ((w.alloc (.cells #[.int .i64 xk, .int .i64 xp, .string xs, .slice xA nw xc, .slice xB nx xd] 32)).alloc (.cells #[.int .i64 xk, .int .i64 yp, .string xs, .slice yA nw yc, .slice yB nx yd] 32)) = w2 at *
          go_loopw [5] (fun iv wr => ∃ i : Nat, i ≤ nw ∧ iv = .int .i64 i ∧ Hid (∀ j, j < i → sw (xw.getD j w0) (yw.getD j w0) = true) ∧ Hid (Below w2.heap.size w2 wr)) (fun iv _ => nw - (intOf iv).toNat)
          case atStart => exact ⟨0, by omega, rfl, fun j hj => by omega, Below.refl _ _⟩
          case round =>
            obtain ⟨i, hi, rfl, HF, HW⟩ := hrel
            have HBW := Lib.hid (HB.out.trans (HW.out.mono HB.out.size))
            obtain ⟨m0, m1, m2, m3, m4, _, _, _, _, _⟩ := row5 (HRX.out.below HW.out HRX.out.lt)
            obtain ⟨n0', n1', n2', n3', n4', _, _, _, _, _⟩ := row5 (HRY.out.below HW.out HRY.out.lt)
            by_cases hlt : i < nw
            · obtain ⟨b1, o1, rfl, _, hc1⟩ := sl_at (z := w0) wcells_length (HXW.out wr HBW.out) (k := i) (by rw [HNW.out]; exact hlt) (by omega)
              obtain ⟨b2, o2, rfl, _, hc2⟩ := sl_at (z := w0) wcells_length (HYW.out wr HBW.out) (k := i) (by rw [HMW.out]; exact hlt) (by omega)
              have p0 := hc1 i 0 _ (by rw [HNW.out]; exact hlt) (by omega) rfl
              rw [Nat.add_zero] at p0
              have q0 := hc2 i 0 _ (by rw [HMW.out]; exact hlt) (by omega) rfl
              rw [Nat.add_zero] at q0
              have hin : (i : Int) < (nw : Int) := by omega
              have HIN : Hid (sw (xw.getD i w0) (yw.getD i w0) = true → ∀ j, j < i + 1 → sw (xw.getD j w0) (yw.getD j w0) = true) := fun h j hj => by
                by_cases hji : j = i
                · rw [hji]; exact h
                · exact HF.out j (by omega)
              have HNO : Hid (sw (xw.getD i w0) (yw.getD i w0) = false → r1 = false) := fun h => H1H.out (by first | rfl | trivial) i hlt h
              clear hc1 hc2 HF
              unfold sw at HIN HNO
              have HIN : Hid (decide ((xw.getD i w0).s = (yw.getD i w0).s) = true → ∀ j, j < i + 1 → sw (xw.getD j w0) (yw.getD j w0) = true) := HIN
              have qe := NM.str_eq (xw.getD i w0).s (yw.getD i w0).s
              generalize (xw.getD i w0) = x at *
              generalize (yw.getD i w0) = y at *
              obtain ⟨s1, f1⟩ := x
              obtain ⟨s2, f2⟩ := y
              simp only at p0 q0 HIN HNO qe
              generalize decide (s1 = s2) = q at *
              have qn : (s1.toList != s2.toList) = !q := by rw [bne, qe]
              cases q
              · have HT := Lib.hid (HNO.out rfl)
                clear HNO HIN
                go_wp2_with fail
                go_quiet (fail)
                go_wp2_with fail
                go_ret
                exact ⟨ret_eq (bool_eq (by rw [HT.out]; simp)), HBW.out.trans (((Dr.refl wr).more _).below.mono HBW.out.size)⟩
              · have HT := Lib.hid (HIN.out rfl)
                clear HNO HIN
                go_wp2_with fail
                go_quiet (fail)
                go_wp2_with fail
                go_roundw
                case rel => exact ⟨i + 1, by omega, by go_num, HT, HW.out.trans (((Dr.refl wr).more _).below.mono HW.out.size)⟩
                case measure => simp [intOf]; omega
            · obtain rfl : i = nw := by omega
              have HR1 : Hid (r1 = true) := H1A.out (by first | rfl | trivial) HF.out
              go_wp2_with fail
              obtain ⟨wo, hwo⟩ : ∃ wo : World, wo = wr := ⟨_, rfl⟩
              subst hwo
              go_loopw [6] (fun iv wr => ∃ k : Nat, k ≤ nx ∧ iv = .int .i64 k ∧ Hid (∀ j, j < k → sm (xx.getD j n0) (yy.getD j n0) = true) ∧ Hid (Below w2.heap.size w2 wr)) (fun iv _ => nx - (intOf iv).toNat)
              case atStart => exact ⟨0, by omega, rfl, fun j hj => by omega, HW.out⟩
              case round =>
                obtain ⟨i, hi, rfl, HF, HW⟩ := hrel
                have HBW := Lib.hid (HB.out.trans (HW.out.mono HB.out.size))
                obtain ⟨m0, m1, m2, m3, m4, _, _, _, _, _⟩ := row5 (HRX.out.below HW.out HRX.out.lt)
                obtain ⟨n0', n1', n2', n3', n4', _, _, _, _, _⟩ := row5 (HRY.out.below HW.out HRY.out.lt)
                by_cases hlt : i < nx
                · obtain ⟨b1, o1, rfl, hl1, hc1⟩ := sl_at (z := n0) ncells_length (HXS.out wr HBW.out) (k := i) (by rw [HNX.out]; exact hlt) (by omega)
                  obtain ⟨b2, o2, rfl, hl2, hc2⟩ := sl_at (z := n0) ncells_length (HYS.out wr HBW.out) (k := i) (by rw [HMY.out]; exact hlt) (by omega)
                  have p0 := hc1 i 0 _ (by rw [HNX.out]; exact hlt) (by omega) rfl
                  have p1 := hc1 i 1 _ (by rw [HNX.out]; exact hlt) (by omega) rfl
                  have p2 := hc1 i 2 _ (by rw [HNX.out]; exact hlt) (by omega) rfl
                  have p3 := hc1 i 3 _ (by rw [HNX.out]; exact hlt) (by omega) rfl
                  have p4 := hc1 i 4 _ (by rw [HNX.out]; exact hlt) (by omega) rfl
                  rw [Nat.add_zero] at p0
                  rw [← Nat.add_assoc] at p1 p2 p3 p4
                  have q0 := hc2 i 0 _ (by rw [HMY.out]; exact hlt) (by omega) rfl
                  have q1 := hc2 i 1 _ (by rw [HMY.out]; exact hlt) (by omega) rfl
                  have q2 := hc2 i 2 _ (by rw [HMY.out]; exact hlt) (by omega) rfl
                  have q3 := hc2 i 3 _ (by rw [HMY.out]; exact hlt) (by omega) rfl
                  have q4 := hc2 i 4 _ (by rw [HMY.out]; exact hlt) (by omega) rfl
                  rw [Nat.add_zero] at q0
                  rw [← Nat.add_assoc] at q1 q2 q3 q4
                  have hin : (i : Int) < (nx : Int) := by omega
                  have HIN : Hid (sm (xx.getD i n0) (yy.getD i n0) = true → ∀ j, j < i + 1 → sm (xx.getD j n0) (yy.getD j n0) = true) := fun h j hj => by
                    by_cases hji : j = i
                    · rw [hji]; exact h
                    · exact HF.out j (by omega)
                  have HNO : Hid (sm (xx.getD i n0) (yy.getD i n0) = false → r2 = false) := fun h => H2H.out (by first | rfl | trivial) i hlt h
                  have HDD := Lib.hid (HD.out i hlt (by first | rfl | trivial))
                  clear hc1 hc2 HF
                  generalize sm (xx.getD i n0) (yy.getD i n0) = q at *
                  generalize (xx.getD i n0) = x at *
                  generalize (yy.getD i n0) = y at *
                  obtain ⟨ak, ap, as', aA, ac, aw, aB, ad, ax⟩ := x
                  obtain ⟨ck, cp, cs', cA, cc, cw, cB', cd, cx⟩ := y
                  simp only [Nd.k, Nd.p, Nd.s, Nd.A, Nd.c, Nd.ws, Nd.B, Nd.d, Nd.ks] at p0 p1 p2 p3 p4 q0 q1 q2 q3 q4 HDD
                  obtain ⟨S, hSe⟩ : ∃ S : World → Prop, S = fun w' => Below w2.heap.size w2 w' ∧ Below wr.heap.size wr w' := ⟨_, rfl⟩
                  have keepS : ∀ wa wb, S wa → Below wa.heap.size wa wb → S wb := fun wa wb h hb => by
                    rw [hSe] at h ⊢
                    exact ⟨h.1.trans (hb.mono h.1.size), h.2.trans (hb.mono h.2.size)⟩
                  have HSB : Hid (∀ W, S W → Below w.heap.size w W) := fun W h => by
                    rw [hSe] at h
                    exact HB.out.trans (h.1.mono HB.out.size)
                  have hl3 : b1 < wr.heap.size := Nat.lt_of_lt_of_le hl1 HBW.out.size
                  have hl4 : b2 < wr.heap.size := Nat.lt_of_lt_of_le hl2 HBW.out.size
                  have C0 : ∀ W, S W → W.cell? ⟨w.heap.size, 4, none⟩ = some (.slice (some ⟨b1, o1, none⟩) nx xd) := fun W h => by
                    rw [hSe] at h
                    exact (RowAt.cell (HRX.out.below h.1 HRX.out.lt) 4).trans rfl
                  have C1 : ∀ W, S W → W.cell? ⟨w.heap.size + 1, 4, none⟩ = some (.slice (some ⟨b2, o2, none⟩) nx yd) := fun W h => by
                    rw [hSe] at h
                    exact (RowAt.cell (HRY.out.below h.1 HRY.out.lt) 4).trans rfl
                  have P0 : ∀ W, S W → W.cell? ⟨b1, o1 + i * 5, none⟩ = some (.int .i64 ak) := fun W h => by
                    rw [hSe] at h
                    exact (below_cell h.2 hl3).trans p0
                  have P1 : ∀ W, S W → W.cell? ⟨b1, o1 + i * 5 + 1, none⟩ = some (.int .i64 ap) := fun W h => by
                    rw [hSe] at h
                    exact (below_cell h.2 hl3).trans p1
                  have P2 : ∀ W, S W → W.cell? ⟨b1, o1 + i * 5 + 2, none⟩ = some (.string as') := fun W h => by
                    rw [hSe] at h
                    exact (below_cell h.2 hl3).trans p2
                  have P3 : ∀ W, S W → W.cell? ⟨b1, o1 + i * 5 + 3, none⟩ = some (.slice aA aw.length ac) := fun W h => by
                    rw [hSe] at h
                    exact (below_cell h.2 hl3).trans p3
                  have P4 : ∀ W, S W → W.cell? ⟨b1, o1 + i * 5 + 4, none⟩ = some (.slice aB ax.length ad) := fun W h => by
                    rw [hSe] at h
                    exact (below_cell h.2 hl3).trans p4
                  have Q0 : ∀ W, S W → W.cell? ⟨b2, o2 + i * 5, none⟩ = some (.int .i64 ck) := fun W h => by
                    rw [hSe] at h
                    exact (below_cell h.2 hl4).trans q0
                  have Q1 : ∀ W, S W → W.cell? ⟨b2, o2 + i * 5 + 1, none⟩ = some (.int .i64 cp) := fun W h => by
                    rw [hSe] at h
                    exact (below_cell h.2 hl4).trans q1
                  have Q2 : ∀ W, S W → W.cell? ⟨b2, o2 + i * 5 + 2, none⟩ = some (.string cs') := fun W h => by
                    rw [hSe] at h
                    exact (below_cell h.2 hl4).trans q2
                  have Q3 : ∀ W, S W → W.cell? ⟨b2, o2 + i * 5 + 3, none⟩ = some (.slice cA cw.length cc) := fun W h => by
                    rw [hSe] at h
                    exact (below_cell h.2 hl4).trans q3
                  have Q4 : ∀ W, S W → W.cell? ⟨b2, o2 + i * 5 + 4, none⟩ = some (.slice cB' cx.length cd) := fun W h => by
                    rw [hSe] at h
                    exact (below_cell h.2 hl4).trans q4
                  have HS : Hid (S wr.drew) := by
                    show S wr.drew
                    rw [hSe]
                    exact ⟨HW.out.drew, (Below.refl _ _).drew⟩
                  go_upto_region 11 with fail
                  refine wp_region_ord S [(0, true), (1, true), (2, true), (3, true), (4, true), (5, true), (6, true), (7, true), (8, true), (9, true), (10, false), (11, true)] (by kernel_rfl) (by kernel_rfl) rfl (by kernel_rfl) HS.out ?_
                  iterate 10
                    (refine wpOrd_step (o := ?_) ?_ ?_; rotate_left 1; (simp only [List.getElem?_toArray, List.getElem?_cons_succ, List.getElem?_cons_zero]; with_reducible rfl))
                    (first
                        | (refine wpOrd_skip (by rfl) ?_)
                        | (refine wpOrd_take (v := ?_) (by rfl) ?_ ?_; rotate_left 1; (intro wx hSx; have hc_0 := C0 wx hSx; have hc_1 := C1 wx hSx; have hc_2 := P0 wx hSx; have hc_3 := P1 wx hSx; have hc_4 := P2 wx hSx; have hc_5 := P3 wx hSx; have hc_6 := P4 wx hSx; have hc_7 := Q0 wx hSx; have hc_8 := Q1 wx hSx; have hc_9 := Q2 wx hSx; have hc_10 := Q3 wx hSx; have hc_11 := Q4 wx hSx; go_simp; try with_reducible rfl)))
                    (try simp only [Act.put, List.setIfInBounds_toArray, List.set_cons_zero, List.set_cons_succ])
                  (refine wpOrd_solo (o := ?_) ?_ ?_; rotate_left 1; (simp only [List.getElem?_toArray, List.getElem?_cons_succ, List.getElem?_cons_zero]; with_reducible rfl))
                  intro K hK
                  go_simp
                  go_at_call 16
                  refine (HDD.out _ (HSB.out _ HS.out)).mono ?_
                  rintro e w4 ⟨rfl, hb⟩
                  have hS := keepS _ _ HS.out hb
                  clear HS
                  have HS := Lib.hid hS; clear hS hb
                  refine hK.out _ _ HS.out ?_
                  clear hK K
                  (try simp only [Act.put, List.setIfInBounds_toArray, List.set_cons_zero, List.set_cons_succ])
                  iterate 1
                    (refine wpOrd_step (o := ?_) ?_ ?_; rotate_left 1; (simp only [List.getElem?_toArray, List.getElem?_cons_succ, List.getElem?_cons_zero]; with_reducible rfl))
                    (first
                        | (refine wpOrd_skip (by rfl) ?_)
                        | (refine wpOrd_take (v := ?_) (by rfl) ?_ ?_; rotate_left 1; (intro wx hSx; go_simp; try with_reducible rfl)))
                    (try simp only [Act.put, List.setIfInBounds_toArray, List.set_cons_zero, List.set_cons_succ])
                  refine wpOrd_done ?_
                  have hS4 := HS.out
                  rw [hSe] at hS4
                  have HW4 := Lib.hid hS4.1
                  have HB4 := Lib.hid (HB.out.trans (HW4.out.mono HB.out.size))
                  clear hS4
                  cases q
                  · have HT := Lib.hid (HNO.out rfl)
                    clear HNO HIN
                    go_wp2_with fail
                    go_ret
                    exact ⟨ret_eq (bool_eq (by rw [HT.out]; simp)), HB4.out⟩
                  · have HT := Lib.hid (HIN.out rfl)
                    clear HNO HIN
                    go_wp2_with fail
                    go_roundw
                    case rel => exact ⟨i + 1, by omega, by go_num, HT, HW4⟩
                    case measure => simp [intOf]; omega
                · obtain rfl : i = nx := by omega
                  have HR2 : Hid (r2 = true) := H2A.out (by first | rfl | trivial) HF.out
                  go_wp2_with fail
                  go_ret
                  exact ⟨ret_eq (bool_eq (by rw [HR1.out, HR2.out]; simp)), HBW.out⟩
        · have q4 : ((nx : Int) != (my : Int)) = true := by simp; omega
          have HR2 := Lib.hid (H2L.out hkk)
          go_enter Try.func16, Try.ntmps16
          go_wp2_with fail
          go_ret
          exact ⟨ret_eq (bool_eq (by rw [HR2.out]; simp)), HB.out⟩
      · have q3 : ((nw : Int) != (mw : Int)) = true := by simp; omega
        have HR1 := Lib.hid (H1L.out hw)
        go_enter Try.func16, Try.ntmps16
        go_wp2_with fail
        go_ret
        exact ⟨ret_eq (bool_eq (by rw [HR1.out]; simp)), HB.out⟩
    · have q1 : (xs.toList == ys.toList) = false := (NM.str_eq xs ys).trans (decide_eq_false hs)
      have q2 : (xs.toList != ys.toList) = true := by rw [bne, q1]; rfl
      go_enter Try.func16, Try.ntmps16
      go_wp2_with fail
      go_ret
      exact ⟨ret_eq (bool_eq (by simp [hs])), HB.out⟩
  · have q2 : (xk != yk) = true := by rw [bne_iff_ne]; exact hk
    go_enter Try.func16, Try.ntmps16
    go_wp2_with fail
    go_ret
    exact ⟨ret_eq (bool_eq (by simp [hk])), HB.out⟩
set_option maxRecDepth 8000 in
theorem refSame10_any : ∀ N, N ≤ 4294967296 → ∀ x y, cnt [x] ≤ N → ∀ w, Nods w w.heap.size [x] → Nods w w.heap.size [y] → Calls Try.prog 16 #[.agg (nv x), .agg (nv y)] w fun e w' => e = .returned (.bool (sm x y)) ∧ Below w.heap.size w w' := by
  intro N
  induction N with
  | zero => intro _ x y hz; rw [cnt_cons] at hz; omega
  | succ N ih => intro h x y hz; exact refSame10_step N (by omega) (ih (by omega)) x y hz
end Go.Proofs.Ytapnefhmonpgdaa
