/- Texts that all the claims need. Conditions: those that each states. -/

import Derived.Test.YtmffnkfohmbbeaaGreatDoorCh10
set_option linter.unusedSimpArgs false
set_option linter.unusedVariables false
set_option maxRecDepth 100000
set_option maxHeartbeats 40000000
namespace Go.Proofs.YtmffnkfohmbbeaaGreatDoor
section
namespace TM
def eqL {α : Type} (g : α → α → Bool) : List α → List α → Bool
 | [], [] => true
 | [], _ :: _ => false
 | _ :: _, [] => false
 | x :: a, y :: b => g x y && eqL g a b
theorem eqL_len {α : Type} {g : α → α → Bool} : ∀ {a b : List α}, ¬ a.length = b.length → eqL g a b = false
 | [], [], h => absurd rfl h
 | [], _ :: _, _ => rfl
 | _ :: _, [], _ => rfl
 | x :: a, y :: b, h => by
   rw [eqL, eqL_len (fun e => h (by simp [e]))]
   exact Bool.and_false _
theorem eqL_hit {α : Type} {g : α → α → Bool} {z : α} : ∀ {a b : List α}, a.length = b.length → ∀ i, i < a.length → g (a.getD i z) (b.getD i z) = false → eqL g a b = false
 | [], [], _, i, hi, _ => by simp at hi
 | x :: a, y :: b, h, 0, _, hg => by
   rw [List.getD_cons_zero, List.getD_cons_zero] at hg
   rw [eqL, hg]; rfl
 | x :: a, y :: b, h, i + 1, hi, hg => by
   rw [List.getD_cons_succ, List.getD_cons_succ] at hg
   rw [eqL, eqL_hit (z := z) (by simpa using h) i (by simpa using hi) hg]
   exact Bool.and_false _
theorem eqL_all {α : Type} {g : α → α → Bool} {z : α} : ∀ {a b : List α}, a.length = b.length → (∀ i, i < a.length → g (a.getD i z) (b.getD i z) = true) → eqL g a b = true
 | [], [], _, _ => rfl
 | x :: a, y :: b, h, hg => by
   have h0 := hg 0 (by simp)
   rw [List.getD_cons_zero, List.getD_cons_zero] at h0
   rw [eqL, h0, eqL_all (z := z) (by simpa using h) fun i hi => by
     have h1 := hg (i + 1) (by simpa using hi)
     rw [List.getD_cons_succ, List.getD_cons_succ] at h1
     exact h1]
   rfl
theorem getD_memL {α : Type} {l : List α} {i : Nat} {z : α} (h : i < l.length) : l.getD i z ∈ l := by
 rw [List.getD_eq_getElem?_getD, List.getElem?_eq_getElem h]
 exact List.getElem_mem h
end TM
open Go.RowKit LX TR TM
theorem equalW_any {F : FuncId} {g : Wd → Wd → Bool} (hf : ∀ args w, (callFunc F args).run Tryz.prog w = .ok (.enter F args) w) (A B : Option Addr) (c d : Nat) (a b : List Wd) (hn : a.length ≤ 1099511627776) (w : World)
 (hA : Sl w w.heap.size A (wcs a)) (hB : Sl w w.heap.size B (wcs b))
 (hC : ∀ x ∈ a, ∀ y ∈ b, ∀ W, Below w.heap.size w W → Calls Tryz.prog F #[.agg (wv x), .agg (wv y)] W fun e w' => e = .returned (.bool (g x y)) ∧ Below W.heap.size W w') :
 Calls Tryz.prog 59 #[.slice A a.length c, .slice B b.length d, .func (.func F) #[] #[]] w fun e w' => e = .returned (.bool (eqL g a b)) ∧ Below w.heap.size w w' := by
 have HA := zh hA; clear hA
 have HB := zh hB; clear hB
 have HC : Hid (∀ i, i < a.length → a.length = b.length → ∀ W, Below w.heap.size w W → Calls Tryz.prog F #[.agg (wv (a.getD i w0)), .agg (wv (b.getD i w0))] W fun e w' => e = .returned (.bool (g (a.getD i w0) (b.getD i w0))) ∧ Below W.heap.size W w') := fun i hi he W h => hC _ (getD_memL hi) _ (getD_memL (l := b) (i := i) (z := w0) (by rw [← he]; exact hi)) W h
 clear hC
 by_cases hab : a.length = b.length
 ·have HIT := zh (fun i (hi : i < a.length) => @eqL_hit _ g w0 a b hab i hi)
  have MISS := zh (@eqL_all _ g w0 a b hab)
  have HCC := zh (fun i (hi : i < a.length) => HC.out i hi hab)
  clear HC
  generalize eqL g a b = r at *
  have HM := zh hab.symm
  rw [← hab]
  clear hab
  generalize hn' : a.length = n at *
  have HN := zh hn'; clear hn'
  go_enter Tryz.func59, Tryz.ntmps59
  go_wp2_with fail
  go_loopw [17] (fun iv wr => ∃ i : Nat, i ≤ n ∧ iv = .int .i64 i ∧ Hid (∀ j, j < i → g (a.getD j w0) (b.getD j w0) = true) ∧ Hid (Below w.heap.size w wr)) (fun iv _ => n - (intOf iv).toNat)
  case atStart => exact ⟨0, by omega, rfl, fun j hj => by omega, zB _ _⟩
  case round =>
   obtain ⟨i, hi, rfl, HF, HW⟩ := hrel
   by_cases hlt : i < n
   ·obtain ⟨ba, oa, rfl, hla, hca⟩ := sl_at (z := w0) wcells_length (HA.out.below HW.out) (k := i) (by rw [HN.out]; exact hlt) (by omega)
    have p0 := hca i 0 _ (by rw [HN.out]; exact hlt) (by omega) rfl
    have p1 := hca i 1 _ (by rw [HN.out]; exact hlt) (by omega) rfl
    rw [Nat.add_zero] at p0
    rw [← Nat.add_assoc] at p1
    have HIN : Hid (g (a.getD i w0) (b.getD i w0) = true → ∀ j, j < i + 1 → g (a.getD j w0) (b.getD j w0) = true) := fun h j hj => by
     by_cases hji : j = i
     ·rw [hji]; exact h
     ·exact HF.out j (by omega)
    have HNO : Hid (g (a.getD i w0) (b.getD i w0) = false → r = false) := fun h => HIT.out i hlt h
    have HD := zh (HCC.out i hlt)
    have hin : (i : Int) < (n : Int) := by omega
    clear hca HF
    generalize g (a.getD i w0) (b.getD i w0) = q at *
    generalize a.getD i w0 = x at *
    obtain ⟨s1, f1⟩ := x
    unfold wv at HD
    simp only at p0 p1 HD
    obtain ⟨bb, ob, rfl, hlb, hcb⟩ := sl_at (z := w0) wcells_length (HB.out.below (HW.out.alloc HW.out.size (.cells #[.string s1, .int .i64 f1] 23))) (k := i) (by rw [HM.out]; exact hlt) (by omega)
    have q0 := hcb i 0 _ (by rw [HM.out]; exact hlt) (by omega) rfl
    have q1 := hcb i 1 _ (by rw [HM.out]; exact hlt) (by omega) rfl
    rw [Nat.add_zero] at q0
    rw [← Nat.add_assoc] at q1
    clear hcb
    generalize b.getD i w0 = y at *
    obtain ⟨s2, f2⟩ := y
    simp only at q0 q1 HD
    have HB2 : Hid (Below w.heap.size w ((wr.alloc (.cells #[.string s1, .int .i64 f1] 23)).alloc (.cells #[.string s2, .int .i64 f2] 23))) :=
     (HW.out.alloc HW.out.size _).alloc (by have := HW.out.size; simp; omega) _
    cases q
    ·have HT := zh (HNO.out rfl)
     clear HNO HIN
     go_wp2_with fail
     refine (HD.out _ HB2.out).mono ?_
     rintro e w1 ⟨rfl, hb⟩
     have HW1 := zh (HB2.out.trans (hb.mono HB2.out.size)); clear hb
     go_wp2_with fail
     go_ret
     exact ⟨ret_eq (bool_eq HT.out.symm), HW1.out⟩
    ·have HT := zh (HIN.out rfl)
     clear HNO HIN
     go_wp2_with fail
     refine (HD.out _ HB2.out).mono ?_
     rintro e w1 ⟨rfl, hb⟩
     have HW1 := zh (HB2.out.trans (hb.mono HB2.out.size)); clear hb
     go_wp2_with fail
     go_roundw
     case rel => exact ⟨i + 1, by omega, by go_num, HT, HW1⟩
     case measure => simp [intOf]; omega
   ·obtain rfl : i = n := by omega
    have HR := zh (MISS.out HF.out)
    go_wp2_with fail
    go_ret
    exact ⟨ret_eq (bool_eq HR.out.symm), HW.out⟩
 ·rw [eqL_len hab]
  have hne : ((a.length : Int) != (b.length : Int)) = true := by simp; omega
  clear hab HC
  generalize a.length = n at *
  generalize b.length = m at *
  go_enter Tryz.func59, Tryz.ntmps59
  go_wp2_with fail
  go_ret
  exact ⟨rfl, zB _ _⟩
theorem equalN_any {F : FuncId} {g : Nd → Nd → Bool} (hf : ∀ args w, (callFunc F args).run Tryz.prog w = .ok (.enter F args) w) (A B : Option Addr) (c d : Nat) (a b : List Nd) (hn : a.length ≤ 1099511627776) (w : World)
 (hA : Sl w w.heap.size A (ncs a)) (hB : Sl w w.heap.size B (ncs b))
 (hC : ∀ x ∈ a, ∀ y ∈ b, ∀ W, Below w.heap.size w W → Calls Tryz.prog F #[.agg (nv x), .agg (nv y)] W fun e w' => e = .returned (.bool (g x y)) ∧ Below W.heap.size W w') :
 Calls Tryz.prog 62 #[.slice A a.length c, .slice B b.length d, .func (.func F) #[] #[]] w fun e w' => e = .returned (.bool (eqL g a b)) ∧ Below w.heap.size w w' := by
 have HA := zh hA; clear hA
 have HB := zh hB; clear hB
 have HC : Hid (∀ i, i < a.length → a.length = b.length → ∀ W, Below w.heap.size w W → Calls Tryz.prog F #[.agg (nv (a.getD i n0)), .agg (nv (b.getD i n0))] W fun e w' => e = .returned (.bool (g (a.getD i n0) (b.getD i n0))) ∧ Below W.heap.size W w') := fun i hi he W h => hC _ (getD_memL hi) _ (getD_memL (l := b) (i := i) (z := n0) (by rw [← he]; exact hi)) W h
 clear hC
 by_cases hab : a.length = b.length
 ·have HIT := zh (fun i (hi : i < a.length) => @eqL_hit _ g n0 a b hab i hi)
  have MISS := zh (@eqL_all _ g n0 a b hab)
  have HCC := zh (fun i (hi : i < a.length) => HC.out i hi hab)
  clear HC
  generalize eqL g a b = r at *
  have HM := zh hab.symm
  rw [← hab]
  clear hab
  generalize hn' : a.length = n at *
  have HN := zh hn'; clear hn'
  go_enter Tryz.func62, Tryz.ntmps62
  go_wp2_with fail
  go_loopw [17] (fun iv wr => ∃ i : Nat, i ≤ n ∧ iv = .int .i64 i ∧ Hid (∀ j, j < i → g (a.getD j n0) (b.getD j n0) = true) ∧ Hid (Below w.heap.size w wr)) (fun iv _ => n - (intOf iv).toNat)
  case atStart => exact ⟨0, by omega, rfl, fun j hj => by omega, zB _ _⟩
  case round =>
   obtain ⟨i, hi, rfl, HF, HW⟩ := hrel
   by_cases hlt : i < n
   ·obtain ⟨ba, oa, rfl, hla, hca⟩ := sl_at (z := n0) ncells_length (HA.out.below HW.out) (k := i) (by rw [HN.out]; exact hlt) (by omega)
    have p0 := hca i 0 _ (by rw [HN.out]; exact hlt) (by omega) rfl
    have p1 := hca i 1 _ (by rw [HN.out]; exact hlt) (by omega) rfl
    have p2 := hca i 2 _ (by rw [HN.out]; exact hlt) (by omega) rfl
    have p3 := hca i 3 _ (by rw [HN.out]; exact hlt) (by omega) rfl
    have p4 := hca i 4 _ (by rw [HN.out]; exact hlt) (by omega) rfl
    rw [Nat.add_zero] at p0
    rw [← Nat.add_assoc] at p1 p2 p3 p4
    have HIN : Hid (g (a.getD i n0) (b.getD i n0) = true → ∀ j, j < i + 1 → g (a.getD j n0) (b.getD j n0) = true) := fun h j hj => by
     by_cases hji : j = i
     ·rw [hji]; exact h
     ·exact HF.out j (by omega)
    have HNO : Hid (g (a.getD i n0) (b.getD i n0) = false → r = false) := fun h => HIT.out i hlt h
    have HD := zh (HCC.out i hlt)
    have hin : (i : Int) < (n : Int) := by omega
    clear hca HF
    generalize g (a.getD i n0) (b.getD i n0) = q at *
    generalize a.getD i n0 = x at *
    obtain ⟨xk, xp, xs, xA, xc, xw, xB, xd, xx⟩ := x
    unfold nv at HD
    simp only [Nd.k, Nd.p, Nd.s, Nd.A, Nd.c, Nd.ws, Nd.B, Nd.d, Nd.ks] at p0 p1 p2 p3 p4 HD
    obtain ⟨bb, ob, rfl, hlb, hcb⟩ := sl_at (z := n0) ncells_length (HB.out.below (HW.out.alloc HW.out.size (.cells #[.int .i64 xk, .int .i64 xp, .string xs, .slice xA xw.length xc, .slice xB xx.length xd] 28))) (k := i) (by rw [HM.out]; exact hlt) (by omega)
    have q0 := hcb i 0 _ (by rw [HM.out]; exact hlt) (by omega) rfl
    have q1 := hcb i 1 _ (by rw [HM.out]; exact hlt) (by omega) rfl
    have q2 := hcb i 2 _ (by rw [HM.out]; exact hlt) (by omega) rfl
    have q3 := hcb i 3 _ (by rw [HM.out]; exact hlt) (by omega) rfl
    have q4 := hcb i 4 _ (by rw [HM.out]; exact hlt) (by omega) rfl
    rw [Nat.add_zero] at q0
    rw [← Nat.add_assoc] at q1 q2 q3 q4
    clear hcb
    generalize b.getD i n0 = y at *
    obtain ⟨yk, yp, ys, yA, yc, yw, yB, yd, yy⟩ := y
    simp only [Nd.k, Nd.p, Nd.s, Nd.A, Nd.c, Nd.ws, Nd.B, Nd.d, Nd.ks] at q0 q1 q2 q3 q4 HD
    have HB2 : Hid (Below w.heap.size w ((wr.alloc (.cells #[.int .i64 xk, .int .i64 xp, .string xs, .slice xA xw.length xc, .slice xB xx.length xd] 28)).alloc (.cells #[.int .i64 yk, .int .i64 yp, .string ys, .slice yA yw.length yc, .slice yB yy.length yd] 28))) :=
     (HW.out.alloc HW.out.size _).alloc (by have := HW.out.size; simp; omega) _
    cases q
    ·have HT := zh (HNO.out rfl)
     clear HNO HIN
     go_wp2_with fail
     refine (HD.out _ HB2.out).mono ?_
     rintro e w1 ⟨rfl, hb⟩
     have HW1 := zh (HB2.out.trans (hb.mono HB2.out.size)); clear hb
     go_wp2_with fail
     go_ret
     exact ⟨ret_eq (bool_eq HT.out.symm), HW1.out⟩
    ·have HT := zh (HIN.out rfl)
     clear HNO HIN
     go_wp2_with fail
     refine (HD.out _ HB2.out).mono ?_
     rintro e w1 ⟨rfl, hb⟩
     have HW1 := zh (HB2.out.trans (hb.mono HB2.out.size)); clear hb
     go_wp2_with fail
     go_roundw
     case rel => exact ⟨i + 1, by omega, by go_num, HT, HW1⟩
     case measure => simp [intOf]; omega
   ·obtain rfl : i = n := by omega
    have HR := zh (MISS.out HF.out)
    go_wp2_with fail
    go_ret
    exact ⟨ret_eq (bool_eq HR.out.symm), HW.out⟩
 ·rw [eqL_len hab]
  have hne : ((a.length : Int) != (b.length : Int)) = true := by simp; omega
  clear hab HC
  generalize a.length = n at *
  generalize b.length = m at *
  go_enter Tryz.func62, Tryz.ntmps62
  go_wp2_with fail
  go_ret
  exact ⟨rfl, zB _ _⟩
end
section
namespace TM
def sw (a b : Wd) : Bool := decide (a.s = b.s)
def sms : List Nd → List Nd → Bool
 | [], [] => true
 | [], _ :: _ => false
 | _ :: _, [] => false
 | .mk k _ s _ _ ws _ _ ks :: r, y :: b => (decide (k = y.k) && (decide (s = y.s) && (eqL sw ws y.ws && sms ks y.ks))) && sms r b
def sm (x y : Nd) : Bool := decide (x.k = y.k) && (decide (x.s = y.s) && (eqL sw x.ws y.ws && sms x.ks y.ks))
theorem sms_eqL : ∀ a b : List Nd, sms a b = eqL sm a b
 | [], [] => by rw [sms, eqL]
 | [], _ :: _ => by rw [sms, eqL]
 | _ :: _, [] => by rw [sms, eqL]
 | .mk k p s A c ws B d ks :: r, y :: b => by rw [sms, eqL, sms_eqL r b]; rfl
theorem sm_mk {xk xp xs xA xc xw xB xd xx yk yp ys yA yc yw yB yd yy} : sm (.mk xk xp xs xA xc xw xB xd xx) (.mk yk yp ys yA yc yw yB yd yy) = (decide (xk = yk) && (decide (xs = ys) && (eqL sw xw yw && eqL sm xx yy))) := by
 rw [← sms_eqL]; rfl
end TM
open Go.RowKit LX TR TM
theorem sameW1_any (x y : Wd) (w : World) : Calls Tryz.prog 61 #[.agg (wv x), .agg (wv y)] w fun e w' => e = .returned (.bool (sw x y)) ∧ Below w.heap.size w w' := by
 obtain ⟨s, p⟩ := x
 obtain ⟨t, q⟩ := y
 have hB : Below w.heap.size w ((w.alloc (.cells #[.string s, .int .i64 p] 23)).alloc (.cells #[.string t, .int .i64 q] 23)) := ((zB _ _).alloc (zL _) _).alloc (by simp) _
 have HB := zh hB
 have q1 := NM.str_eq s t
 have HX : Hid (sw ⟨s, p⟩ ⟨t, q⟩ = decide (s = t)) := rfl
 rw [HX.out]
 clear hB HX
 unfold wv
 simp only
 generalize decide (s = t) = r at *
 go_enter Tryz.func61, Tryz.ntmps61
 go_wp2_with fail
 go_ret
 exact ⟨rfl, HB.out⟩
theorem same_step (N : Nat) (hN : N < 4294967296) (ih : ∀ x y, cnt [x] ≤ N → ∀ w, Nods w w.heap.size [x] → Nods w w.heap.size [y] → Calls Tryz.prog 34 #[.agg (nv x), .agg (nv y)] w fun e w' => e = .returned (.bool (sm x y)) ∧ Below w.heap.size w w') (x y : Nd) (hz : cnt [x] ≤ N + 1) (w : World) (hx : Nods w w.heap.size [x]) (hy : Nods w w.heap.size [y]) :
 Calls Tryz.prog 34 #[.agg (nv x), .agg (nv y)] w fun e w' => e = .returned (.bool (sm x y)) ∧ Below w.heap.size w w' := by
 obtain ⟨xk, xp, xs, xA, xc, xw, xB, xd, xx⟩ := x
 obtain ⟨yk, yp, ys, yA, yc, yw, yB, yd, yy⟩ := y
 have hcz : 1 + xw.length + cnt xx ≤ N + 1 := by rw [cnt_cons] at hz; simp only [cnt, Nat.add_zero] at hz; exact hz
 have hzl := length_cnt xx
 have hn := RowAt.new w 28 #[.int .i64 xk, .int .i64 xp, .string xs, .slice xA xw.length xc, .slice xB xx.length xd]
 have hrx := hn.alloc (.cells #[.int .i64 yk, .int .i64 yp, .string ys, .slice yA yw.length yc, .slice yB yy.length yd] 28)
 have hry := RowAt.new (w.alloc (.cells #[.int .i64 xk, .int .i64 xp, .string xs, .slice xA xw.length xc, .slice xB xx.length xd] 28)) 28 #[.int .i64 yk, .int .i64 yp, .string ys, .slice yA yw.length yc, .slice yB yy.length yd]
 rw [show ((w.alloc (.cells #[.int .i64 xk, .int .i64 xp, .string xs, .slice xA xw.length xc, .slice xB xx.length xd] 28))).heap.size = w.heap.size + 1 by simp] at hry
 have hB : Below w.heap.size w ((w.alloc (.cells #[.int .i64 xk, .int .i64 xp, .string xs, .slice xA xw.length xc, .slice xB xx.length xd] 28)).alloc (.cells #[.int .i64 yk, .int .i64 yp, .string ys, .slice yA yw.length yc, .slice yB yy.length yd] 28)) := ((zB _ _).alloc (zL _) _).alloc (by simp) _
 have HXK : Hid (∀ W, Below w.heap.size w W → Nods W W.heap.size xx) := fun W h => (hx.kids.below h).mono h.size
 have HYK : Hid (∀ W, Below w.heap.size w W → Nods W W.heap.size yy) := fun W h => (hy.kids.below h).mono h.size
 have HE1 := zh (fun W (h : Below w.heap.size w W) => equalW_any (F := 61) (g := sw) (fun _ _ => by kernel_rfl) xA yA xc yc xw yw (by omega) W ((hx.at.1.1.below h).mono h.size) ((hy.at.1.1.below h).mono h.size) (fun a _ b _ W' _ => sameW1_any a b W'))
 have HE2 := zh (fun W (h : Below w.heap.size w W) => equalN_any (F := 34) (g := sm) (fun _ _ => by kernel_rfl) xB yB xd yd xx yy (by omega) W ((hx.at.2.1.below h).mono h.size) ((hy.at.2.1.below h).mono h.size) (fun a ha b hb W' h' => ih a b (by
  have h1 := cnt_mem ha
  rw [cnt_cons]
  simp only [cnt, Nat.add_zero]
  omega) W' (((HXK.out W h).mem ha).below h' |>.mono h'.size) (((HYK.out W h).mem hb).below h' |>.mono h'.size)))
 have HSM : Hid (sm (.mk xk xp xs xA xc xw xB xd xx) (.mk yk yp ys yA yc yw yB yd yy) = (decide (xk = yk) && (decide (xs = ys) && (eqL sw xw yw && eqL sm xx yy)))) := sm_mk
 unfold nv
 simp only [Nd.k, Nd.p, Nd.s, Nd.A, Nd.c, Nd.ws, Nd.B, Nd.d, Nd.ks]
 rw [HSM.out]
 clear hx hy ih HXK HYK HSM
 generalize eqL sw xw yw = rw' at *
 generalize eqL sm xx yy = rk at *
 have HB := zh hB
 have HRX := zh hrx
 have HRY := zh hry
 generalize xw.length = nw at *
 generalize yw.length = mw at *
 generalize xx.length = nx at *
 generalize yy.length = my at *
 obtain ⟨m0, m1, m2, m3, m4, _, _, _, _, _⟩ := row5 hrx
 obtain ⟨n0', n1', n2', n3', n4', _, _, _, _, _⟩ := row5 hry
 clear hn hrx hry hB
 by_cases hk : xk = yk
 ·subst hk
  by_cases hs : xs = ys
  ·subst hs
   cases rw'
   ·go_enter Tryz.func34, Tryz.ntmps34
    go_wp2_with fail
    refine (HE1.out _ HB.out).mono ?_
    rintro e w2 ⟨rfl, hb⟩
    have HB2 := zh (HB.out.trans (hb.mono HB.out.size))
    have r1 := HRX.out.below hb HRX.out.lt
    have r2 := HRY.out.below hb HRY.out.lt
    obtain ⟨m0, m1, m2, m3, m4, _, _, _, _, _⟩ := row5 r1
    obtain ⟨n0', n1', n2', n3', n4', _, _, _, _, _⟩ := row5 r2
    clear hb r1 r2
    go_wp2_with fail
    go_ret
    exact ⟨ret_eq (bool_eq (by simp)), HB2.out⟩
   ·go_enter Tryz.func34, Tryz.ntmps34
    go_wp2_with fail
    refine (HE1.out _ HB.out).mono ?_
    rintro e w2 ⟨rfl, hb⟩
    have HB2 := zh (HB.out.trans (hb.mono HB.out.size))
    have r1 := HRX.out.below hb HRX.out.lt
    have r2 := HRY.out.below hb HRY.out.lt
    obtain ⟨m0, m1, m2, m3, m4, _, _, _, _, _⟩ := row5 r1
    obtain ⟨n0', n1', n2', n3', n4', _, _, _, _, _⟩ := row5 r2
    clear hb r1 r2
    go_wp2_with fail
    refine (HE2.out _ HB2.out).mono ?_
    rintro e w3 ⟨rfl, hb⟩
    have HB3 := zh (HB2.out.trans (hb.mono HB2.out.size))
    clear hb
    go_wp2_with fail
    go_ret
    exact ⟨ret_eq (bool_eq (by simp)), HB3.out⟩
  ·have q1 : (xs.toList == ys.toList) = false := (NM.str_eq xs ys).trans (zF hs)
   have q2 : (xs.toList != ys.toList) = true := by rw [bne, q1]; rfl
   go_enter Tryz.func34, Tryz.ntmps34
   go_wp2_with fail
   go_ret
   exact ⟨ret_eq (bool_eq (by simp [hs])), HB.out⟩
 ·have q1 : (xk == yk) = false := by rw [beq_eq_false_iff_ne]; exact hk
  have q2 : (xk != yk) = true := by rw [bne_iff_ne]; exact hk
  go_enter Tryz.func34, Tryz.ntmps34
  go_wp2_with fail
  go_ret
  exact ⟨ret_eq (bool_eq (by simp [hk])), HB.out⟩
theorem same10_any : ∀ N, N ≤ 4294967296 → ∀ x y, cnt [x] ≤ N → ∀ w, Nods w w.heap.size [x] → Nods w w.heap.size [y] → Calls Tryz.prog 34 #[.agg (nv x), .agg (nv y)] w fun e w' => e = .returned (.bool (sm x y)) ∧ Below w.heap.size w w' := by
 intro N
 induction N with
 | zero => intro _ x y hz; rw [cnt_cons] at hz; omega
 | succ N ih => intro h x y hz; exact same_step N (by omega) (ih (by omega)) x y hz
end
section
open Go.RowKit LX TR TM
end
section
namespace TM
open LX TR
inductive W : Nat → Nd → Prop
 | point {p : Int} {s : ByteArray} {A : Option Addr} {c : Nat} {B : Option Addr} {d : Nat} (hs : NM.right s = true) : W 1 (.mk 2 p s A c [] B d [])
 | set {p : Int} {A : Option Addr} {c : Nat} {ws : List Wd} {B : Option Addr} {d : Nat} (hw : ∀ w ∈ ws, NM.right w.s = true) : W 1 (.mk 3 p e0 A c ws B d [])
 | tuple {p : Int} {A : Option Addr} {c : Nat} {B : Option Addr} {d : Nat} {ks : List Nd} (hne : ks ≠ []) (h : ∀ y ∈ ks, W 1 y) : W 1 (.mk 4 p e0 A c [] B d ks)
 | grid {p : Int} {A : Option Addr} {c : Nat} {B : Option Addr} {d : Nat} {ks : List Nd} (h : ∀ y ∈ ks, W 2 y) : W 1 (.mk 5 p e0 A c [] B d ks)
 | rule {p : Int} {s : ByteArray} {A : Option Addr} {c : Nat} {ws : List Wd} {B : Option Addr} {d : Nat} (hs : NM.right s = true) (hw : ∀ w ∈ ws, NM.right w.s = true) : W 2 (.mk 6 p s A c ws B d [])
 | var {p : Int} {s : ByteArray} {A : Option Addr} {c : Nat} {B : Option Addr} {d : Nat} (hs : NM.right s = true) : W 5 (.mk 1 p s A c [] B d [])
 | const {p : Int} {A : Option Addr} {c : Nat} {B : Option Addr} {d : Nat} {y : Nd} (h : W 1 y) : W 5 (.mk 7 p e0 A c [] B d [y])
 | atom {x : Nd} (h : W 5 x) : W 3 x
 | join {p : Int} {A : Option Addr} {c : Nat} {B : Option Addr} {d : Nat} {ks : List Nd} (hne : ks ≠ []) (h : ∀ y ∈ ks, W 3 y) : W 3 (.mk 8 p e0 A c [] B d ks)
 | meet {p : Int} {A : Option Addr} {c : Nat} {B : Option Addr} {d : Nat} {ks : List Nd} (hne : ks ≠ []) (h : ∀ y ∈ ks, W 3 y) : W 3 (.mk 9 p e0 A c [] B d ks)
 | field {p : Int} {s : ByteArray} {A : Option Addr} {c : Nat} {B : Option Addr} {d : Nat} {y : Nd} (hs : NM.right s = true) (h : W 5 y) : W 4 (.mk 11 p s A c [] B d [y])
 | rvar {p : Int} {s : ByteArray} {A : Option Addr} {c : Nat} {B : Option Addr} {d : Nat} (hs : NM.right s = true) : W 6 (.mk 1 p s A c [] B d [])
 | row {p : Int} {A : Option Addr} {c : Nat} {ws : List Wd} {B : Option Addr} {d : Nat} {ks : List Nd} (h1 : ws.length ≤ 1) (hw : ∀ w ∈ ws, NM.right w.s = true) (h : ∀ y ∈ ks, W 4 y) : W 6 (.mk 10 p e0 A c ws B d ks)
def gF (n : Nat) (f : Fl) : Bool := match n with
 | 1 => f.c
 | 2 => f.ru
 | 3 => f.l
 | 4 => f.fi
 | 5 => f.at'
 | 6 => f.r
 | _ => false
theorem fl_mk {k p s A c ws B d ks} : fl (.mk k p s A c ws B d ks) = fl1 k s ws (fls ks) := rfl
theorem wrB_of {ws : List Wd} (h : ∀ w ∈ ws, NM.right w.s = true) : wrB ws = true := by
 unfold wrB; rw [List.all_eq_true]; exact h
theorem of_wrB {ws : List Wd} (h : wrB ws = true) : ∀ w ∈ ws, NM.right w.s = true := by
 unfold wrB at h; rw [List.all_eq_true] at h; exact h
theorem fls_allof {ks : List Nd} {g : Fl → Bool} (h : ∀ y ∈ ks, g (fl y) = true) : (fls ks).all g = true := by
 rw [fls_map, List.all_map, List.all_eq_true]; exact h
theorem of_flsall {ks : List Nd} {g : Fl → Bool} (h : (fls ks).all g = true) : ∀ y ∈ ks, g (fl y) = true := by
 rw [fls_map, List.all_map, List.all_eq_true] at h; exact h
theorem fl_of {n : Nat} {x : Nd} (h : W n x) : gF n (fl x) = true := by
 induction h with
 | point hs => simp [gF, fl_mk, fl1, cB, leafB, fls, hs]
 | set hw => simp [gF, fl_mk, fl1, cB, fls, e0, wrB_of hw]
 | @tuple p A c B d ks hne h ih =>
   have h1 : (fls ks).all (·.c) = true := fls_allof ih
   have h2 : 0 < ks.length := List.length_pos_iff.2 hne
   simp only [gF, fl_mk, fl1, cB, brB, e0, fls_length, h1]
   simp [h2]
 | @grid p A c B d ks h ih =>
   have h1 : (fls ks).all (·.ru) = true := fls_allof ih
   simp only [gF, fl_mk, fl1, cB, brB, e0, h1]
   simp
 | rule hs hw => simp [gF, fl_mk, fl1, ruB, fls, hs, wrB_of hw]
 | var hs => simp [gF, fl_mk, fl1, atB, leafB, fls, hs]
 | const h ih =>
   have h1 : (fl _).c = true := ih
   simp [gF, fl_mk, fl1, atB, brB, fls_cons, fls, e0, h1]
 | @atom x h ih =>
   have h1 : (fl x).at' = true := ih
   show (fl x).l = true
   obtain ⟨k, p, s, A, c, ws, B, d, ks⟩ := x
   rw [fl_mk] at h1 ⊢
   have h2 : ¬ (k = 8 ∨ k = 9) := by
    rintro (rfl | rfl) <;> simp [fl1, atB] at h1
   simp only [fl1, lB, if_neg h2]
   exact h1
 | @join p A c B d ks hne h ih =>
   have h1 : (fls ks).all (·.l) = true := fls_allof ih
   have h2 : 0 < ks.length := List.length_pos_iff.2 hne
   simp only [gF, fl_mk, fl1, lB, brB, e0, fls_length, h1]
   simp [h2]
 | @meet p A c B d ks hne h ih =>
   have h1 : (fls ks).all (·.l) = true := fls_allof ih
   have h2 : 0 < ks.length := List.length_pos_iff.2 hne
   simp only [gF, fl_mk, fl1, lB, brB, e0, fls_length, h1]
   simp [h2]
 | field hs h ih =>
   have h1 : (fl _).at' = true := ih
   simp [gF, fl_mk, fl1, fiB, fls_cons, fls, hs, h1]
 | rvar hs => simp [gF, fl_mk, fl1, rB, leafB, fls, hs]
 | @row p A c ws B d ks h1 hw h ih =>
   have h2 : (fls ks).all (·.fi) = true := fls_allof ih
   simp only [gF, fl_mk, fl1, rB, e0, h2, wrB_of hw, zE h1]
   simp
theorem leaf_of {s : ByteArray} {ws : List Wd} {n : Nat} (h : leafB s ws n = true) : NM.right s = true ∧ ws = [] ∧ n = 0 := by
 simpa [leafB] using h
theorem br_of {s : ByteArray} {ws : List Wd} (h : brB s ws = true) : s = e0 ∧ ws = [] := by
 simpa [brB, e0] using h
theorem fls_none {ks : List Nd} (h : (fls ks).length = 0) : ks = [] := by rw [fls_length] at h; exact List.length_eq_zero_iff.1 h
theorem at_of {k : Int} {p s A c ws B d ks} (ih : ∀ y ∈ ks, (fl y).c = true → W 1 y) (h : atB k s ws (fls ks) = true) : W 5 (.mk k p s A c ws B d ks) := by
 unfold atB at h
 split at h
 ·rename_i hk
  obtain ⟨h1, rfl, h3⟩ := leaf_of h
  obtain rfl := fls_none h3
  subst hk; exact .var h1
 ·split at h
  ·rename_i hk
   simp only [Bool.and_eq_true, decide_eq_true_eq] at h
   obtain ⟨h1, h2, h3⟩ := h
   obtain ⟨rfl, rfl⟩ := br_of h1
   rw [fls_length] at h2
   obtain ⟨y, rfl⟩ := List.length_eq_one_iff.1 h2
   subst hk
   refine .const (ih y (by simp) ?_)
   rw [fls_cons] at h3
   exact h3
  ·cases h
theorem of_fl : ∀ l : List Nd, ∀ x ∈ l, ((fl x).c = true → W 1 x) ∧ ((fl x).ru = true → W 2 x) ∧ ((fl x).l = true → W 3 x) ∧ ((fl x).fi = true → W 4 x) ∧ ((fl x).at' = true → W 5 x) ∧ ((fl x).r = true → W 6 x) := by
 refine ind (by simp) fun k p s A c ws B d ks r h1 h2 x hx => ?_
 rcases List.mem_cons.1 hx with rfl | hx
 ·rw [fl_mk]
  have hat := fun h => at_of (p := p) (A := A) (c := c) (B := B) (d := d) (k := k) (s := s) (ws := ws) (fun y hy => (h1 y hy).1) h
  refine ⟨fun h => ?_, fun h => ?_, fun h => ?_, fun h => ?_, fun h => hat h, fun h => ?_⟩
  ·have h : cB k s ws (fls ks) = true := h
   unfold cB at h
   split at h
   ·rename_i hk
    obtain ⟨h3, rfl, h4⟩ := leaf_of h
    obtain rfl := fls_none h4
    subst hk; exact .point h3
   ·split at h
    ·rename_i hk
     simp only [Bool.and_eq_true, decide_eq_true_eq] at h
     obtain ⟨rfl, h3, h4⟩ := h
     obtain rfl := fls_none h3
     subst hk; exact .set (of_wrB h4)
    ·split at h
     ·rename_i hk
      simp only [Bool.and_eq_true, decide_eq_true_eq] at h
      obtain ⟨h3, h4, h5⟩ := h
      obtain ⟨rfl, rfl⟩ := br_of h3
      subst hk
      rw [fls_length] at h4
      exact .tuple (List.length_pos_iff.1 h4) fun y hy => (h1 y hy).1 (of_flsall h5 y hy)
     ·split at h
      ·rename_i hk
       simp only [Bool.and_eq_true] at h
       obtain ⟨h3, h5⟩ := h
       obtain ⟨rfl, rfl⟩ := br_of h3
       subst hk
       exact .grid fun y hy => (h1 y hy).2.1 (of_flsall h5 y hy)
      ·cases h
  ·have h : ruB k s ws (fls ks).length = true := h
   unfold ruB at h
   simp only [Bool.and_eq_true, decide_eq_true_eq] at h
   obtain ⟨rfl, h3, h4, h5⟩ := h
   obtain rfl := fls_none h4
   exact .rule h3 (of_wrB h5)
  ·have h : lB k s ws (fls ks) = true := h
   unfold lB at h
   split at h
   ·rename_i hk
    simp only [Bool.and_eq_true, decide_eq_true_eq] at h
    obtain ⟨h3, h4, h5⟩ := h
    obtain ⟨rfl, rfl⟩ := br_of h3
    rw [fls_length] at h4
    have h6 : ∀ y ∈ ks, W 3 y := fun y hy => (h1 y hy).2.2.1 (of_flsall h5 y hy)
    rcases hk with rfl | rfl
    ·exact .join (List.length_pos_iff.1 h4) h6
    ·exact .meet (List.length_pos_iff.1 h4) h6
   ·exact .atom (hat h)
  ·have h : fiB k s ws (fls ks) = true := h
   unfold fiB at h
   simp only [Bool.and_eq_true, decide_eq_true_eq] at h
   obtain ⟨rfl, h3, h4, h5, h6⟩ := h
   obtain rfl := List.length_eq_zero_iff.1 h4
   rw [fls_length] at h5
   obtain ⟨y, rfl⟩ := List.length_eq_one_iff.1 h5
   rw [fls_cons] at h6
   exact .field h3 ((h1 y (by simp)).2.2.2.2.1 h6)
  ·have h : rB k s ws (fls ks) = true := h
   unfold rB at h
   split at h
   ·rename_i hk
    obtain ⟨h3, rfl, h4⟩ := leaf_of h
    obtain rfl := fls_none h4
    subst hk; exact .rvar h3
   ·split at h
    ·rename_i hk
     simp only [Bool.and_eq_true, decide_eq_true_eq] at h
     obtain ⟨rfl, h3, h4, h5⟩ := h
     subst hk
     exact .row h3 (of_wrB h4) fun y hy => (h1 y hy).2.2.2.1 (of_flsall h5 y hy)
    ·cases h
 ·exact h2 x hx
theorem w_of {n : Nat} {x : Nd} (h : gF n (fl x) = true) : W n x := by
 have h1 := of_fl [x] x (by simp)
 unfold gF at h
 split at h
 ·exact h1.1 h
 ·exact h1.2.1 h
 ·exact h1.2.2.1 h
 ·exact h1.2.2.2.1 h
 ·exact h1.2.2.2.2.1 h
 ·exact h1.2.2.2.2.2 h
 ·cases h
abbrev Ky := Nat × ByteArray
def kyT (t : Tk) : Ky := (t.k, t.s)
def sg (c : Nat) : Ky := (c, chr c)
def jkt : List (List Ky) → List Ky
 | [] => []
 | x :: r => sg 44 :: (x ++ jkt r)
def jkc : List (List Ky) → List Ky
 | [] => []
 | x :: r => x ++ jkt r
def ky1 (k : Int) (s : ByteArray) (ws ks : List (List Ky)) : List Ky :=
 if k = 1 ∨ k = 2 then [(97, s)]
 else if k = 7 then sg 35 :: ks.headD []
 else if k = 11 then (97, s) :: sg 61 :: ks.headD []
 else if k = 4 then sg 40 :: (jkc ks ++ [sg 41])
 else if k = 8 then sg 43 :: sg 40 :: (jkc ks ++ [sg 41])
 else if k = 9 then sg 38 :: sg 40 :: (jkc ks ++ [sg 41])
 else if k = 5 then sg 91 :: (jkc ks ++ [sg 93])
 else if k = 3 then sg 123 :: (jkc ws ++ [sg 125])
 else if k = 6 then (97, s) :: sg 58 :: sg 123 :: (jkc ws ++ [sg 125])
 else if k = 10 then sg 91 :: ((jkc ks ++ (if ws = [] then [] else sg 124 :: jkc ws)) ++ [sg 93])
 else []
def kw (w : Wd) : List Ky := [(97, w.s)]
def kyn : List Nd → List (List Ky)
 | [] => []
 | .mk k _ s _ _ ws _ _ ks :: r => ky1 k s (ws.map kw) (kyn ks) :: kyn r
def ky (x : Nd) : List Ky := ky1 x.k x.s (x.ws.map kw) (kyn x.ks)
theorem kyn_map (l : List Nd) : kyn l = l.map ky := by
 induction l with
 | nil => simp [kyn]
 | cons x r ih => obtain ⟨k, p, s, A, c, ws, B, d, ks⟩ := x; rw [kyn, ih]; rfl
theorem ky_mk {k p s A c ws B d ks} : ky (.mk k p s A c ws B d ks) = ky1 k s (ws.map kw) (ks.map ky) := by rw [← kyn_map]; rfl
def txk : Bool → List Ky → List UInt8
 | _, [] => []
 | b, t :: l => (if b && decide (t.1 = 97) then [32] else []) ++ (lst t.2 ++ txk (decide (t.1 = 97)) l)
theorem txk_txt : ∀ (l : List Tk) (b : Bool), txt b l = txk b (l.map kyT)
 | [], _ => rfl
 | t :: l, b => by rw [txt, List.map_cons, txk, txk_txt l]; rfl
def nn : List Ky → Prop
 | [] => True
 | u :: _ => u.1 ≠ 97
theorem txk_nn {l : List Ky} (h : nn l) (b : Bool) : txk b l = txk false l := by
 cases l with
 | nil => rfl
 | cons u l =>
   have h' : u.1 ≠ 97 := h
   rw [txk, txk, zF h']
   simp
def Ts (a : List Ky) (s : List UInt8) : Prop := ∀ l, txk false (a ++ l) = s ++ txk false l
def Tx (a : List Ky) (s : List UInt8) : Prop := ∀ l, nn l → txk false (a ++ l) = s ++ txk false l
theorem Ts.tx {a s} (h : Ts a s) : Tx a s := fun l _ => h l
theorem Ts.app {a b s t} (h : Ts a s) (h2 : Ts b t) : Ts (a ++ b) (s ++ t) := fun l => by rw [List.append_assoc, h, h2, List.append_assoc]
theorem Ts.appx {a b s t} (h : Ts a s) (h2 : Tx b t) : Tx (a ++ b) (s ++ t) := fun l hl => by rw [List.append_assoc, h, h2 l hl, List.append_assoc]
theorem Tx.apps {a s u b t} (h : Tx a s) (h2 : Ts (u :: b) t) (hu : u.1 ≠ 97) : Ts (a ++ u :: b) (s ++ t) := fun l => by rw [List.append_assoc, h _ (by exact hu), h2, List.append_assoc]
theorem Tx.appx {a s u b t} (h : Tx a s) (h2 : Tx (u :: b) t) (hu : u.1 ≠ 97) : Tx (a ++ u :: b) (s ++ t) := fun l hl => by rw [List.append_assoc, h _ (by exact hu), h2 l hl, List.append_assoc]
theorem ts_sg {c : Nat} (h : c ≠ 97) : Ts [sg c] [c.toUInt8] := fun l => by
 show txk false (sg c :: l) = _
 rw [txk, zF (by exact h)]
 rfl
theorem tx_name (s : ByteArray) : Tx [(97, s)] (lst s) := fun l hl => by
 show txk false ((97, s) :: l) = _
 rw [txk, txk_nn hl]
 rfl
theorem ts_nil : Ts [] [] := fun _ => rfl
theorem tx_jkt {α : Type} {g : α → List Ky} {t : α → List UInt8} : ∀ xs : List α, (∀ x ∈ xs, Tx (g x) (t x)) → Tx (jkt (xs.map g)) (jt (xs.map t))
 | [], _ => ts_nil.tx
 | x :: r, h => by
   have h1 := h x (by simp)
   have h2 := tx_jkt r fun y hy => h y (by simp [hy])
   have h3 : Tx (g x ++ jkt (r.map g)) (t x ++ jt (r.map t)) := by
     cases r with
     | nil => simpa [jkt, jt] using h1
     | cons y r => exact h1.appx h2 (by decide)
   exact (ts_sg (c := 44) (by decide)).appx h3
theorem tx_jkc {α : Type} {g : α → List Ky} {t : α → List UInt8} (xs : List α) (h : ∀ x ∈ xs, Tx (g x) (t x)) : Tx (jkc (xs.map g)) (jc (xs.map t)) := by
 cases xs with
 | nil => exact ts_nil.tx
 | cons x r =>
   have h1 := h x (by simp)
   have h2 := tx_jkt r fun y hy => h y (by simp [hy])
   cases r with
   | nil => simpa [jkc, jc, jkt, jt] using h1
   | cons y r => exact h1.appx h2 (by decide)
theorem ts_br {a : List Ky} {s : List UInt8} {c d : Nat} (hc : c ≠ 97) (hd : d ≠ 97) (h : Tx a s) : Ts (sg c :: (a ++ [sg d])) (c.toUInt8 :: (s ++ [d.toUInt8])) :=
 (ts_sg hc).app (h.apps (ts_sg hd) hd)
theorem txs_mk {k p s A c ws B d ks} : tx (.mk k p s A c ws B d ks) = tx1 k (lst s) (ws.map fun x => lst x.s) (ks.map tx) := by rw [← txs_map]; rfl
theorem tx_ws (ws : List Wd) : Tx (jkc (ws.map kw)) (jc (ws.map fun x => lst x.s)) := tx_jkc ws fun x _ => tx_name x.s
theorem w_tx {n : Nat} {x : Nd} (h : W n x) : Tx (ky x) (tx x) := by
 induction h with
 | @point p s A c B d hs => rw [ky_mk, txs_mk]; simp only [ky1, tx1, or_true, if_true]; exact tx_name s
 | @set p A c ws B d hw =>
   rw [ky_mk, txs_mk]
   exact (ts_br (c := 123) (d := 125) (by decide) (by decide) (tx_ws ws)).tx
 | @tuple p A c B d ks hne h ih =>
   rw [ky_mk, txs_mk]
   exact (ts_br (c := 40) (d := 41) (by decide) (by decide) (tx_jkc ks ih)).tx
 | @grid p A c B d ks h ih =>
   rw [ky_mk, txs_mk]
   exact (ts_br (c := 91) (d := 93) (by decide) (by decide) (tx_jkc ks ih)).tx
 | @rule p s A c ws B d hs hw =>
   rw [ky_mk, txs_mk]
   have h1 := (ts_sg (c := 58) (by decide)).app (ts_br (c := 123) (d := 125) (by decide) (by decide) (tx_ws ws))
   exact ((tx_name s).apps h1 (by decide)).tx
 | @var p s A c B d hs => rw [ky_mk, txs_mk]; simp only [ky1, tx1, true_or, if_true]; exact tx_name s
 | @const p A c B d y h ih =>
   rw [ky_mk, txs_mk]
   exact (ts_sg (c := 35) (by decide)).appx ih
 | atom h ih => exact ih
 | @join p A c B d ks hne h ih =>
   rw [ky_mk, txs_mk]
   exact ((ts_sg (c := 43) (by decide)).app (ts_br (c := 40) (d := 41) (by decide) (by decide) (tx_jkc ks ih))).tx
 | @meet p A c B d ks hne h ih =>
   rw [ky_mk, txs_mk]
   exact ((ts_sg (c := 38) (by decide)).app (ts_br (c := 40) (d := 41) (by decide) (by decide) (tx_jkc ks ih))).tx
 | @field p s A c B d y hs h ih =>
   rw [ky_mk, txs_mk]
   exact (tx_name s).appx ((ts_sg (c := 61) (by decide)).appx ih) (by decide)
 | @rvar p s A c B d hs => rw [ky_mk, txs_mk]; simp only [ky1, tx1, true_or, if_true]; exact tx_name s
 | @row p A c ws B d ks h1 hw h ih =>
   rw [ky_mk, txs_mk]
   have h2 := tx_jkc ks ih
   cases ws with
   | nil =>
     have h3 := ts_br (c := 91) (d := 93) (by decide) (by decide) h2
     have e : ky1 10 e0 (List.map kw []) (ks.map ky) = sg 91 :: (jkc (ks.map ky) ++ [sg 93]) := by simp [ky1]
     rw [e]
     exact h3.tx
   | cons w ws =>
     have h3 : Tx (jkc (ks.map ky) ++ sg 124 :: jkc ((w :: ws).map kw)) (jc (ks.map tx) ++ 124 :: jc ((w :: ws).map fun x => lst x.s)) :=
        h2.appx ((ts_sg (c := 124) (by decide)).appx (tx_ws (w :: ws))) (by decide)
     have h4 := (ts_br (c := 91) (d := 93) (by decide) (by decide) h3).tx
     have e : tx1 10 (lst e0) ((w :: ws).map fun x => lst x.s) (ks.map tx) = 91 :: ((jc (ks.map tx) ++ 124 :: jc ((w :: ws).map fun x => lst x.s)) ++ [93]) := by simp [tx1]
     rw [e]
     exact h4
end TM
end
section
namespace TM
open LX TR
def kyf (us : List Tr) : List Ky := (flat us).map kyT
theorem kyf_append (a b : List Tr) : kyf (a ++ b) = kyf a ++ kyf b := by unfold kyf; rw [flat_append, List.map_append]
theorem kyf_nil : kyf [] = [] := by simp [kyf, flat, evs]
theorem kyf_cons (x : Tr) (r : List Tr) : kyf (x :: r) = kyf [x] ++ kyf r := kyf_append [x] r
theorem kyf_leaf {x : Tr} (h : cl x.t.k = 0) : kyf [x] = [kyT x.t] := by
 obtain ⟨t, A, c, ks, e⟩ := x
 have h' : cl t.k = 0 := h
 simp [kyf, flat, evs, h', Tr.t]
theorem kyf_br {x : Tr} (h : ¬ cl x.t.k = 0) : kyf [x] = kyT x.t :: (kyf x.ks ++ [sg (cl x.t.k)]) := by
 obtain ⟨t, A, c, ks, e⟩ := x
 have h' : ¬ cl t.k = 0 := h
 simp [kyf, flat, evs, h', Tr.t, Tr.ks, kyT, sg]
def Good (ts : List Tr) : Prop := ∀ y ∈ nodes ts, rightT y.t = true
theorem nodes_cons (x : Tr) (r : List Tr) : nodes (x :: r) = x :: (nodes x.ks ++ nodes r) := by cases x; rw [nodes]; rfl
theorem Good.cons {x : Tr} {r : List Tr} (h : Good (x :: r)) : rightT x.t = true ∧ Good x.ks ∧ Good r := by
 unfold Good at h
 rw [nodes_cons] at h
 exact ⟨h x (by simp), fun y hy => h y (by simp [hy]), fun y hy => h y (by simp [hy])⟩
theorem Good.right {a b : List Tr} (h : Good (a ++ b)) : Good b := fun y hy => h y (by rw [nodes_append]; exact List.mem_append_right _ hy)
theorem ky_sign {t : Tk} (hr : rightT t = true) (h97 : ¬ t.k = 97) : kyT t = sg t.k := by
 obtain ⟨q, s, p⟩ := t
 rw [rightT_sign h97] at hr
 simp only [Bool.and_eq_true, decide_eq_true_eq] at hr
 obtain ⟨_, h2, h3⟩ := hr
 have hs : s = chr q := by
  obtain ⟨⟨d⟩⟩ := s
  match d, h2 with
  | [x], _ =>
    have h4 : x.toNat = q := h3
    unfold chr
    rw [← h4]
    simp
 show (q, s) = (q, chr q)
 rw [hs]
theorem take_inv {k : Nat} {ts : List Tr} {e : Int} {t : Tk} {r : List Tr} (h : takeR k ts e = .ok (t, r)) : ∃ x, ts = x :: r ∧ x.t = t ∧ x.t.k = k := by
 cases ts with
 | nil => cases h
 | cons x q =>
   simp only [takeR] at h
   split at h
   ·rename_i hk
    injection h with h
    injection h with h1 h2
    subst h2
    exact ⟨x, rfl, h1, hk⟩
   ·cases h
theorem bnd_ok {α β : Type} {x : Res α} {f : α → List Tr → Res β} {b : β × List Tr} (h : bnd x f = .ok b) : ∃ a r, x = .ok (a, r) ∧ f a r = .ok b := by
 unfold bnd at h
 split at h
 ·cases h
 ·exact ⟨_, _, rfl, h⟩
theorem ok_inj {α : Type} {a b : α} {r s : List Tr} (h : (Except.ok (a, r) : Res α) = .ok (b, s)) : a = b ∧ r = s := by
 injection h with h
 injection h with h1 h2
 exact ⟨h1, h2⟩
def Snd {α : Type} (rd : Rdr α) (ok : α → Prop) (g : α → List Ky) : Prop := ∀ ts e a r, Good ts → rd ts e = .ok (a, r) → ∃ us, ts = us ++ r ∧ ok a ∧ kyf us = g a
theorem snd_take {k : Nat} {ts : List Tr} {e : Int} {t : Tk} {r : List Tr} (hg : Good ts) (h0 : cl k = 0) (h97 : ¬ k = 97) (h : takeR k ts e = .ok (t, r)) : ∃ x, ts = x :: r ∧ Good r ∧ kyf [x] = [sg k] := by
 obtain ⟨x, rfl, rfl, rfl⟩ := take_inv h
 exact ⟨x, rfl, hg.cons.2.2, by rw [kyf_leaf h0, ky_sign hg.cons.1 h97]⟩
theorem name_inv {ts : List Tr} {e : Int} {w : Wd} {r : List Tr} (hg : Good ts) (h : nameR ts e = .ok (w, r)) : ∃ x, ts = x :: r ∧ Good r ∧ kyf [x] = [(97, w.s)] ∧ NM.right w.s = true ∧ x.t.k = 97 ∧ x.t.s = w.s := by
 obtain ⟨t, r1, h1, h2⟩ := bnd_ok h
 obtain ⟨rfl, rfl⟩ := ok_inj h2
 obtain ⟨x, rfl, rfl, hk⟩ := take_inv h1
 have hr := hg.cons.1
 rw [rightT_word hk] at hr
 exact ⟨x, rfl, hg.cons.2.2, by rw [kyf_leaf (by rw [hk]; rfl)]; unfold kyT; rw [hk], hr, hk, rfl⟩
theorem snd_name : Snd nameR (fun w => NM.right w.s = true) kw := fun ts e w r hg h => by
 obtain ⟨x, rfl, _, h2, h3, _⟩ := name_inv hg h
 exact ⟨[x], rfl, h3, h2⟩
section
variable {α : Type} {el : Rdr α} {ok : α → Prop} {g : α → List Ky}
theorem snd_more (h : Snd el ok g) : ∀ n ts e xs r, Good ts → moreR el n ts e = .ok (xs, r) → ∃ us, ts = us ++ r ∧ (∀ x ∈ xs, ok x) ∧ kyf us = jkt (xs.map g)
 | 0, ts, e, xs, r, _, hr => by
   obtain ⟨rfl, rfl⟩ := ok_inj hr
   exact ⟨[], rfl, by simp, kyf_nil⟩
 | n + 1, [], e, xs, r, _, hr => by
   obtain ⟨rfl, rfl⟩ := ok_inj hr
   exact ⟨[], rfl, by simp, kyf_nil⟩
 | n + 1, c :: q, e, xs, r, hg, hr => by
   simp only [moreR] at hr
   split at hr
   ·rename_i hk
    obtain ⟨x, r2, h1, h2⟩ := bnd_ok hr
    obtain ⟨ys, r3, h3, h4⟩ := bnd_ok h2
    obtain ⟨rfl, rfl⟩ := ok_inj h4
    have hc := hg.cons
    obtain ⟨us1, rfl, ho, hf1⟩ := h q e x r2 hc.2.2 h1
    obtain ⟨us2, rfl, hos, hf2⟩ := snd_more h n r2 e ys r3 hc.2.2.right h3
    have hcc : kyf [c] = [sg 44] := by rw [kyf_leaf (by rw [hk]; rfl), ky_sign hc.1 (by rw [hk]; decide), hk]
    refine ⟨c :: (us1 ++ us2), by simp, fun y hy => ?_, ?_⟩
    ·rcases List.mem_cons.1 hy with rfl | hy
     ·exact ho
     ·exact hos y hy
    ·rw [kyf_cons, kyf_append, hcc, hf1, hf2]; rfl
   ·obtain ⟨rfl, rfl⟩ := ok_inj hr
    exact ⟨[], rfl, by simp, kyf_nil⟩
theorem snd_some (h : Snd el ok g) : Snd (someR el) (fun xs => xs ≠ [] ∧ ∀ x ∈ xs, ok x) (fun xs => jkc (xs.map g)) := fun ts e xs r hg hr => by
 obtain ⟨x, r2, h1, h2⟩ := bnd_ok hr
 obtain ⟨ys, r3, h3, h4⟩ := bnd_ok h2
 obtain ⟨rfl, rfl⟩ := ok_inj h4
 obtain ⟨us1, rfl, ho, hf1⟩ := h ts e x r2 hg h1
 obtain ⟨us2, rfl, hos, hf2⟩ := snd_more h _ r2 e ys r3 hg.right h3
 refine ⟨us1 ++ us2, by simp, ⟨by simp, fun y hy => ?_⟩, ?_⟩
 ·rcases List.mem_cons.1 hy with rfl | hy
  ·exact ho
  ·exact hos y hy
 ·rw [kyf_append, hf1, hf2]; rfl
theorem snd_opt (h : Snd el ok g) : Snd (optR el) (fun xs => ∀ x ∈ xs, ok x) (fun xs => jkc (xs.map g)) := fun ts e xs r hg hr => by
 cases ts with
 | nil =>
   obtain ⟨rfl, rfl⟩ := ok_inj hr
   exact ⟨[], rfl, by simp, kyf_nil⟩
 | cons x q =>
   simp only [optR] at hr
   split at hr
   ·obtain ⟨rfl, rfl⟩ := ok_inj hr
    exact ⟨[], rfl, by simp, kyf_nil⟩
   ·obtain ⟨us, h1, h2, h3⟩ := snd_some h (x :: q) e xs r hg hr
    exact ⟨us, h1, h2.2, h3⟩
theorem snd_within {k : Nat} (hk0 : ¬ cl k = 0) (hk97 : ¬ k = 97) (h : Snd el ok g) : Snd (withinR k el) ok (fun a => sg k :: (g a ++ [sg (cl k)])) := fun ts e a r hg hr => by
 cases ts with
 | nil => cases hr
 | cons x q =>
   simp only [withinR] at hr
   split at hr
   ·rename_i hk
    obtain ⟨b, r2, h1, h2⟩ := bnd_ok hr
    cases r2 with
    | cons y r3 => cases h2
    | nil =>
      obtain ⟨rfl, rfl⟩ := ok_inj h2
      have hc := hg.cons
      obtain ⟨us, h3, ho, hf⟩ := h x.ks x.e b [] hc.2.1 h1
      rw [List.append_nil] at h3
      subst h3
      refine ⟨[x], rfl, ho, ?_⟩
      rw [kyf_br (by rw [hk]; exact hk0), ky_sign hc.1 (by rw [hk]; exact hk97), hk, hf]
   ·cases hr
end
theorem snd_set : Snd setR (fun ws => ∀ w ∈ ws, NM.right w.s = true) (fun ws => sg 123 :: (jkc (ws.map kw) ++ [sg 125])) := snd_within (k := 123) (by decide) (by decide) (snd_opt snd_name)
theorem ky_nd {k p s ws ks} : ky (nd k p s ws ks) = ky1 k s (ws.map kw) (ks.map ky) := ky_mk
theorem snd_rule : Snd ruleR (W 2) ky := fun ts e a r hg hr => by
 obtain ⟨w, r1, h1, h2⟩ := bnd_ok hr
 obtain ⟨_, r2, h3, h4⟩ := bnd_ok h2
 obtain ⟨ws, r3, h5, h6⟩ := bnd_ok h4
 obtain ⟨rfl, rfl⟩ := ok_inj h6
 obtain ⟨x, rfl, hg1, hf1, hw, _, _⟩ := name_inv hg h1
 obtain ⟨y, rfl, hg2, hf2⟩ := snd_take hg1 (by rfl) (by decide) h3
 obtain ⟨us, rfl, ho, hf3⟩ := snd_set _ e ws _ hg2 h5
 refine ⟨x :: y :: us, rfl, .rule hw ho, ?_⟩
 rw [kyf_cons, kyf_cons y, hf1, hf2, hf3, ky_nd]; rfl
theorem snd_const : ∀ d, Snd (constR d) (W 1) ky
 | 0 => fun ts e a r hg hr => by cases hr
 | d + 1 => fun ts e a r hg hr => by
   cases ts with
   | nil => cases hr
   | cons x q =>
     simp only [constR] at hr
     have hc := hg.cons
     split at hr
     ·rename_i hk
      obtain ⟨rfl, rfl⟩ := ok_inj hr
      have h1 := hc.1
      rw [rightT_word hk] at h1
      refine ⟨[x], rfl, .point h1, ?_⟩
      rw [kyf_leaf (by rw [hk]; rfl), ky_nd]; unfold kyT; rw [hk]; rfl
     ·split at hr
      ·obtain ⟨ws, r1, h1, h2⟩ := bnd_ok hr
       obtain ⟨rfl, rfl⟩ := ok_inj h2
       obtain ⟨us, h3, ho, hf⟩ := snd_set _ e ws _ hg h1
       exact ⟨us, h3, .set ho, by rw [hf, ky_nd]; rfl⟩
      ·split at hr
       ·obtain ⟨ks, r1, h1, h2⟩ := bnd_ok hr
        obtain ⟨rfl, rfl⟩ := ok_inj h2
        obtain ⟨us, h3, ho, hf⟩ := snd_within (k := 40) (by decide) (by decide) (snd_some (snd_const d)) _ e ks _ hg h1
        exact ⟨us, h3, .tuple ho.1 ho.2, by rw [hf, ky_nd]; rfl⟩
       ·split at hr
        ·obtain ⟨ks, r1, h1, h2⟩ := bnd_ok hr
         obtain ⟨rfl, rfl⟩ := ok_inj h2
         obtain ⟨us, h3, ho, hf⟩ := snd_within (k := 91) (by decide) (by decide) (snd_opt snd_rule) _ e ks _ hg h1
         exact ⟨us, h3, .grid ho, by rw [hf, ky_nd]; rfl⟩
        ·cases hr
theorem var_inv {ts : List Tr} {e : Int} {a : Nd} {r : List Tr} (hg : Good ts) (hr : varR ts e = .ok (a, r)) : ∃ us p s, ts = us ++ r ∧ a = nd 1 p s [] [] ∧ NM.right s = true ∧ kyf us = ky a := by
 obtain ⟨w, r1, h1, h2⟩ := bnd_ok hr
 obtain ⟨rfl, rfl⟩ := ok_inj h2
 obtain ⟨x, rfl, hg1, hf1, hw, _, _⟩ := name_inv hg h1
 exact ⟨[x], w.p, w.s, rfl, rfl, hw, by rw [hf1, ky_nd]; rfl⟩
theorem snd_atom (d : Nat) : Snd (atomR d) (W 5) ky := fun ts e a r hg hr => by
 cases ts with
 | nil => cases hr
 | cons x q =>
   simp only [atomR] at hr
   have hc := hg.cons
   split at hr
   ·rename_i hk
    obtain ⟨n, r1, h1, h2⟩ := bnd_ok hr
    obtain ⟨rfl, rfl⟩ := ok_inj h2
    obtain ⟨us, rfl, ho, hf⟩ := snd_const d q e n _ hc.2.2 h1
    refine ⟨x :: us, rfl, .const ho, ?_⟩
    rw [kyf_cons, kyf_leaf (by rw [hk]; rfl), ky_sign hc.1 (by rw [hk]; decide), hk, hf, ky_nd]; rfl
   ·obtain ⟨us, p, s, h1, rfl, h3, h4⟩ := var_inv hg hr
    exact ⟨us, h1, .var h3, h4⟩
theorem snd_label : ∀ d, Snd (labelR d) (W 3) ky
 | 0 => fun ts e a r hg hr => by cases hr
 | d + 1 => fun ts e a r hg hr => by
   cases ts with
   | nil => cases hr
   | cons x q =>
     simp only [labelR] at hr
     have hc := hg.cons
     split at hr
     ·rename_i hk
      obtain ⟨ks, r1, h1, h2⟩ := bnd_ok hr
      obtain ⟨rfl, rfl⟩ := ok_inj h2
      obtain ⟨us, rfl, ho, hf⟩ := snd_within (k := 40) (by decide) (by decide) (snd_some (snd_label d)) _ e ks _ hc.2.2 h1
      refine ⟨x :: us, rfl, .join ho.1 ho.2, ?_⟩
      rw [kyf_cons, kyf_leaf (by rw [hk]; rfl), ky_sign hc.1 (by rw [hk]; decide), hk, hf, ky_nd]; rfl
     ·split at hr
      ·rename_i hk
       obtain ⟨ks, r1, h1, h2⟩ := bnd_ok hr
       obtain ⟨rfl, rfl⟩ := ok_inj h2
       obtain ⟨us, rfl, ho, hf⟩ := snd_within (k := 40) (by decide) (by decide) (snd_some (snd_label d)) _ e ks _ hc.2.2 h1
       refine ⟨x :: us, rfl, .meet ho.1 ho.2, ?_⟩
       rw [kyf_cons, kyf_leaf (by rw [hk]; rfl), ky_sign hc.1 (by rw [hk]; decide), hk, hf, ky_nd]; rfl
      ·obtain ⟨us, h1, h2, h3⟩ := snd_atom (d + 1) _ e a r hg hr
       exact ⟨us, h1, .atom h2, h3⟩
theorem snd_field (d : Nat) : Snd (fieldR d) (W 4) ky := fun ts e a r hg hr => by
 obtain ⟨w, r1, h1, h2⟩ := bnd_ok hr
 obtain ⟨_, r2, h3, h4⟩ := bnd_ok h2
 obtain ⟨n, r3, h5, h6⟩ := bnd_ok h4
 obtain ⟨rfl, rfl⟩ := ok_inj h6
 obtain ⟨x, rfl, hg1, hf1, hw, _, _⟩ := name_inv hg h1
 obtain ⟨y, rfl, hg2, hf2⟩ := snd_take hg1 (by rfl) (by decide) h3
 obtain ⟨us, rfl, ho, hf3⟩ := snd_atom d _ e n _ hg2 h5
 refine ⟨x :: y :: us, rfl, .field hw ho, ?_⟩
 rw [kyf_cons, kyf_cons y, hf1, hf2, hf3, ky_nd]; rfl
theorem snd_inrow (d : Nat) : Snd (inrowR d) (fun kw => (∀ y ∈ kw.1, W 4 y) ∧ kw.2.length ≤ 1 ∧ ∀ w ∈ kw.2, NM.right w.s = true) (fun a => jkc (a.1.map ky) ++ (if a.2.map kw = [] then [] else sg 124 :: jkc (a.2.map kw))) := fun ts e a r hg hr => by
 obtain ⟨ks, r1, h1, h2⟩ := bnd_ok hr
 obtain ⟨us, rfl, ho, hf⟩ := snd_opt (snd_field d) ts e ks r1 hg h1
 have hg1 := hg.right
 cases r1 with
 | nil =>
   obtain ⟨rfl, rfl⟩ := ok_inj h2
   exact ⟨us, rfl, ⟨ho, by simp, by simp⟩, by rw [hf]; simp⟩
 | cons y q =>
   simp only [tailR] at h2
   split at h2
   ·rename_i hk
    obtain ⟨w, r2, h3, h4⟩ := bnd_ok h2
    obtain ⟨rfl, rfl⟩ := ok_inj h4
    obtain ⟨x, rfl, hg2, hf1, hw, _, _⟩ := name_inv hg1.cons.2.2 h3
    have hy : kyf [y] = [sg 124] := by rw [kyf_leaf (by rw [hk]; rfl), ky_sign hg1.cons.1 (by rw [hk]; decide), hk]
    refine ⟨us ++ [y, x], by simp, ⟨ho, by simp, by simpa using hw⟩, ?_⟩
    rw [kyf_append, kyf_cons y, hy, hf, hf1]
    simp [jkc, jkt, kw]
   ·obtain ⟨rfl, rfl⟩ := ok_inj h2
    exact ⟨us, rfl, ⟨ho, by simp, by simp⟩, by rw [hf]; simp⟩
theorem snd_row (d : Nat) : Snd (rowR d) (W 6) ky := fun ts e a r hg hr => by
 cases ts with
 | nil => cases hr
 | cons x q =>
   simp only [rowR] at hr
   split at hr
   ·obtain ⟨ab, r1, h1, h2⟩ := bnd_ok hr
    obtain ⟨rfl, rfl⟩ := ok_inj h2
    obtain ⟨us, h3, ho, hf⟩ := snd_within (k := 91) (by decide) (by decide) (snd_inrow d) _ e ab _ hg h1
    exact ⟨us, h3, .row ho.2.1 ho.2.2 ho.1, by rw [hf, ky_nd]; rfl⟩
   ·obtain ⟨us, p, s, h1, rfl, h3, h4⟩ := var_inv hg hr
    exact ⟨us, h1, .rvar h3, h4⟩
theorem spells_tok {s : List Tk} {ts : List Tr} (h : Spells s ts) : ∀ y ∈ nodes ts, y.t ∈ s := by
 induction h with
 | nil => simp [nodes]
 | @leaf t l r _ _ _ ih =>
   intro y hy
   rw [nodes] at hy
   rcases List.mem_cons.1 hy with rfl | hy
   ·exact List.mem_cons_self
   ·rw [show nodes [] = [] by simp [nodes], List.nil_append] at hy
    exact List.mem_cons_of_mem _ (ih y hy)
 | @node t c l1 l2 ks r _ _ _ _ ih1 ih2 =>
   intro y hy
   rw [nodes] at hy
   rcases List.mem_cons.1 hy with rfl | hy
   ·exact List.mem_cons_self
   ·rcases List.mem_append.1 hy with hy | hy
    ·exact List.mem_cons_of_mem _ (List.mem_append_left _ (ih1 y hy))
    ·exact List.mem_cons_of_mem _ (List.mem_append_right _ (List.mem_cons_of_mem _ (ih2 y hy)))
theorem placed_right {s : ByteArray} {a : Nat} {l : List Tk} (h : Placed s a l) : ∀ t ∈ l, rightT t = true := by
 induction h with
 | nil => simp
 | cons a p t l hp ha hl hs hr hb h ih =>
   intro u hu
   rcases List.mem_cons.1 hu with rfl | hu
   ·exact hr
   ·exact ih u hu
theorem good_tr (s : ByteArray) : Good (trOf s) := by
 unfold trOf
 split
 ·intro y hy; simp [nodes] at hy
 ·rename_i R hR
  obtain ⟨l, h1, h2⟩ := scan_placed 0 [] R hR
  obtain rfl : R = l := by simpa using h1
  have h3 := placed_right h2
  split
  ·intro y hy; simp [nodes] at hy
  ·rename_i ts hts
   exact fun y hy => h3 _ (spells_tok (parse_spells hts).1 y hy)
end TM
end
section
namespace TM
open LX TR
def Cmp {α : Type} (rd : Nat → Rdr α) (g : List Ky) (q : α → Prop) : Prop :=
 ∀ m : List Tk, m.map kyT = g → ∃ ts, Spells m ts ∧ ∀ d e r, (nodes ts).length ≤ d → ∃ y, rd d (ts ++ r) e = .ok (y, r) ∧ q y
theorem kcons {m : List Tk} {u : Ky} {g : List Ky} (h : m.map kyT = u :: g) : ∃ t m', m = t :: m' ∧ t.k = u.1 ∧ t.s = u.2 ∧ m'.map kyT = g := by
 cases m with
 | nil => cases h
 | cons t m' =>
   rw [List.map_cons] at h
   injection h with h1 h2
   exact ⟨t, m', rfl, congrArg Prod.fst h1, congrArg Prod.snd h1, h2⟩
theorem knil {m : List Tk} (h : m.map kyT = []) : m = [] := by simpa using h
theorem kapp {m : List Tk} {a b : List Ky} (h : m.map kyT = a ++ b) : ∃ m1 m2, m = m1 ++ m2 ∧ m1.map kyT = a ∧ m2.map kyT = b := by
 obtain ⟨m1, m2, h1, h2, h3⟩ := List.map_eq_append_iff.1 h
 exact ⟨m1, m2, h1, h2, h3⟩
def leafT (t : Tk) : Tr := .mk t none 0 [] t.p
theorem sp_leaf {t : Tk} (h0 : cl t.k = 0) (h1 : cls t.k = false) : Spells [t] [leafT t] := .leaf h0 h1 .nil
theorem sp_cons {t : Tk} {m : List Tk} {ts : List Tr} (h0 : cl t.k = 0) (h1 : cls t.k = false) (h : Spells m ts) : Spells (t :: m) (leafT t :: ts) := .leaf h0 h1 h
theorem sp_head {t : Tk} {m : List Tk} {ts : List Tr} (h : Spells (t :: m) ts) : ∃ x r, ts = x :: r ∧ x.t = t := by
 cases h with
 | leaf h0 h1 h2 => exact ⟨_, _, rfl, rfl⟩
 | node h0 h1 h2 h3 => exact ⟨_, _, rfl, rfl⟩
theorem nodes_app (a b : List Tr) : (nodes (a ++ b)).length = (nodes a).length + (nodes b).length := by rw [nodes_append, zA7]
theorem nodes_len (x : Tr) (r : List Tr) : (nodes (x :: r)).length = 1 + (nodes x.ks).length + (nodes r).length := by
 rw [nodes_cons, zA8, zA7]; omega
theorem cmp_name (w : Wd) : Cmp (fun _ => nameR) (kw w) (fun v => sw v w = true) := fun m hm => by
 obtain ⟨t, m', rfl, hk, hs, h0⟩ := kcons hm
 obtain rfl := knil h0
 have hk : t.k = 97 := hk
 have hs : t.s = w.s := hs
 refine ⟨[leafT t], sp_leaf (by rw [hk]; rfl) (by rw [hk]; rfl), fun d e r _ => ⟨⟨t.s, t.p⟩, ?_, ?_⟩⟩
 ·show bnd (takeR 97 (leafT t :: r) e) _ = _
  rw [takeR_hit (x := leafT t) hk]; rfl
 ·show decide (t.s = w.s) = true
  exact zE hs
theorem moreR_stop0 {α : Type} {el : Rdr α} (n : Nat) {ts : List Tr} {e : Int} (hk : kindOf ts none ≠ 44) : moreR el n ts e = .ok ([], ts) := by
 cases n with
 | zero => rfl
 | succ n =>
   cases ts with
   | nil => rfl
   | cons c r =>
     have h' : ¬ c.t.k = 44 := hk
     simp only [moreR]; rw [if_neg h']
section
variable {α : Type} {rd : Nat → Rdr α} {g : α → List Ky} {f : α → α → Bool}
theorem cmp_more : ∀ xs : List α, (∀ x ∈ xs, Cmp rd (g x) (fun y => f y x = true)) → ∀ m : List Tk, m.map kyT = jkt (xs.map g) →
 ∃ ts, Spells m ts ∧ xs.length ≤ ts.length ∧ ∀ n d e r, xs.length ≤ n → (nodes ts).length ≤ d → kindOf r none ≠ 44 → ∃ ys, moreR (rd d) n (ts ++ r) e = .ok (ys, r) ∧ eqL f ys xs = true
 | [], _, m, hm => by
   obtain rfl := knil hm
   exact ⟨[], .nil, zL _, fun n d e r _ _ hk => ⟨[], moreR_stop0 n hk, rfl⟩⟩
 | x :: xs, h, m, hm => by
   rw [List.map_cons, jkt] at hm
   obtain ⟨c, m0, rfl, hk, _, hm⟩ := kcons hm
   obtain ⟨m1, m2, rfl, h1, h2⟩ := kapp hm
   have hk : c.k = 44 := hk
   obtain ⟨ts1, hs1, hr1⟩ := h x (by simp) m1 h1
   obtain ⟨ts2, hs2, hl2, hr2⟩ := cmp_more xs (fun y hy => h y (by simp [hy])) m2 h2
   have hcl : cl c.k = 0 := by rw [hk]; rfl
   refine ⟨leafT c :: (ts1 ++ ts2), sp_cons hcl (by rw [hk]; rfl) (hs1.append hs2), by simp only [zA8, zA7]; omega, fun n d e r hn hd hkr => ?_⟩
   rw [nodes_len, nodes_app] at hd
   obtain ⟨n, rfl⟩ : ∃ k, n = k + 1 := ⟨n - 1, by simp only [zA8] at hn; omega⟩
   obtain ⟨y, hy, hq⟩ := hr1 d e (ts2 ++ r) (by omega)
   obtain ⟨ys, hys, hqs⟩ := hr2 n d e r (by simp only [zA8] at hn; omega) (by omega) hkr
   refine ⟨y :: ys, ?_, by rw [eqL, hq, hqs]; rfl⟩
   rw [List.cons_append, List.append_assoc]
   simp only [moreR]
   rw [if_pos (show (leafT c).t.k = 44 from hk), hy]
   show bnd (moreR (rd d) n (ts2 ++ r) e) _ = _
   rw [hys]; rfl
theorem cmp_some {xs : List α} (hne : xs ≠ []) (h : ∀ x ∈ xs, Cmp rd (g x) (fun y => f y x = true)) (m : List Tk) (hm : m.map kyT = jkc (xs.map g)) :
 ∃ ts, Spells m ts ∧ ∀ d e r, (nodes ts).length ≤ d → kindOf r none ≠ 44 → ∃ ys, someR (rd d) (ts ++ r) e = .ok (ys, r) ∧ eqL f ys xs = true := by
 cases xs with
 | nil => exact absurd rfl hne
 | cons x xs =>
   rw [List.map_cons, jkc] at hm
   obtain ⟨m1, m2, rfl, h1, h2⟩ := kapp hm
   obtain ⟨ts1, hs1, hr1⟩ := h x (by simp) m1 h1
   obtain ⟨ts2, hs2, hl2, hr2⟩ := cmp_more xs (fun y hy => h y (by simp [hy])) m2 h2
   refine ⟨ts1 ++ ts2, hs1.append hs2, fun d e r hd hkr => ?_⟩
   rw [nodes_app] at hd
   obtain ⟨y, hy, hq⟩ := hr1 d e (ts2 ++ r) (by omega)
   obtain ⟨ys, hys, hqs⟩ := hr2 (ts1 ++ ts2 ++ r).length d e r (by simp only [zA7]; omega) (by omega) hkr
   refine ⟨y :: ys, ?_, by rw [eqL, hq, hqs]; rfl⟩
   unfold someR
   rw [List.append_assoc] at hys ⊢
   rw [hy]
   show bnd (moreR (rd d) _ (ts2 ++ r) e) _ = _
   rw [hys]; rfl
theorem cmp_opt {xs : List α} (h : ∀ x ∈ xs, Cmp rd (g x) (fun y => f y x = true)) (hh : ∀ x ∈ xs, ∃ u b, g x = u :: b ∧ u.1 ≠ 124) (m : List Tk) (hm : m.map kyT = jkc (xs.map g)) :
 ∃ ts, Spells m ts ∧ ∀ d e r, (nodes ts).length ≤ d → (r = [] ∨ kindOf r none = 124) → ∃ ys, optR (rd d) (ts ++ r) e = .ok (ys, r) ∧ eqL f ys xs = true := by
 cases xs with
 | nil =>
   obtain rfl := knil hm
   refine ⟨[], .nil, fun d e r _ hr => ⟨[], ?_, rfl⟩⟩
   rw [List.nil_append]
   cases r with
   | nil => rfl
   | cons y q =>
     have hk : y.t.k = 124 := hr.elim (fun h => by cases h) (fun h => h)
     simp only [optR]
     rw [if_pos hk]
 | cons x xs =>
   obtain ⟨ts, hs, hr⟩ := cmp_some (by simp) h m hm
   obtain ⟨u, b, hu, h124⟩ := hh x (by simp)
   rw [List.map_cons, jkc, hu, List.cons_append] at hm
   obtain ⟨t, m0, rfl, hk, _, _⟩ := kcons hm
   obtain ⟨z, q, rfl, rfl⟩ := sp_head hs
   refine ⟨z :: q, hs, fun d e r hd hrr => ?_⟩
   have hk44 : kindOf r none ≠ 44 := by
    rcases hrr with rfl | h
    ·decide
    ·rw [h]; decide
   obtain ⟨ys, hys, hq⟩ := hr d e r hd hk44
   refine ⟨ys, ?_, hq⟩
   rw [← hys, List.cons_append]
   simp only [optR]
   rw [if_neg (by rw [hk]; exact h124)]
end
theorem cmp_within {β : Type} {rd : Nat → Rdr β} {a : List Ky} {q : β → Prop} {k : Nat} (hk0 : ¬ cl k = 0)
 (h : ∀ m : List Tk, m.map kyT = a → ∃ ts, Spells m ts ∧ ∀ d e, (nodes ts).length ≤ d → ∃ y, rd d ts e = .ok (y, []) ∧ q y) (m : List Tk) (hm : m.map kyT = sg k :: (a ++ [sg (cl k)])) :
 ∃ x, Spells m [x] ∧ x.t.k = k ∧ ∀ d e r, (nodes x.ks).length ≤ d → ∃ y, withinR k (rd d) (x :: r) e = .ok (y, r) ∧ q y := by
 obtain ⟨t, m0, rfl, hk, _, hm⟩ := kcons hm
 obtain ⟨m1, m2, rfl, h1, h2⟩ := kapp hm
 obtain ⟨c, m3, rfl, hc, _, h3⟩ := kcons h2
 obtain rfl := knil h3
 have hk : t.k = k := hk
 have hc : c.k = cl k := hc
 obtain ⟨ts, hs, hr⟩ := h m1 h1
 refine ⟨.mk t none 0 ts c.p, .node (by rw [hk]; exact hk0) (by rw [hc, hk]) hs .nil, hk, fun d e r hd => ?_⟩
 obtain ⟨y, hy, hq⟩ := hr d c.p hd
 refine ⟨y, ?_, hq⟩
 simp only [withinR]
 rw [if_pos (show (Tr.mk t none 0 ts c.p).t.k = k from hk)]
 show bnd (rd d ts c.p) _ = _
 rw [hy]; rfl
theorem cmp_set {ws : List Wd} (m : List Tk) (hm : m.map kyT = sg 123 :: (jkc (ws.map kw) ++ [sg 125])) :
 ∃ x, Spells m [x] ∧ x.t.k = 123 ∧ ∀ e r, ∃ vs, setR (x :: r) e = .ok (vs, r) ∧ eqL sw vs ws = true := by
 obtain ⟨x, h1, h2, h3⟩ := cmp_within (rd := fun _ => optR nameR) (k := 123) (q := fun vs => eqL sw vs ws = true) (by decide) (fun m hm => by
  obtain ⟨ts, hs, hr⟩ := cmp_opt (rd := fun _ => nameR) (g := kw) (f := sw) (xs := ws) (fun x _ => cmp_name x) (fun x _ => ⟨(97, x.s), [], rfl, show (97 : Nat) ≠ 124 by decide⟩) m hm
  exact ⟨ts, hs, fun d e hd => by have h := hr d e [] hd (.inl rfl); rw [List.append_nil] at h; exact h⟩) m hm
 exact ⟨x, h1, h2, fun e r => h3 _ e r (zL _)⟩
def rdN : Nat → Nat → Rdr Nd
 | 1 => constR
 | 2 => fun _ => ruleR
 | 3 => labelR
 | 4 => fieldR
 | 5 => atomR
 | 6 => rowR
 | _ => fun _ _ _ => .error 0
theorem cmp_var {p : Int} {s : ByteArray} {A c B d0} (m : List Tk) (hm : m.map kyT = [(97, s)]) :
 ∃ x, Spells m [x] ∧ x.t.k = 97 ∧ ∀ e r, ∃ y, varR (x :: r) e = .ok (y, r) ∧ sm y (.mk 1 p s A c [] B d0 []) = true := by
 obtain ⟨t, m', rfl, hk, hs, h0⟩ := kcons hm
 obtain rfl := knil h0
 have hk : t.k = 97 := hk
 have hs : t.s = s := hs
 refine ⟨leafT t, sp_leaf (by rw [hk]; rfl) (by rw [hk]; rfl), hk, fun e r => ⟨nd 1 t.p t.s [] [], ?_, ?_⟩⟩
 ·unfold varR nameR
  rw [takeR_hit (x := leafT t) hk]; rfl
 ·unfold nd; show sm _ _ = true; rw [sm_mk, hs]; simp [eqL]
theorem head_rule {y : Nd} (h : W 2 y) : ∃ u b, ky y = u :: b ∧ u.1 ≠ 124 := by
 cases h; exact ⟨(97, _), _, ky_mk, show (97 : Nat) ≠ 124 by decide⟩
theorem head_field {y : Nd} (h : W 4 y) : ∃ u b, ky y = u :: b ∧ u.1 ≠ 124 := by
 cases h; exact ⟨(97, _), _, ky_mk, show (97 : Nat) ≠ 124 by decide⟩
theorem head_atom {n : Nat} {y : Nd} (h : W n y) (hn : n = 5) : ∃ u b, ky y = u :: b ∧ u.1 ≠ 43 ∧ u.1 ≠ 38 := by
 subst hn
 cases h with
 | var hs => exact ⟨(97, _), [], ky_mk, show (97 : Nat) ≠ 43 by decide, show (97 : Nat) ≠ 38 by decide⟩
 | const h => exact ⟨sg 35, _, ky_mk, show (35 : Nat) ≠ 43 by decide, show (35 : Nat) ≠ 38 by decide⟩
theorem w_cmp {n : Nat} {x : Nd} (h : W n x) : Cmp (rdN n) (ky x) (fun y => sm y x = true) := by
 induction h with
 | @point p s A c B d0 hs =>
   intro m hm
   rw [ky_mk] at hm
   obtain ⟨t, m', rfl, hk, hs, h0⟩ := kcons (u := (97, s)) (g := []) hm
   obtain rfl := knil h0
   have hk : t.k = 97 := hk
   have hs : t.s = s := hs
   refine ⟨[leafT t], sp_leaf (by rw [hk]; rfl) (by rw [hk]; rfl), fun d e r hd => ?_⟩
   rw [nodes_len] at hd
   obtain ⟨d, rfl⟩ : ∃ k, d = k + 1 := ⟨d - 1, by omega⟩
   refine ⟨nd 2 t.p t.s [] [], ?_, ?_⟩
   ·simp only [rdN, List.cons_append, List.nil_append, constR]
    rw [if_pos (show (leafT t).t.k = 97 from hk)]; rfl
   ·unfold nd; show sm _ _ = true; rw [sm_mk, hs]; simp [eqL]
 | @set p A c ws B d0 hw =>
   intro m hm
   rw [ky_mk] at hm
   obtain ⟨x, h1, h2, h3⟩ := cmp_set (ws := ws) m hm
   refine ⟨[x], h1, fun d e r hd => ?_⟩
   rw [nodes_len] at hd
   obtain ⟨d, rfl⟩ : ∃ k, d = k + 1 := ⟨d - 1, by omega⟩
   obtain ⟨vs, hv, hq⟩ := h3 e r
   refine ⟨nd 3 x.t.p e0 vs [], ?_, ?_⟩
   ·simp only [rdN, List.cons_append, List.nil_append, constR]
    rw [if_neg (by rw [h2]; decide), if_pos h2, hv]; rfl
   ·unfold nd; show sm _ _ = true; rw [sm_mk, hq]; simp [eqL]
 | @tuple p A c B d0 ks hne h ih =>
   intro m hm
   rw [ky_mk] at hm
   obtain ⟨x, h1, h2, h3⟩ := cmp_within (rd := fun d => someR (constR d)) (k := 40) (a := jkc (ks.map ky)) (q := fun ys => eqL sm ys ks = true) (by decide) (fun m hm => by
    obtain ⟨ts, hs, hr⟩ := cmp_some (rd := constR) (g := ky) (f := sm) hne ih m hm
    exact ⟨ts, hs, fun d e hd => by have h := hr d e [] hd (by decide); rw [List.append_nil] at h; exact h⟩) m hm
   refine ⟨[x], h1, fun d e r hd => ?_⟩
   rw [nodes_len] at hd
   obtain ⟨d, rfl⟩ : ∃ k, d = k + 1 := ⟨d - 1, by omega⟩
   obtain ⟨ys, hv, hq⟩ := h3 d e r (by omega)
   refine ⟨nd 4 x.t.p e0 [] ys, ?_, ?_⟩
   ·simp only [rdN, List.cons_append, List.nil_append, constR]
    rw [if_neg (by rw [h2]; decide), if_neg (by rw [h2]; decide), if_pos h2, hv]; rfl
   ·unfold nd; show sm _ _ = true; rw [sm_mk, hq]; simp [eqL]
 | @grid p A c B d0 ks h ih =>
   intro m hm
   rw [ky_mk] at hm
   obtain ⟨x, h1, h2, h3⟩ := cmp_within (rd := fun _ => optR ruleR) (k := 91) (a := jkc (ks.map ky)) (q := fun ys => eqL sm ys ks = true) (by decide) (fun m hm => by
    obtain ⟨ts, hs, hr⟩ := cmp_opt (rd := fun _ => ruleR) (g := ky) (f := sm) ih (fun y hy => head_rule (h y hy)) m hm
    exact ⟨ts, hs, fun d e hd => by have h := hr d e [] hd (.inl rfl); rw [List.append_nil] at h; exact h⟩) m hm
   refine ⟨[x], h1, fun d e r hd => ?_⟩
   rw [nodes_len] at hd
   obtain ⟨d, rfl⟩ : ∃ k, d = k + 1 := ⟨d - 1, by omega⟩
   obtain ⟨ys, hv, hq⟩ := h3 d e r (by omega)
   refine ⟨nd 5 x.t.p e0 [] ys, ?_, ?_⟩
   ·simp only [rdN, List.cons_append, List.nil_append, constR]
    rw [if_neg (by rw [h2]; decide), if_neg (by rw [h2]; decide), if_neg (by rw [h2]; decide), if_pos h2, hv]; rfl
   ·unfold nd; show sm _ _ = true; rw [sm_mk, hq]; simp [eqL]
 | @rule p s A c ws B d0 hs hw =>
   intro m hm
   rw [ky_mk] at hm
   obtain ⟨t, m0, rfl, hk, hts, hm⟩ := kcons (u := (97, s)) (g := sg 58 :: sg 123 :: (jkc (ws.map kw) ++ [sg 125])) hm
   obtain ⟨c2, m1, rfl, hk2, _, hm⟩ := kcons hm
   obtain ⟨x, h1, h2, h3⟩ := cmp_set (ws := ws) m1 hm
   have hk : t.k = 97 := hk
   have hts : t.s = s := hts
   have hk2 : c2.k = 58 := hk2
   refine ⟨leafT t :: leafT c2 :: [x], sp_cons (by rw [hk]; rfl) (by rw [hk]; rfl) (sp_cons (by rw [hk2]; rfl) (by rw [hk2]; rfl) h1), fun d e r hd => ?_⟩
   obtain ⟨vs, hv, hq⟩ := h3 e r
   refine ⟨nd 6 t.p t.s vs [], ?_, ?_⟩
   ·simp only [rdN, List.cons_append, List.nil_append]
    unfold ruleR nameR
    rw [takeR_hit (x := leafT t) hk]
    show bnd (takeR 58 (leafT c2 :: x :: r) e) _ = _
    rw [takeR_hit (x := leafT c2) hk2]
    show bnd (setR (x :: r) e) _ = _
    rw [hv]; rfl
   ·unfold nd; show sm _ _ = true; rw [sm_mk, hq, hts]; simp [eqL]
 | @var p s A c B d0 hs =>
   intro m hm
   rw [ky_mk] at hm
   obtain ⟨x, h1, h2, h3⟩ := cmp_var (p := p) (s := s) (A := A) (c := c) (B := B) (d0 := d0) m hm
   refine ⟨[x], h1, fun d e r hd => ?_⟩
   obtain ⟨y, hy, hq⟩ := h3 e r
   refine ⟨y, ?_, hq⟩
   simp only [rdN, List.cons_append, List.nil_append, atomR]
   rw [if_neg (by rw [h2]; decide)]; exact hy
 | @const p A c B d0 z h ih =>
   intro m hm
   rw [ky_mk] at hm
   obtain ⟨t, m0, rfl, hk, _, hm⟩ := kcons (u := sg 35) (g := ky z) hm
   have hk : t.k = 35 := hk
   obtain ⟨ts, hs, hr⟩ := ih m0 hm
   refine ⟨leafT t :: ts, sp_cons (by rw [hk]; rfl) (by rw [hk]; rfl) hs, fun d e r hd => ?_⟩
   rw [nodes_len] at hd
   obtain ⟨y, hy, hq⟩ := hr d e r (by omega)
   have hy : constR d (ts ++ r) e = .ok (y, r) := hy
   refine ⟨nd 7 t.p e0 [] [y], ?_, ?_⟩
   ·simp only [rdN, List.cons_append, atomR]
    rw [if_pos (show (leafT t).t.k = 35 from hk), hy]; rfl
   ·unfold nd; show sm _ _ = true; rw [sm_mk]; simp [eqL, hq]
 | @atom x h ih =>
   intro m hm
   obtain ⟨ts, hs, hr⟩ := ih m hm
   obtain ⟨u, b, hu, h43, h38⟩ := head_atom h rfl
   rw [hu] at hm
   obtain ⟨t, m0, rfl, hk, _, _⟩ := kcons hm
   obtain ⟨z, q, rfl, rfl⟩ := sp_head hs
   refine ⟨z :: q, hs, fun d e r hd => ?_⟩
   have hd' := hd
   rw [nodes_len] at hd'
   obtain ⟨d, rfl⟩ : ∃ k, d = k + 1 := ⟨d - 1, by omega⟩
   obtain ⟨y, hy, hq⟩ := hr (d + 1) e r hd
   refine ⟨y, ?_, hq⟩
   have hy : atomR (d + 1) (z :: q ++ r) e = .ok (y, r) := hy
   rw [← hy]
   simp only [rdN, List.cons_append, labelR]
   rw [if_neg (by rw [hk]; exact h43), if_neg (by rw [hk]; exact h38)]
 | @join p A c B d0 ks hne h ih =>
   intro m hm
   rw [ky_mk] at hm
   obtain ⟨t, m0, rfl, hk, _, hm⟩ := kcons (u := sg 43) (g := sg 40 :: (jkc (ks.map ky) ++ [sg 41])) hm
   have hk : t.k = 43 := hk
   obtain ⟨x, h1, h2, h3⟩ := cmp_within (rd := fun d => someR (labelR d)) (k := 40) (a := jkc (ks.map ky)) (q := fun ys => eqL sm ys ks = true) (by decide) (fun m hm => by
    obtain ⟨ts, hs, hr⟩ := cmp_some (rd := labelR) (g := ky) (f := sm) hne ih m hm
    exact ⟨ts, hs, fun d e hd => by have h := hr d e [] hd (by decide); rw [List.append_nil] at h; exact h⟩) m0 hm
   refine ⟨leafT t :: [x], sp_cons (by rw [hk]; rfl) (by rw [hk]; rfl) h1, fun d e r hd => ?_⟩
   rw [nodes_len, nodes_len] at hd
   obtain ⟨d, rfl⟩ : ∃ k, d = k + 1 := ⟨d - 1, by omega⟩
   obtain ⟨ys, hv, hq⟩ := h3 d e r (by omega)
   refine ⟨nd 8 t.p e0 [] ys, ?_, ?_⟩
   ·simp only [rdN, List.cons_append, List.nil_append, labelR]
    rw [if_pos (show (leafT t).t.k = 43 from hk), hv]; rfl
   ·unfold nd; show sm _ _ = true; rw [sm_mk, hq]; simp [eqL]
 | @meet p A c B d0 ks hne h ih =>
   intro m hm
   rw [ky_mk] at hm
   obtain ⟨t, m0, rfl, hk, _, hm⟩ := kcons (u := sg 38) (g := sg 40 :: (jkc (ks.map ky) ++ [sg 41])) hm
   have hk : t.k = 38 := hk
   obtain ⟨x, h1, h2, h3⟩ := cmp_within (rd := fun d => someR (labelR d)) (k := 40) (a := jkc (ks.map ky)) (q := fun ys => eqL sm ys ks = true) (by decide) (fun m hm => by
    obtain ⟨ts, hs, hr⟩ := cmp_some (rd := labelR) (g := ky) (f := sm) hne ih m hm
    exact ⟨ts, hs, fun d e hd => by have h := hr d e [] hd (by decide); rw [List.append_nil] at h; exact h⟩) m0 hm
   refine ⟨leafT t :: [x], sp_cons (by rw [hk]; rfl) (by rw [hk]; rfl) h1, fun d e r hd => ?_⟩
   rw [nodes_len, nodes_len] at hd
   obtain ⟨d, rfl⟩ : ∃ k, d = k + 1 := ⟨d - 1, by omega⟩
   obtain ⟨ys, hv, hq⟩ := h3 d e r (by omega)
   refine ⟨nd 9 t.p e0 [] ys, ?_, ?_⟩
   ·simp only [rdN, List.cons_append, List.nil_append, labelR]
    rw [if_neg (show ¬ (leafT t).t.k = 43 from by rw [show (leafT t).t.k = 38 from hk]; decide), if_pos (show (leafT t).t.k = 38 from hk), hv]; rfl
   ·unfold nd; show sm _ _ = true; rw [sm_mk, hq]; simp [eqL]
 | @field p s A c B d0 z hs h ih =>
   intro m hm
   rw [ky_mk] at hm
   obtain ⟨t, m0, rfl, hk, hts, hm⟩ := kcons (u := (97, s)) (g := sg 61 :: ky z) hm
   obtain ⟨c2, m1, rfl, hk2, _, hm⟩ := kcons hm
   have hk : t.k = 97 := hk
   have hts : t.s = s := hts
   have hk2 : c2.k = 61 := hk2
   obtain ⟨ts, hsp, hr⟩ := ih m1 hm
   refine ⟨leafT t :: leafT c2 :: ts, sp_cons (by rw [hk]; rfl) (by rw [hk]; rfl) (sp_cons (by rw [hk2]; rfl) (by rw [hk2]; rfl) hsp), fun d e r hd => ?_⟩
   rw [nodes_len, nodes_len] at hd
   obtain ⟨y, hy, hq⟩ := hr d e r (by omega)
   have hy : atomR d (ts ++ r) e = .ok (y, r) := hy
   refine ⟨nd 11 t.p t.s [] [y], ?_, ?_⟩
   ·simp only [rdN, List.cons_append]
    unfold fieldR nameR
    rw [takeR_hit (x := leafT t) hk]
    show bnd (takeR 61 (leafT c2 :: (ts ++ r)) e) _ = _
    rw [takeR_hit (x := leafT c2) hk2]
    show bnd (atomR d (ts ++ r) e) _ = _
    rw [hy]; rfl
   ·unfold nd; show sm _ _ = true; rw [sm_mk, hts]; simp [eqL, hq]
 | @rvar p s A c B d0 hs =>
   intro m hm
   rw [ky_mk] at hm
   obtain ⟨x, h1, h2, h3⟩ := cmp_var (p := p) (s := s) (A := A) (c := c) (B := B) (d0 := d0) m hm
   refine ⟨[x], h1, fun d e r hd => ?_⟩
   obtain ⟨y, hy, hq⟩ := h3 e r
   refine ⟨y, ?_, hq⟩
   simp only [rdN, List.cons_append, List.nil_append, rowR]
   rw [if_neg (by rw [h2]; decide)]; exact hy
 | @row p A c ws B d0 ks hl hw h ih =>
   intro m hm
   rw [ky_mk] at hm
   obtain ⟨x, h1, h2, h3⟩ := cmp_within (rd := inrowR) (k := 91) (a := jkc (ks.map ky) ++ (if ws.map kw = [] then [] else sg 124 :: jkc (ws.map kw))) (q := fun ab => eqL sm ab.1 ks = true ∧ eqL sw ab.2 ws = true) (by decide) (fun m hm => by
    obtain ⟨m1, m2, rfl, hm1, hm2⟩ := kapp hm
    obtain ⟨ts, hs, hr⟩ := cmp_opt (rd := fieldR) (g := ky) (f := sm) ih (fun y hy => head_field (h y hy)) m1 hm1
    match ws, hl, hm2 with
    | [], _, hm2 =>
      obtain rfl := knil (by simpa using hm2)
      rw [List.append_nil]
      refine ⟨ts, hs, fun d e hd => ?_⟩
      obtain ⟨ys, hy, hq⟩ := hr d e [] hd (.inl rfl)
      rw [List.append_nil] at hy
      exact ⟨(ys, []), by unfold inrowR; rw [hy]; rfl, hq, rfl⟩
    | [w], _, hm2 =>
      have hm2 : m2.map kyT = sg 124 :: [(97, w.s)] := by simpa [jkc, jkt, kw] using hm2
      obtain ⟨t, m3, rfl, hk, _, hm3⟩ := kcons hm2
      obtain ⟨t2, m4, rfl, hk2, hs2, hm4⟩ := kcons hm3
      obtain rfl := knil hm4
      have hk : t.k = 124 := hk
      have hk2 : t2.k = 97 := hk2
      have hs2 : t2.s = w.s := hs2
      refine ⟨ts ++ [leafT t, leafT t2], hs.append (sp_cons (by rw [hk]; rfl) (by rw [hk]; rfl) (sp_leaf (by rw [hk2]; rfl) (by rw [hk2]; rfl))), fun d e hd => ?_⟩
      rw [nodes_app] at hd
      obtain ⟨ys, hy, hq⟩ := hr d e [leafT t, leafT t2] (by omega) (.inr hk)
      refine ⟨(ys, [⟨t2.s, t2.p⟩]), ?_, hq, ?_⟩
      ·unfold inrowR
       rw [hy]
       show tailR ys [leafT t, leafT t2] e = _
       simp only [tailR]
       rw [if_pos (show (leafT t).t.k = 124 from hk)]
       unfold nameR
       rw [takeR_hit (x := leafT t2) hk2]; rfl
      ·simp [eqL, sw, hs2]
    | _ :: _ :: _, hl, _ => simp at hl) m hm
   refine ⟨[x], h1, fun d e r hd => ?_⟩
   rw [nodes_len] at hd
   obtain ⟨ab, hv, hq1, hq2⟩ := h3 d e r (by omega)
   refine ⟨nd 10 x.t.p e0 ab.2 ab.1, ?_, ?_⟩
   ·simp only [rdN, List.cons_append, List.nil_append, rowR]
    rw [if_pos h2, hv]; rfl
   ·unfold nd; show sm _ _ = true; rw [sm_mk, hq1, hq2]; simp
end TM
end
section
namespace CM
open LX TR TM
theorem ei_pair : EI pairR := by
 have h1 : ∀ a : Wd, EI (fun ts e => bnd (takeR 60 ts e) fun _ r2 => bnd (nameR r2 e) fun b r3 => .ok ((⟨a, b⟩ : Pw), r3)) := fun a =>
  EI.bind (rd2 := fun _ ts e => bnd (nameR ts e) fun b r3 => .ok ((⟨a, b⟩ : Pw), r3)) (TM.ei_take 60) fun _ => EI.map (fun b => (⟨a, b⟩ : Pw)) ei_name
 exact EI.bind (rd2 := fun a ts e => bnd (takeR 60 ts e) fun _ r2 => bnd (nameR r2 e) fun b r3 => .ok ((⟨a, b⟩ : Pw), r3)) ei_name h1
theorem ei_prs : EI prsR := ei_within 123 (ei_opt ei_pair)
theorem off_er (ts : List Tr) (e : Int) : offOf (TR.er ts) e = offOf ts e := by
 cases ts with
 | nil => rw [ter_nil]
 | cons x r => rw [ter_cons]; rfl
theorem ei_part (D k : Nat) (s : Cs) : EI (partR D k s) := fun ts e => by
 unfold partR
 split
 ·exact (EI.map (fun w => (⟨w, s.ws, s.ps, s.pp, s.ts⟩ : Cs)) ei_name) ts e
 ·split
  ·exact (EI.map (fun w => (⟨s.n, [w], s.ps, s.pp, s.ts⟩ : Cs)) ei_name) ts e
  ·split
   ·exact (EI.map (fun l => (⟨s.n, l, s.ps, s.pp, s.ts⟩ : Cs)) ei_names) ts e
   ·split
    ·rw [off_er]
     exact (EI.map (fun l => (⟨s.n, s.ws, l, offOf ts e, s.ts⟩ : Cs)) ei_prs) ts e
    ·split
     ·exact (EI.map (fun z => (⟨s.n, s.ws, s.ps, s.pp, s.ts ++ [z]⟩ : Cs)) (ei_row D)) ts e
     ·exact (EI.map (fun z => (⟨s.n, s.ws, s.ps, s.pp, s.ts ++ [z]⟩ : Cs)) (ei_label D)) ts e
theorem ei_parts (D : Nat) : ∀ ks s, EI (partsR D ks s)
 | [], s => EI.pure s
 | k :: ks, s => EI.bind (rd2 := fun s2 ts e => partsR D ks s2 ts e) (ei_part D k s) fun s2 => ei_parts D ks s2
theorem cmd_er (D : Nat) (ts : List Tr) (e : Int) : cmdR D (TR.er ts) e = cmdR D ts e := by
 cases ts with
 | nil => rw [ter_nil]
 | cons x r =>
   rw [ter_cons]
   have hp := ei_parts D (ltl (numOf x.t.s)) s0 r e
   unfold cmdR
   simp only [show (Tr.mk x.t none 0 (TR.er x.ks) x.e).t = x.t from rfl]
   rw [hp]
   split
   ·cases partsR D (ltl (numOf x.t.s)) s0 r e with
    | error p => rfl
    | ok sr =>
      obtain ⟨s, r2⟩ := sr
      cases r2 with
      | nil => simp only [mapR, ter_nil]
      | cons y r3 => simp only [mapR, ter_cons]; rfl
   ·rfl
theorem ltl_forms (k : Nat) (h : k < 16) : ltl k = [] ∨ ltl k = [110] ∨ ltl k = [110, 119] ∨ ltl k = [110, 119, 112] ∨ ltl k = [110, 116, 116] ∨ ltl k = [110, 114, 114] ∨ ltl k = [110, 102] := by
 have : ∀ k : Fin 16, ltl (k.val : Int) = [] ∨ ltl (k.val : Int) = [110] ∨ ltl (k.val : Int) = [110, 119] ∨ ltl (k.val : Int) = [110, 119, 112] ∨ ltl (k.val : Int) = [110, 116, 116] ∨ ltl (k.val : Int) = [110, 114, 114] ∨ ltl (k.val : Int) = [110, 102] := by decide
 exact this ⟨k, h⟩
def prB (ps : List Pw) : Bool := ps.all fun p => NM.right p.a.s && NM.right p.b.s
def riL (L : List Nat) (x : Cm) : Bool :=
 (if L.contains 110 then NM.right x.n.s else decide (x.n.s = ⟨#[]⟩)) &&
 ((if L.contains 102 then decide (x.ws.length = 1) else if L.contains 119 then decide (0 < x.ws.length) else decide (x.ws.length = 0)) &&
 ((if L.contains 112 then true else decide (x.ps.length = 0)) &&
 (if L.contains 116 then (fl x.l).l && (fl x.r).l else if L.contains 114 then (fl x.l).r && (fl x.r).r else sm x.l n0 && sm x.r n0)))
def riC (x : Cm) : Bool := decide (0 ≤ x.op ∧ x.op < 16) && (wrB x.ws && (prB x.ps && riL (ltl x.op) x))
def kp (p : Pw) : List Ky := [(97, p.a.s), sg 60, (97, p.b.s)]
def pky (x : Cm) : List Nat → List Nd → List (List Ky)
 | [], _ => []
 | k :: ks, ts => (if k = 110 then [(97, x.n.s)]
   else if k = 102 then jkc (x.ws.map kw)
   else if k = 119 then sg 123 :: (jkc (x.ws.map kw) ++ [sg 125])
   else if k = 112 then sg 123 :: (jkc (x.ps.map kp) ++ [sg 125])
   else ky (ts.headD n0)) :: pky x ks (if k = 110 ∨ k = 102 ∨ k = 119 ∨ k = 112 then ts else ts.tail)
def kyC (x : Cm) : List Ky := (97, wrd x.op) :: (pky x (ltl x.op) [x.l, x.r]).flatten
theorem snd_pair : Snd pairR (fun p => NM.right p.a.s = true ∧ NM.right p.b.s = true) kp := fun ts e p r hg h => by
 obtain ⟨a, r1, h1, h2⟩ := bnd_ok h
 obtain ⟨_, r2, h3, h4⟩ := bnd_ok h2
 obtain ⟨b, r3, h5, h6⟩ := bnd_ok h4
 obtain ⟨rfl, rfl⟩ := ok_inj h6
 obtain ⟨x, rfl, hg1, hf1, ha, _, _⟩ := name_inv hg h1
 obtain ⟨y, rfl, hg2, hf2⟩ := snd_take hg1 (by rfl) (by decide) h3
 obtain ⟨z, rfl, _, hf3, hb, _, _⟩ := name_inv hg2 h5
 refine ⟨[x, y, z], rfl, ⟨ha, hb⟩, ?_⟩
 rw [kyf_cons, kyf_cons y, hf1, hf2, hf3]; rfl
theorem snd_prs : Snd prsR (fun ps => ∀ p ∈ ps, NM.right p.a.s = true ∧ NM.right p.b.s = true) (fun ps => sg 123 :: (jkc (ps.map kp) ++ [sg 125])) := snd_within (k := 123) (by decide) (by decide) (snd_opt snd_pair)
theorem snd_names : Snd namesR (fun ws => ws ≠ [] ∧ ∀ w ∈ ws, NM.right w.s = true) (fun ws => sg 123 :: (jkc (ws.map kw) ++ [sg 125])) := snd_within (k := 123) (by decide) (by decide) (snd_some snd_name)
section
variable {D : Nat} {s s2 : Cs} {ts r : List Tr} {e : Int}
theorem part_n (hg : TM.Good ts) (h : partR D 110 s ts e = .ok (s2, r)) : ∃ us w, ts = us ++ r ∧ NM.right w.s = true ∧ kyf us = [(97, w.s)] ∧ s2 = ⟨w, s.ws, s.ps, s.pp, s.ts⟩ := by
 unfold partR at h
 rw [if_pos rfl] at h
 obtain ⟨w, r1, h1, h2⟩ := bnd_ok h
 obtain ⟨rfl, rfl⟩ := ok_inj h2
 obtain ⟨us, h3, h4, h5⟩ := snd_name _ _ _ _ hg h1
 exact ⟨us, w, h3, h4, h5, rfl⟩
theorem part_f (hg : TM.Good ts) (h : partR D 102 s ts e = .ok (s2, r)) : ∃ us w, ts = us ++ r ∧ NM.right w.s = true ∧ kyf us = [(97, w.s)] ∧ s2 = ⟨s.n, [w], s.ps, s.pp, s.ts⟩ := by
 unfold partR at h
 rw [if_neg (by decide), if_pos rfl] at h
 obtain ⟨w, r1, h1, h2⟩ := bnd_ok h
 obtain ⟨rfl, rfl⟩ := ok_inj h2
 obtain ⟨us, h3, h4, h5⟩ := snd_name _ _ _ _ hg h1
 exact ⟨us, w, h3, h4, h5, rfl⟩
theorem part_w (hg : TM.Good ts) (h : partR D 119 s ts e = .ok (s2, r)) : ∃ us l, ts = us ++ r ∧ (l ≠ [] ∧ ∀ w ∈ l, NM.right w.s = true) ∧ kyf us = sg 123 :: (jkc (l.map kw) ++ [sg 125]) ∧ s2 = ⟨s.n, l, s.ps, s.pp, s.ts⟩ := by
 unfold partR at h
 rw [if_neg (by decide), if_neg (by decide), if_pos rfl] at h
 obtain ⟨w, r1, h1, h2⟩ := bnd_ok h
 obtain ⟨rfl, rfl⟩ := ok_inj h2
 obtain ⟨us, h3, h4, h5⟩ := snd_names _ _ _ _ hg h1
 exact ⟨us, w, h3, h4, h5, rfl⟩
theorem part_p (hg : TM.Good ts) (h : partR D 112 s ts e = .ok (s2, r)) : ∃ us l, ts = us ++ r ∧ (∀ p ∈ l, NM.right p.a.s = true ∧ NM.right p.b.s = true) ∧ kyf us = sg 123 :: (jkc (l.map kp) ++ [sg 125]) ∧ s2 = ⟨s.n, s.ws, l, offOf ts e, s.ts⟩ := by
 unfold partR at h
 rw [if_neg (by decide), if_neg (by decide), if_neg (by decide), if_pos rfl] at h
 obtain ⟨w, r1, h1, h2⟩ := bnd_ok h
 obtain ⟨rfl, rfl⟩ := ok_inj h2
 obtain ⟨us, h3, h4, h5⟩ := snd_prs _ _ _ _ hg h1
 exact ⟨us, w, h3, h4, h5, rfl⟩
theorem part_r (hg : TM.Good ts) (h : partR D 114 s ts e = .ok (s2, r)) : ∃ us z, ts = us ++ r ∧ W 6 z ∧ kyf us = ky z ∧ s2 = ⟨s.n, s.ws, s.ps, s.pp, s.ts ++ [z]⟩ := by
 unfold partR at h
 rw [if_neg (by decide), if_neg (by decide), if_neg (by decide), if_neg (by decide), if_pos rfl] at h
 obtain ⟨w, r1, h1, h2⟩ := bnd_ok h
 obtain ⟨rfl, rfl⟩ := ok_inj h2
 obtain ⟨us, h3, h4, h5⟩ := snd_row D _ _ _ _ hg h1
 exact ⟨us, w, h3, h4, h5, rfl⟩
theorem part_t (hg : TM.Good ts) (h : partR D 116 s ts e = .ok (s2, r)) : ∃ us z, ts = us ++ r ∧ W 3 z ∧ kyf us = ky z ∧ s2 = ⟨s.n, s.ws, s.ps, s.pp, s.ts ++ [z]⟩ := by
 unfold partR at h
 rw [if_neg (by decide), if_neg (by decide), if_neg (by decide), if_neg (by decide), if_neg (by decide)] at h
 obtain ⟨w, r1, h1, h2⟩ := bnd_ok h
 obtain ⟨rfl, rfl⟩ := ok_inj h2
 obtain ⟨us, h3, h4, h5⟩ := snd_label D _ _ _ _ hg h1
 exact ⟨us, w, h3, h4, h5, rfl⟩
end
theorem parts_cons {D k : Nat} {ks : List Nat} {s s2 : Cs} {ts r : List Tr} {e : Int} (h : partsR D (k :: ks) s ts e = .ok (s2, r)) : ∃ s1 r1, partR D k s ts e = .ok (s1, r1) ∧ partsR D ks s1 r1 e = .ok (s2, r) := by
 unfold partsR at h
 obtain ⟨s1, r1, h1, h2⟩ := bnd_ok h
 exact ⟨s1, r1, h1, h2⟩
theorem parts_nil {D : Nat} {s s2 : Cs} {ts r : List Tr} {e : Int} (h : partsR D [] s ts e = .ok (s2, r)) : s = s2 ∧ ts = r := by
 unfold partsR at h
 exact ok_inj h
theorem sm_n0 : sm n0 n0 = true := by unfold n0 nd; rw [sm_mk]; rfl
theorem prB_of {ps : List Pw} (h : ∀ p ∈ ps, NM.right p.a.s = true ∧ NM.right p.b.s = true) : prB ps = true := by
 unfold prB
 rw [List.all_eq_true]
 exact fun p hp => by rw [(h p hp).1, (h p hp).2]; rfl
theorem of_prB {ps : List Pw} (h : prB ps = true) : ∀ p ∈ ps, NM.right p.a.s = true ∧ NM.right p.b.s = true := fun p hp => by
 unfold prB at h
 rw [List.all_eq_true] at h
 simpa using h p hp
theorem snd_parts {D k : Nat} (hk : k < 16) {ts r : List Tr} {e p : Int} {s : Cs} (hg : TM.Good ts) (h : partsR D (ltl k) s0 ts e = .ok (s, r)) :
 ∃ us, ts = us ++ r ∧ riC (finC k p s) = true ∧ kyf us = (pky (finC k p s) (ltl k) [(finC k p s).l, (finC k p s).r]).flatten := by
 have hop : decide ((0 : Int) ≤ (k : Int) ∧ (k : Int) < 16) = true := zE (by omega)
 have hri : ∀ x : Cm, x.op = k → riC x = (wrB x.ws && (prB x.ps && riL (ltl k) x)) := fun x hx => by unfold riC; rw [hx, hop]; rfl
 rw [hri _ rfl]
 rcases ltl_forms k hk with hL | hL | hL | hL | hL | hL | hL
 all_goals rw [hL] at h ⊢
 ·obtain ⟨rfl, rfl⟩ := parts_nil h
  exact ⟨[], rfl, by simp [riL, finC, s0, wrB, prB, sm_n0, w0], by simp [pky, kyf_nil]⟩
 ·obtain ⟨s1, r1, h1, h⟩ := parts_cons h
  obtain ⟨u1, w, rfl, hw, hf, rfl⟩ := part_n hg h1
  obtain ⟨rfl, rfl⟩ := parts_nil h
  exact ⟨u1, rfl, by simp [riL, finC, hw, s0, wrB, prB, sm_n0], by simp [pky, finC, hf]⟩
 ·obtain ⟨s1, r1, h1, h⟩ := parts_cons h
  obtain ⟨u1, w, rfl, hw, hf, rfl⟩ := part_n hg h1
  obtain ⟨s2, r2, h2, h⟩ := parts_cons h
  obtain ⟨u2, l, rfl, hl, hf2, rfl⟩ := part_w hg.right h2
  obtain ⟨rfl, rfl⟩ := parts_nil h
  exact ⟨u1 ++ u2, by simp, by simp [riL, finC, hw, s0, wrB_of hl.2, prB, sm_n0, List.length_pos_iff.2 hl.1], by rw [kyf_append]; simp [pky, finC, hf, hf2]⟩
 ·obtain ⟨s1, r1, h1, h⟩ := parts_cons h
  obtain ⟨u1, w, rfl, hw, hf, rfl⟩ := part_n hg h1
  obtain ⟨s2, r2, h2, h⟩ := parts_cons h
  obtain ⟨u2, l, rfl, hl, hf2, rfl⟩ := part_w hg.right h2
  obtain ⟨s3, r3, h3, h⟩ := parts_cons h
  obtain ⟨u3, q, rfl, hq, hf3, rfl⟩ := part_p hg.right.right h3
  obtain ⟨rfl, rfl⟩ := parts_nil h
  exact ⟨u1 ++ (u2 ++ u3), by simp, by simp [riL, finC, hw, s0, wrB_of hl.2, prB_of hq, sm_n0, List.length_pos_iff.2 hl.1], by rw [kyf_append, kyf_append]; simp [pky, finC, hf, hf2, hf3]⟩
 ·obtain ⟨s1, r1, h1, h⟩ := parts_cons h
  obtain ⟨u1, w, rfl, hw, hf, rfl⟩ := part_n hg h1
  obtain ⟨s2, r2, h2, h⟩ := parts_cons h
  obtain ⟨u2, y, rfl, hy, hf2, rfl⟩ := part_t hg.right h2
  obtain ⟨s3, r3, h3, h⟩ := parts_cons h
  obtain ⟨u3, z, rfl, hz, hf3, rfl⟩ := part_t hg.right.right h3
  obtain ⟨rfl, rfl⟩ := parts_nil h
  have e1 : (fl y).l = true := fl_of hy
  have e2 : (fl z).l = true := fl_of hz
  exact ⟨u1 ++ (u2 ++ u3), by simp, by simp [riL, finC, hw, s0, wrB, prB, e1, e2], by rw [kyf_append, kyf_append]; simp [pky, finC, hf, hf2, hf3, s0]⟩
 ·obtain ⟨s1, r1, h1, h⟩ := parts_cons h
  obtain ⟨u1, w, rfl, hw, hf, rfl⟩ := part_n hg h1
  obtain ⟨s2, r2, h2, h⟩ := parts_cons h
  obtain ⟨u2, y, rfl, hy, hf2, rfl⟩ := part_r hg.right h2
  obtain ⟨s3, r3, h3, h⟩ := parts_cons h
  obtain ⟨u3, z, rfl, hz, hf3, rfl⟩ := part_r hg.right.right h3
  obtain ⟨rfl, rfl⟩ := parts_nil h
  have e1 : (fl y).r = true := fl_of hy
  have e2 : (fl z).r = true := fl_of hz
  exact ⟨u1 ++ (u2 ++ u3), by simp, by simp [riL, finC, hw, s0, wrB, prB, e1, e2], by rw [kyf_append, kyf_append]; simp [pky, finC, hf, hf2, hf3, s0]⟩
 ·obtain ⟨s1, r1, h1, h⟩ := parts_cons h
  obtain ⟨u1, w, rfl, hw, hf, rfl⟩ := part_n hg h1
  obtain ⟨s2, r2, h2, h⟩ := parts_cons h
  obtain ⟨u2, v, rfl, hv, hf2, rfl⟩ := part_f hg.right h2
  obtain ⟨rfl, rfl⟩ := parts_nil h
  exact ⟨u1 ++ u2, by simp, by simp [riL, finC, hw, hv, s0, wrB, prB, sm_n0], by rw [kyf_append]; simp [pky, finC, hf, hf2, jkc, jkt, kw]⟩
theorem snd_cmd {D : Nat} {ts : List Tr} {e : Int} {x : Cm} (hg : TM.Good ts) (h : cmdR D ts e = .ok x) (hne : ts ≠ []) : riC x = true ∧ kyf ts = kyC x ∧ 1 ≤ x.op ∧ x.op < 16 := by
 cases ts with
 | nil => exact absurd rfl hne
 | cons y r =>
   unfold cmdR at h
   simp only at h
   split at h
   ·rename_i hc
    have hlt := numOf_lt y.t.s
    cases hp : partsR D (ltl (numOf y.t.s)) s0 r e with
    | error p => rw [hp] at h; cases h
    | ok sr =>
      obtain ⟨s, r2⟩ := sr
      rw [hp] at h
      cases r2 with
      | cons z r3 => cases h
      | nil =>
        injection h with h
        obtain ⟨us, h1, h2, h3⟩ := snd_parts (p := y.t.p) hlt hg.cons.2.2 hp
        rw [List.append_nil] at h1
        subst h1 h
        refine ⟨h2, ?_, by show (1 : Int) ≤ (numOf y.t.s : Nat); omega, by show ((numOf y.t.s : Nat) : Int) < 16; omega⟩
        rw [kyf_cons, h3, kyf_leaf (by rw [hc.1]; rfl)]
        unfold kyC kyT
        show (y.t.k, y.t.s) :: _ = (97, wrd ((numOf y.t.s : Nat) : Int)) :: _
        rw [wrd_in hlt, numOf_get hc.2, hc.1]; rfl
   ·cases h
end CM
end
end Go.Proofs.YtmffnkfohmbbeaaGreatDoor
