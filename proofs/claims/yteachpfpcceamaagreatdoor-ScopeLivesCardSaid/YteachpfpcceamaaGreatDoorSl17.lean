/- Texts that all the claims need. Conditions: those that each states. -/

import Derived.Test.YteachpfpcceamaaGreatDoorSl16
set_option linter.unusedSimpArgs false
set_option linter.unusedVariables false
set_option maxRecDepth 100000
set_option maxHeartbeats 40000000
namespace Go.Proofs.YteachpfpcceamaaGreatDoor
section
open Go.RowKit
theorem qconst_step (x : Nt) (w : World) (hn : x.n ≤ maxLen) (hm : x.m ≤ maxLen) (hR : ∀ W, Below w.heap.size w W → Calls Tryz.prog 85 #[.slice x.A x.n x.c] W fun e w' => (∃ b : Bool, e = .returned (.bool b)) ∧ Below W.heap.size W w') (h1 : ∀ W, Below w.heap.size w W → Calls Tryz.prog 84 #[.int .i64 1, .slice x.B x.m x.d] W fun e w' => (∃ b : Bool, e = .returned (.bool b)) ∧ Below W.heap.size W w') (h2 : ∀ W, Below w.heap.size w W → Calls Tryz.prog 84 #[.int .i64 2, .slice x.B x.m x.d] W fun e w' => (∃ b : Bool, e = .returned (.bool b)) ∧ Below W.heap.size W w') :
 Calls Tryz.prog 119 #[.agg (ntC x).toArray] w fun e w' => (∃ b : Bool, e = .returned (.bool b)) ∧ Below w.heap.size w w' := by
 have r0 := RowAt.new w 32 (ntC x).toArray
 have hb : Below w.heap.size w (w.alloc (.cells (ntC x).toArray 32)) := (zB _ _).alloc (zL _) _
 obtain ⟨k, p, s, A, n, c, B, m, d⟩ := x
 refine cHid fun Q' hQ => ?_
 have HQ := zh hQ; clear hQ
 have HRT := zh (refRight_any s)
 generalize NM.right s = r at *
 go_enter Tryz.func119, Tryz.ntmps119
 go_upto_region 1 with fail
 change Code.wp _ _ _ _ (w.alloc (.cells (ntC ⟨k, p, s, A, n, c, B, m, d⟩).toArray 32))
 generalize w.alloc (.cells (ntC ⟨k, p, s, A, n, c, B, m, d⟩).toArray 32) = w1 at *
 have HB := zh hb
 have C0 := r0.lt
 have a0 := (r0.cell 0).trans (show (ntC ⟨k, p, s, A, n, c, B, m, d⟩).toArray[0]? = some (.int .i64 k) from rfl)
 have a2 := (r0.cell 2).trans (show (ntC ⟨k, p, s, A, n, c, B, m, d⟩).toArray[2]? = some (.string s) from rfl)
 have a3 := (r0.cell 3).trans (show (ntC ⟨k, p, s, A, n, c, B, m, d⟩).toArray[3]? = some (.slice A n c) from rfl)
 have a4 := (r0.cell 4).trans (show (ntC ⟨k, p, s, A, n, c, B, m, d⟩).toArray[4]? = some (.slice B m d) from rfl)
 have C3 : Hid (∀ W, Below w1.heap.size w1 W → W.cell? ⟨w.heap.size, 3, none⟩ = some (.slice A n c)) := zh fun W hW => (hW.cell (p := ⟨w.heap.size, 3, none⟩) C0).trans a3
 have C4 : Hid (∀ W, Below w1.heap.size w1 W → W.cell? ⟨w.heap.size, 4, none⟩ = some (.slice B m d)) := zh fun W hW => (hW.cell (p := ⟨w.heap.size, 4, none⟩) C0).trans a4
 have HRW := zh hR
 have HA1 := zh h1
 have HA2 := zh h2
 clear r0 hb hR h1 h2
 simp only at hn hm
 unfold maxLen at hn hm
 by_cases hk2 : k = 2
 ·subst hk2
  go_wp2_with fail
  refine (HRT.out _).mono ?_
  rintro e w4 ⟨rfl, hd⟩
  have HW4 := zh (HB.out.trans (hd.below.mono HB.out.size))
  have b3 := C3.out _ hd.below
  have b4 := C4.out _ hd.below
  clear hd a0 a2 a3 a4
  cases r
  ·go_wp2_with fail
   exact HQ.out _ _ ⟨⟨_, rfl⟩, HW4.out⟩
  ·go_wp2_with fail
   exact HQ.out _ _ ⟨⟨_, rfl⟩, HW4.out⟩
 ·have ek2 : (k == 2) = false := by simpa using hk2
  by_cases hk3 : k = 3
  ·subst hk3
   by_cases q2 : s.toList = []
   ·go_wp2_with fail
    refine (HRW.out _ HB.out).mono ?_
    rintro e w4 ⟨⟨q, rfl⟩, hb⟩
    have HW4 := zh (HB.out.trans (hb.mono HB.out.size))
    have b3 := C3.out _ (hb)
    have b4 := C4.out _ (hb)
    clear hb a0 a2 a3 a4
    cases q
    ·go_wp2_with fail
     exact HQ.out _ _ ⟨⟨_, rfl⟩, HW4.out⟩
    ·go_wp2_with fail
     exact HQ.out _ _ ⟨⟨_, rfl⟩, HW4.out⟩
   ·go_wp2_with fail
    exact HQ.out _ _ ⟨⟨_, rfl⟩, HB.out⟩
  ·have ek3 : (k == 3) = false := by simpa using hk3
   by_cases hk4 : k = 4
   ·subst hk4
    by_cases q2 : s.toList = []
    ·by_cases q3 : n = 0
     ·subst q3
      by_cases q6 : 0 < m
      ·have q7 : (0 : Int) < (m : Int) := by omega
       go_wp2_with fail
       refine (HA1.out _ HB.out).mono ?_
       rintro e w4 ⟨⟨q, rfl⟩, hb⟩
       have HW4 := zh (HB.out.trans (hb.mono HB.out.size))
       have b3 := C3.out _ (hb)
       have b4 := C4.out _ (hb)
       clear hb a0 a2 a3 a4
       cases q
       ·go_wp2_with fail
        exact HQ.out _ _ ⟨⟨_, rfl⟩, HW4.out⟩
       ·go_wp2_with fail
        exact HQ.out _ _ ⟨⟨_, rfl⟩, HW4.out⟩
      ·have q7 : ¬ (0 : Int) < (m : Int) := by omega
       go_wp2_with fail
       exact HQ.out _ _ ⟨⟨_, rfl⟩, HB.out⟩
     ·have q4 : ((n : Int) == 0) = false := by simp; omega
      have q5 : ¬ (n : Int) = 0 := by omega
      go_wp2_with fail
      exact HQ.out _ _ ⟨⟨_, rfl⟩, HB.out⟩
    ·go_wp2_with fail
     exact HQ.out _ _ ⟨⟨_, rfl⟩, HB.out⟩
   ·have ek4 : (k == 4) = false := by simpa using hk4
    by_cases hk5 : k = 5
    ·subst hk5
     by_cases q2 : s.toList = []
     ·by_cases q3 : n = 0
      ·subst q3
       go_wp2_with fail
       refine (HA2.out _ HB.out).mono ?_
       rintro e w4 ⟨⟨q, rfl⟩, hb⟩
       have HW4 := zh (HB.out.trans (hb.mono HB.out.size))
       have b3 := C3.out _ (hb)
       have b4 := C4.out _ (hb)
       clear hb a0 a2 a3 a4
       cases q
       ·go_wp2_with fail
        exact HQ.out _ _ ⟨⟨_, rfl⟩, HW4.out⟩
       ·go_wp2_with fail
        exact HQ.out _ _ ⟨⟨_, rfl⟩, HW4.out⟩
      ·have q4 : ((n : Int) == 0) = false := by simp; omega
       have q5 : ¬ (n : Int) = 0 := by omega
       go_wp2_with fail
       exact HQ.out _ _ ⟨⟨_, rfl⟩, HB.out⟩
     ·go_wp2_with fail
      exact HQ.out _ _ ⟨⟨_, rfl⟩, HB.out⟩
    ·have ek5 : (k == 5) = false := by simpa using hk5
     go_wp2_with fail
     exact HQ.out _ _ ⟨⟨_, rfl⟩, HB.out⟩
theorem qlabel_step (x : Nt) (w : World) (hn : x.n ≤ maxLen) (hm : x.m ≤ maxLen) (hR : ∀ W, Below w.heap.size w W → Calls Tryz.prog 85 #[.slice x.A x.n x.c] W fun e w' => (∃ b : Bool, e = .returned (.bool b)) ∧ Below W.heap.size W w') (h1 : ∀ W, Below w.heap.size w W → Calls Tryz.prog 84 #[.int .i64 1, .slice x.B x.m x.d] W fun e w' => (∃ b : Bool, e = .returned (.bool b)) ∧ Below W.heap.size W w') (h2 : ∀ W, Below w.heap.size w W → Calls Tryz.prog 84 #[.int .i64 3, .slice x.B x.m x.d] W fun e w' => (∃ b : Bool, e = .returned (.bool b)) ∧ Below W.heap.size W w') :
 Calls Tryz.prog 35 #[.agg (ntC x).toArray] w fun e w' => (∃ b : Bool, e = .returned (.bool b)) ∧ Below w.heap.size w w' := by
 have r0 := RowAt.new w 32 (ntC x).toArray
 have hb : Below w.heap.size w (w.alloc (.cells (ntC x).toArray 32)) := (zB _ _).alloc (zL _) _
 obtain ⟨k, p, s, A, n, c, B, m, d⟩ := x
 refine cHid fun Q' hQ => ?_
 have HQ := zh hQ; clear hQ
 have HRT := zh (refRight_any s)
 generalize NM.right s = r at *
 go_enter Tryz.func35, Tryz.ntmps35
 go_upto_region 1 with fail
 change Code.wp _ _ _ _ (w.alloc (.cells (ntC ⟨k, p, s, A, n, c, B, m, d⟩).toArray 32))
 generalize w.alloc (.cells (ntC ⟨k, p, s, A, n, c, B, m, d⟩).toArray 32) = w1 at *
 have HB := zh hb
 have C0 := r0.lt
 have a0 := (r0.cell 0).trans (show (ntC ⟨k, p, s, A, n, c, B, m, d⟩).toArray[0]? = some (.int .i64 k) from rfl)
 have a2 := (r0.cell 2).trans (show (ntC ⟨k, p, s, A, n, c, B, m, d⟩).toArray[2]? = some (.string s) from rfl)
 have a3 := (r0.cell 3).trans (show (ntC ⟨k, p, s, A, n, c, B, m, d⟩).toArray[3]? = some (.slice A n c) from rfl)
 have a4 := (r0.cell 4).trans (show (ntC ⟨k, p, s, A, n, c, B, m, d⟩).toArray[4]? = some (.slice B m d) from rfl)
 have C3 : Hid (∀ W, Below w1.heap.size w1 W → W.cell? ⟨w.heap.size, 3, none⟩ = some (.slice A n c)) := zh fun W hW => (hW.cell (p := ⟨w.heap.size, 3, none⟩) C0).trans a3
 have C4 : Hid (∀ W, Below w1.heap.size w1 W → W.cell? ⟨w.heap.size, 4, none⟩ = some (.slice B m d)) := zh fun W hW => (hW.cell (p := ⟨w.heap.size, 4, none⟩) C0).trans a4
 have HRW := zh hR
 have HA1 := zh h1
 have HA2 := zh h2
 clear r0 hb hR h1 h2
 simp only at hn hm
 unfold maxLen at hn hm
 by_cases hk1 : k = 1
 ·subst hk1
  go_wp2_with fail
  refine (HRT.out _).mono ?_
  rintro e w4 ⟨rfl, hd⟩
  have HW4 := zh (HB.out.trans (hd.below.mono HB.out.size))
  have b3 := C3.out _ hd.below
  have b4 := C4.out _ hd.below
  clear hd a0 a2 a3 a4
  cases r
  ·go_wp2_with fail
   exact HQ.out _ _ ⟨⟨_, rfl⟩, HW4.out⟩
  ·go_wp2_with fail
   exact HQ.out _ _ ⟨⟨_, rfl⟩, HW4.out⟩
 ·have ek1 : (k == 1) = false := by simpa using hk1
  by_cases hk7 : k = 7
  ·subst hk7
   by_cases q2 : s.toList = []
   ·by_cases q3 : n = 0
    ·subst q3
     by_cases q6 : m = 1
     ·subst q6
      go_wp2_with fail
      refine (HA1.out _ HB.out).mono ?_
      rintro e w4 ⟨⟨q, rfl⟩, hb⟩
      have HW4 := zh (HB.out.trans (hb.mono HB.out.size))
      have b3 := C3.out _ (hb)
      have b4 := C4.out _ (hb)
      clear hb a0 a2 a3 a4
      cases q
      ·go_wp2_with fail
       exact HQ.out _ _ ⟨⟨_, rfl⟩, HW4.out⟩
      ·go_wp2_with fail
       exact HQ.out _ _ ⟨⟨_, rfl⟩, HW4.out⟩
     ·have q7 : ((m : Int) == 1) = false := by simp; omega
      have q8 : ¬ (m : Int) = 1 := by omega
      go_wp2_with fail
      exact HQ.out _ _ ⟨⟨_, rfl⟩, HB.out⟩
    ·have q4 : ((n : Int) == 0) = false := by simp; omega
     have q5 : ¬ (n : Int) = 0 := by omega
     go_wp2_with fail
     exact HQ.out _ _ ⟨⟨_, rfl⟩, HB.out⟩
   ·go_wp2_with fail
    exact HQ.out _ _ ⟨⟨_, rfl⟩, HB.out⟩
  ·have ek7 : (k == 7) = false := by simpa using hk7
   by_cases hk8 : k = 8
   ·subst hk8
    by_cases q2 : s.toList = []
    ·by_cases q3 : n = 0
     ·subst q3
      by_cases q6 : 0 < m
      ·have q7 : (0 : Int) < (m : Int) := by omega
       go_wp2_with fail
       refine (HA2.out _ HB.out).mono ?_
       rintro e w4 ⟨⟨q, rfl⟩, hb⟩
       have HW4 := zh (HB.out.trans (hb.mono HB.out.size))
       have b3 := C3.out _ (hb)
       have b4 := C4.out _ (hb)
       clear hb a0 a2 a3 a4
       cases q
       ·go_wp2_with fail
        exact HQ.out _ _ ⟨⟨_, rfl⟩, HW4.out⟩
       ·go_wp2_with fail
        exact HQ.out _ _ ⟨⟨_, rfl⟩, HW4.out⟩
      ·have q7 : ¬ (0 : Int) < (m : Int) := by omega
       go_wp2_with fail
       exact HQ.out _ _ ⟨⟨_, rfl⟩, HB.out⟩
     ·have q4 : ((n : Int) == 0) = false := by simp; omega
      have q5 : ¬ (n : Int) = 0 := by omega
      go_wp2_with fail
      exact HQ.out _ _ ⟨⟨_, rfl⟩, HB.out⟩
    ·go_wp2_with fail
     exact HQ.out _ _ ⟨⟨_, rfl⟩, HB.out⟩
   ·have ek8 : (k == 8) = false := by simpa using hk8
    by_cases hk9 : k = 9
    ·subst hk9
     by_cases q2 : s.toList = []
     ·by_cases q3 : n = 0
      ·subst q3
       by_cases q6 : 0 < m
       ·have q7 : (0 : Int) < (m : Int) := by omega
        go_wp2_with fail
        refine (HA2.out _ HB.out).mono ?_
        rintro e w4 ⟨⟨q, rfl⟩, hb⟩
        have HW4 := zh (HB.out.trans (hb.mono HB.out.size))
        have b3 := C3.out _ (hb)
        have b4 := C4.out _ (hb)
        clear hb a0 a2 a3 a4
        cases q
        ·go_wp2_with fail
         exact HQ.out _ _ ⟨⟨_, rfl⟩, HW4.out⟩
        ·go_wp2_with fail
         exact HQ.out _ _ ⟨⟨_, rfl⟩, HW4.out⟩
       ·have q7 : ¬ (0 : Int) < (m : Int) := by omega
        go_wp2_with fail
        exact HQ.out _ _ ⟨⟨_, rfl⟩, HB.out⟩
      ·have q4 : ((n : Int) == 0) = false := by simp; omega
       have q5 : ¬ (n : Int) = 0 := by omega
       go_wp2_with fail
       exact HQ.out _ _ ⟨⟨_, rfl⟩, HB.out⟩
     ·go_wp2_with fail
      exact HQ.out _ _ ⟨⟨_, rfl⟩, HB.out⟩
    ·have ek9 : (k == 9) = false := by simpa using hk9
     go_wp2_with fail
     exact HQ.out _ _ ⟨⟨_, rfl⟩, HB.out⟩
theorem qis_some {w0 : World} {x : Nt} (h : NtOk w0 x) : Som 119 w0 x ∧ Som 35 w0 x := by
 induction h with
 | mk x ks hm hs hn hl hk ws hw hws ih =>
   have hR : ∀ w, Below w0.heap.size w0 w → ∀ W, Below w.heap.size w W → Calls Tryz.prog 85 #[.slice x.A x.n x.c] W fun e w' => (∃ b : Bool, e = .returned (.bool b)) ∧ Below W.heap.size W w' := fun w hw0 W hW => by
    rw [hw]
    exact qright_some x.A x.c ws W (by omega) (hws.below (hw0.trans (hW.mono hw0.size)))
   have h1 : ∀ w, Below w0.heap.size w0 w → ∀ W, Below w.heap.size w W → Calls Tryz.prog 84 #[.int .i64 1, .slice x.B x.m x.d] W fun e w' => (∃ b : Bool, e = .returned (.bool b)) ∧ Below W.heap.size W w' := fun w hw0 W hW => by
    rw [hm]
    have hb := hw0.trans (hW.mono hw0.size)
    exact qall1_some x.B x.d ks W hl (hs.below hb) fun i hi => (ih _ (getD_mem' hi)).1.below hb
   have h3 : ∀ w, Below w0.heap.size w0 w → ∀ W, Below w.heap.size w W → Calls Tryz.prog 84 #[.int .i64 3, .slice x.B x.m x.d] W fun e w' => (∃ b : Bool, e = .returned (.bool b)) ∧ Below W.heap.size W w' := fun w hw0 W hW => by
    rw [hm]
    have hb := hw0.trans (hW.mono hw0.size)
    exact qall3_some x.B x.d ks W hl (hs.below hb) fun i hi => (ih _ (getD_mem' hi)).2.below hb
   have h2 : ∀ w, Below w0.heap.size w0 w → ∀ W, Below w.heap.size w W → Calls Tryz.prog 84 #[.int .i64 2, .slice x.B x.m x.d] W fun e w' => (∃ b : Bool, e = .returned (.bool b)) ∧ Below W.heap.size W w' := fun w hw0 W hW => by
    rw [hm]
    have hb := hw0.trans (hW.mono hw0.size)
    refine qall2_some x.B x.d ks W hl (hs.below hb) fun i hi W2 hW2 => ?_
    have hy := hk _ (getD_mem' (d := nt0) hi)
    generalize ks.getD i nt0 = y at *
    cases hy with
    | mk _ ks2 hm2 hs2 hn2 hl2 hk2 ws2 hw2 hws2 =>
      rw [hw2]
      exact qright_some y.A y.c ws2 W2 (by omega) (hws2.below (hb.trans (hW2.mono hb.size)))
   exact ⟨fun w hw0 => qconst_step x w hn (by omega) (hR w hw0) (h1 w hw0) (h2 w hw0), fun w hw0 => qlabel_step x w hn (by omega) (hR w hw0) (h1 w hw0) (h3 w hw0)⟩
end
section
open Go.RowKit
theorem qall4_some (A : Option Addr) (c : Nat) (ks : List Nt) (w : World) (hl : ks.length ≤ maxLen) (hA : Ls ntC w A ks) (hF : ∀ i, i < ks.length → NtOk w (ks.getD i nt0)) :
 Calls Tryz.prog 84 #[.int .i64 4, .slice A ks.length c] w fun e w' => (∃ b : Bool, e = .returned (.bool b)) ∧ Below w.heap.size w w' := by
 have HA := zh hA; clear hA
 have HF := zh hF; clear hF
 generalize hm : ks.length = n at *
 have HN := zh hm; clear hm
 unfold maxLen at hl
 refine cHid fun Q' hQ => ?_
 have HQ := zh hQ; clear hQ
 go_enter Tryz.func84, Tryz.ntmps84
 go_wp2_with fail
 go_loopw [5, 6, 7] (fun iv _ _ wr => ∃ i : Nat, i ≤ n ∧ iv = .int .i64 i ∧ Hid (Below w.heap.size w wr)) (fun iv _ _ _ => n - (intOf iv).toNat)
 case atStart => exact ⟨0, by omega, rfl, zh (zB _ _)⟩
 case round =>
  obtain ⟨i, hi, rfl, HW⟩ := hrel
  by_cases hlt : i < n
  ·obtain ⟨b, o, rfl, _, hc⟩ := (HA.out.below HW.out).at 5 (fun _ => rfl) (by omega) nt0 (i := i) (by rw [HN.out]; exact hlt)
   have HR := zh (hc i (by rw [HN.out]; exact hlt)); clear hc
   have HC := zh (HF.out i hlt)
   have hin : (i : Int) < (n : Int) := by omega
   generalize ks.getD i nt0 = y at *
   go_upto_region 5 with (first
        | (refine wpList_ldIn (by rfl) _ _ rfl b (o + i * 5) rfl _ _ HR.out Tryz.underlying32 rfl (by kernel_rfl) ?_)
        | (refine wpList_stRow (by rfl) _ _ _ rfl wr.heap.size (ntC y).toArray rfl rfl _ _ (RowAt.new _ _ _) (by kernel_rfl) rfl (ntC_one y) ?_; intro wc rc he; have HRC := zh rc; have hbw : Below wr.heap.size wr wc := ((zB _ _).alloc (zL _) _).trans (he.below (zL _)); have HWc := zh (HW.out.trans (hbw.mono HW.out.size)); clear rc he hbw))
   have HY := zh (HC.out.lo HWc.out)
   obtain ⟨k, p, s, A2, n2, c2, B2, m2, d2⟩ := y
   have a0 := (HRC.out.cell 0).trans (show (ntC ⟨k, p, s, A2, n2, c2, B2, m2, d2⟩).toArray[0]? = some (.int .i64 k) from rfl)
   have C3 : Hid (∀ W, Below wc.heap.size wc W → W.cell? ⟨wr.heap.size, 3, none⟩ = some (.slice A2 n2 c2)) := zh fun W hW => (hW.cell (p := ⟨wr.heap.size, 3, none⟩) HRC.out.lt).trans ((HRC.out.cell 3).trans rfl)
   have C4 : Hid (∀ W, Below wc.heap.size wc W → W.cell? ⟨wr.heap.size, 4, none⟩ = some (.slice B2 m2 d2)) := zh fun W hW => (hW.cell (p := ⟨wr.heap.size, 4, none⟩) HRC.out.lt).trans ((HRC.out.cell 4).trans rfl)
   have a2 := (HRC.out.cell 2).trans (show (ntC ⟨k, p, s, A2, n2, c2, B2, m2, d2⟩).toArray[2]? = some (.string s) from rfl)
   have HRT := zh (refRight_any s)
   generalize NM.right s = r at *
   by_cases hk : k = 11
   ·subst hk
    go_wp2_with fail
    refine (HRT.out _).mono ?_
    rintro e w4 ⟨rfl, hd⟩
    have HB4 := zh hd.below
    have HW4 := zh (HWc.out.trans (hd.below.mono HWc.out.size))
    clear hd a0 a2
    have a3 := C3.out _ HB4.out
    have a4 := C4.out _ HB4.out
    cases r
    ·go_wp2_with fail
     exact HQ.out _ _ ⟨⟨_, rfl⟩, HW4.out⟩
    ·by_cases hn : n2 = 0
     ·subst hn
      by_cases hm : m2 = 1
      ·subst hm
       have hy := HY.out.lo HB4.out
       cases hy with
       | mk _ zs hm2 hs2 hn2 hl2 hk2 ws2 hw2 hws2 =>
         have hz1 : 0 < zs.length := by
            have h1 : (1 : Nat) = zs.length := hm2
            omega
         obtain ⟨b2, o2, hB2, hb2, hc2⟩ := Ls.at (g := ntC) hs2 5 (fun _ => rfl) (by omega) nt0 (i := 0) hz1
         have HR2 : Hid (w4.rangeAt b2 o2 (ntC (zs.getD 0 nt0))) := zh (by
            have h2 := hc2 0 hz1
            rw [Nat.zero_mul, Nat.add_zero] at h2
            exact h2)
         have HSL := zh (qis_some (hk2 _ (getD_mem' (d := nt0) (i := 0) hz1))).2
         have hB3 : B2 = some ⟨b2, o2, none⟩ := hB2
         subst hB3
         clear hc2 hB2 hs2 hk2 hws2 hw2 hn2 hl2 hm2
         generalize zs.getD 0 nt0 = z at *
         have p0 : Hid (∀ W, Below w4.heap.size w4 W → W.cell? ⟨b2, o2, none⟩ = some (.int .i64 z.k)) := zh fun W hW => by
            have h1 := HR2.out 0 (.int .i64 z.k) rfl
            rw [Nat.add_zero] at h1
            exact (hW.cell (p := ⟨b2, o2, none⟩) hb2).trans h1
         go_wp2_with (first | (refine wpList_ldIn ?hg _ _ rfl b2 o2 rfl _ _ HR2.out Tryz.underlying32 rfl (by kernel_rfl) ?hn; case hg => (simp [Region.wanted, yielded]; done)) | fail)
         refine (HSL.out _ (zB _ _)).mono ?_
         rintro e w5 ⟨⟨q, rfl⟩, hb⟩
         have HW5 := zh (HW4.out.trans (hb.mono HW4.out.size))
         have a5 := C4.out _ (HB4.out.trans (hb.mono HB4.out.size))
         have p1 := p0.out _ hb
         clear hb a3 a4
         cases q
         ·go_wp2_with fail
          exact HQ.out _ _ ⟨⟨_, rfl⟩, HW5.out⟩
         ·generalize z.k = zk at *
          by_cases e8 : zk = 8
          ·subst e8
           go_wp2_with fail
           exact HQ.out _ _ ⟨⟨_, rfl⟩, HW5.out⟩
          ·have e81 : (zk != 8) = true := by simpa using e8
           by_cases e9 : zk = 9
           ·subst e9
            go_wp2_with fail
            exact HQ.out _ _ ⟨⟨_, rfl⟩, HW5.out⟩
           ·have e91 : (zk != 9) = true := by simpa using e9
            go_wp2_with fail
            go_roundw
            case rel => exact ⟨i + 1, by omega, by go_num, HW5⟩
            case measure => simp [intOf]; omega
      ·have hm2 : ¬ (m2 : Int) = 1 := by omega
       have hm3 : ((m2 : Int) == 1) = false := by simp; omega
       go_wp2_with fail
       exact HQ.out _ _ ⟨⟨_, rfl⟩, HW4.out⟩
     ·have hn2 : ¬ (n2 : Int) = 0 := by omega
      have hn3 : ((n2 : Int) == 0) = false := by simp; omega
      go_wp2_with fail
      exact HQ.out _ _ ⟨⟨_, rfl⟩, HW4.out⟩
   ·have ek : (k == 11) = false := by simpa using hk
    go_wp2_with fail
    exact HQ.out _ _ ⟨⟨_, rfl⟩, HWc.out⟩
  ·obtain rfl : i = n := by omega
   go_wp2_with fail
   exact HQ.out _ _ ⟨⟨_, rfl⟩, HW.out⟩
theorem qzero_some (x : Nt) (w : World) : Calls Tryz.prog 37 #[.agg (ntC x).toArray] w fun e w' => (∃ b : Bool, e = .returned (.bool b)) ∧ Below w.heap.size w w' := by
 have r0 := RowAt.new w 32 (ntC x).toArray
 have hb : Below w.heap.size w (w.alloc (.cells (ntC x).toArray 32)) := (zB _ _).alloc (zL _) _
 have HS := zh (qsamez_some x)
 refine cHid fun Q' hQ => ?_
 have HQ := zh hQ; clear hQ
 go_enter Tryz.func37, Tryz.ntmps37
 go_upto_region 1 with fail
 change Code.wp _ _ _ _ (w.alloc (.cells (ntC x).toArray 32))
 generalize w.alloc (.cells (ntC x).toArray 32) = w1 at *
 have HB := zh hb
 have HR := zh r0
 clear r0 hb
 go_wp2_with (first | (refine wpList_loadS (by rfl) _ _ rfl w.heap.size rfl _ _ _ HR.out Tryz.underlying32 rfl (by kernel_rfl) ?_) | fail)
 refine (HS.out w1).mono ?_
 rintro e w2 ⟨⟨q, rfl⟩, hb2⟩
 go_wp2_with fail
 exact HQ.out _ _ ⟨⟨_, rfl⟩, HB.out.trans (hb2.mono HB.out.size)⟩
theorem qrow_some (x : Nt) (w : World) (h : NtOk w x) : Calls Tryz.prog 36 #[.agg (ntC x).toArray] w fun e w' => (∃ b : Bool, e = .returned (.bool b)) ∧ Below w.heap.size w w' := by
 have HIL := zh (qis_some h).2
 have hRA : (∀ W, Below w.heap.size w W → Calls Tryz.prog 85 #[.slice x.A x.n x.c] W fun e w' => (∃ b : Bool, e = .returned (.bool b)) ∧ Below W.heap.size W w') ∧ (∀ W, Below w.heap.size w W → Calls Tryz.prog 84 #[.int .i64 4, .slice x.B x.m x.d] W fun e w' => (∃ b : Bool, e = .returned (.bool b)) ∧ Below W.heap.size W w') ∧ x.n ≤ maxLen ∧ x.m ≤ maxLen := by
  cases h with
  | mk _ ks hm hs hn hl hk ws hw hws =>
    refine ⟨fun W hW => ?_, fun W hW => ?_, hn, by omega⟩
    ·rw [hw]
     exact qright_some x.A x.c ws W (by omega) (hws.below hW)
    ·rw [hm]
     exact qall4_some x.B x.d ks W hl (hs.below hW) fun i hi => (hk _ (getD_mem' hi)).lo hW
 obtain ⟨hR, h1, hn, hm⟩ := hRA
 clear h
 have r0 := RowAt.new w 32 (ntC x).toArray
 have hb : Below w.heap.size w (w.alloc (.cells (ntC x).toArray 32)) := (zB _ _).alloc (zL _) _
 have HRB := zh r0
 obtain ⟨k, p, s, A, n, c, B, m, d⟩ := x
 refine cHid fun Q' hQ => ?_
 have HQ := zh hQ; clear hQ
 go_enter Tryz.func36, Tryz.ntmps36
 go_upto_region 1 with fail
 change Code.wp _ _ _ _ (w.alloc (.cells (ntC ⟨k, p, s, A, n, c, B, m, d⟩).toArray 32))
 generalize w.alloc (.cells (ntC ⟨k, p, s, A, n, c, B, m, d⟩).toArray 32) = w1 at *
 have HB := zh hb
 have C0 := r0.lt
 have a0 := (r0.cell 0).trans (show (ntC ⟨k, p, s, A, n, c, B, m, d⟩).toArray[0]? = some (.int .i64 k) from rfl)
 have a2 := (r0.cell 2).trans (show (ntC ⟨k, p, s, A, n, c, B, m, d⟩).toArray[2]? = some (.string s) from rfl)
 have a3 := (r0.cell 3).trans (show (ntC ⟨k, p, s, A, n, c, B, m, d⟩).toArray[3]? = some (.slice A n c) from rfl)
 have a4 := (r0.cell 4).trans (show (ntC ⟨k, p, s, A, n, c, B, m, d⟩).toArray[4]? = some (.slice B m d) from rfl)
 have C4 : Hid (∀ W, Below w1.heap.size w1 W → W.cell? ⟨w.heap.size, 4, none⟩ = some (.slice B m d)) := zh fun W hW => (hW.cell (p := ⟨w.heap.size, 4, none⟩) C0).trans a4
 have HRW := zh hR
 have HA1 := zh h1
 clear r0 hb hR h1
 simp only at hn hm
 unfold maxLen at hn hm
 by_cases hk : k = 10
 ·subst hk
  by_cases q2 : s.toList = []
  ·by_cases q3 : n ≤ 1
   ·have q4 : (n : Int) ≤ 1 := by omega
    go_wp2_with fail
    refine (HRW.out _ HB.out).mono ?_
    rintro e w4 ⟨⟨q, rfl⟩, hb⟩
    have HW4 := zh (HB.out.trans (hb.mono HB.out.size))
    have b4 := C4.out _ hb
    clear hb a0 a2 a3 a4
    cases q
    ·go_wp2_with fail
     exact HQ.out _ _ ⟨⟨_, rfl⟩, HW4.out⟩
    ·go_wp2_with fail
     refine (HA1.out _ HW4.out).mono ?_
     rintro e w5 ⟨⟨q, rfl⟩, hb⟩
     have HW5 := zh (HW4.out.trans (hb.mono HW4.out.size))
     clear hb b4
     go_wp2_with fail
     exact HQ.out _ _ ⟨⟨_, rfl⟩, HW5.out⟩
   ·have q4 : ¬ (n : Int) ≤ 1 := by omega
    go_wp2_with fail
    exact HQ.out _ _ ⟨⟨_, rfl⟩, HB.out⟩
  ·go_wp2_with fail
   exact HQ.out _ _ ⟨⟨_, rfl⟩, HB.out⟩
 ·have ek : (k == 10) = false := by simpa using hk
  by_cases hk1 : k = 1
  ·subst hk1
   go_wp2_with (first | (refine wpList_loadS ?hg _ _ rfl w.heap.size rfl _ _ _ HRB.out Tryz.underlying32 rfl (by kernel_rfl) ?hn; case hg => (simp [Region.wanted, yielded]; done)) | fail)
   refine (HIL.out _ HB.out).mono ?_
   rintro e w5 ⟨⟨q, rfl⟩, hb⟩
   have HW5 := zh (HB.out.trans (hb.mono HB.out.size))
   clear hb a0 a2 a3 a4
   go_wp2_with fail
   exact HQ.out _ _ ⟨⟨_, rfl⟩, HW5.out⟩
  ·have ek1 : (k == 1) = false := by simpa using hk1
   go_wp2_with fail
   exact HQ.out _ _ ⟨⟨_, rfl⟩, HB.out⟩
end
section
open Go.RowKit
theorem infoWd2 : (Tryz.prog.info? 27).map (fun i => (i.zero.isSome, i.size)) = some (true, 2) := by kernel_rfl
theorem wp_wds {o : Oper} {a : Act} {w : World} {K : Act → World → Prop} {Q : Exit → Act → World → Prop} (x y : Operand) (ho : o.op = .buildSlice 28 2 #[(0, x), (1, y)])
 (l r : ByteArray × Int) (hx : a.eval x = .agg (wdC l).toArray) (hy : a.eval y = .agg (wdC r).toArray)
 (h : ∀ w', Ls wdC w' (some ⟨w.heap.size, 0, none⟩) [l, r] → Below w.heap.size w w' → K (a.put o.dst (.slice (some ⟨w.heap.size, 0, none⟩) 2 2)) w') : o.wp Tryz.prog a w K Q := by
 cases hi : Tryz.prog.info? 27 with
 | none => have h0 := infoWd2; rw [hi] at h0; cases h0
 | some i =>
   have h2 := infoWd2
   rw [hi] at h2
   simp only [Option.map_some, Option.some.injEq, Prod.mk.injEq] at h2
   obtain ⟨z, hz⟩ := Option.isSome_iff_exists.1 h2.1
   have hs := h2.2
   refine wp_buildSlice 28 27 2 _ ho ([l, r].flatMap wdC).toArray i z Tryz.underlying28 hi hz (by rw [hs]; omega) (by rw [hs]; omega) ?_ ?_
   ·rw [show (#[(0, x), (1, y)].map fun (p : Nat × Operand) => (p.1, a.eval p.2)).toList = (([l, r].map fun s => Value.agg (wdC s).toArray).zipIdx 0).map fun x => (x.2, x.1) by simp [hx, hy], hs]
    have := Great.fill_whole (s := 2) (by decide) ([l, r].map fun s => Value.agg (wdC s).toArray) ((Array.range (2 * 2)).map (z.cells[· % z.cells.size]!)) (by
        intro v hv
        obtain ⟨s, _, rfl⟩ := List.mem_map.1 hv
        rfl) (by simp)
    rw [this]
    rfl
   ·refine h _ (fun _ => ⟨w.heap.size, 0, rfl, by simp, fun j u hu => ?_⟩) ((zB _ _).alloc (zL _) _)
    rw [Nat.zero_add, cell_of_row _ w.heap.size j _ 27 (0, 0) (heap_alloc_new w _)]
    simpa using hu
theorem qcright_some (x : Cd) (w : World) (hx : CdIn w x) :
 Calls Tryz.prog 9 #[.agg (cdv x)] w fun e w' => (∃ b : Bool, e = .returned (.bool b) ∧ (b = true → NmOk x)) ∧ Below w.heap.size w w' := by
 have r0 := RowAt.new w 34 (cdv x)
 have hb : Below w.heap.size w (w.alloc (.cells (cdv x) 34)) := (zB _ _).alloc (zL _) _
 refine cHid fun Q' hQ => ?_
 have HQ := zh hQ; clear hQ
 go_enter Tryz.func9, Tryz.ntmps9
 go_upto_region 1 with fail
 change Code.wp _ _ _ _ (w.alloc (.cells (cdv x) 34))
 generalize w.alloc (.cells (cdv x) 34) = w1 at *
 have HB := zh hb
 have HX := zh (hx.below hb)
 have HLT := zh r0.lt
 obtain ⟨d0, _, d2, _, d4, d5, _⟩ := cd_cells r0
 have HCELL : Hid (∀ W, Below w1.heap.size w1 W → RowAt W w.heap.size 34 (cdv x)) := zh fun W hW => r0.below hW r0.lt
 obtain ⟨l, rr, hrest, hl, hr⟩ := (hx.below hb).nodes
 have hR1 : w1.rangeAt w.heap.size 7 (ntC l) := r0.range 7 (ntC l) fun j u hu => by
  have hj : j < 5 := (List.getElem?_eq_some_iff.1 hu).1
  unfold cdv
  rw [hrest, zA1, show 7 + j = j + 7 by omega]
  show (ntC l ++ ntC rr)[j]? = some u
  rw [List.getElem?_append_left (by exact hj)]; exact hu
 have hR2 : w1.rangeAt w.heap.size 12 (ntC rr) := r0.range 12 (ntC rr) fun j u hu => by
  have hj : j < 5 := (List.getElem?_eq_some_iff.1 hu).1
  unfold cdv
  rw [hrest, zA1, show 12 + j = (j + 5) + 7 by omega]
  show (ntC l ++ ntC rr)[j + 5]? = some u
  rw [List.getElem?_append_right (by show 5 ≤ j + 5; omega)]
  rw [show j + 5 - (ntC l).length = j by show j + 5 - 5 = j; omega]; exact hu
 have HR1 : Hid (∀ W, Below w1.heap.size w1 W → W.rangeAt w.heap.size 7 (ntC l)) := zh fun W hW j u hu => (hW.cell (p := ⟨w.heap.size, 7 + j, none⟩) r0.lt).trans (hR1 j u hu)
 have HR2 : Hid (∀ W, Below w1.heap.size w1 W → W.rangeAt w.heap.size 12 (ntC rr)) := zh fun W hW j u hu => (hW.cell (p := ⟨w.heap.size, 12 + j, none⟩) r0.lt).trans (hR2 j u hu)
 have HNL : Hid (∀ W, Below w1.heap.size w1 W → NtOk W l ∧ NtOk W rr) := zh fun W hW => ⟨hl.lo hW, hr.lo hW⟩
 have HTX := zh fun W (hW : Below w1.heap.size w1 W) => qtexts_any x.A x.c x.ws W hx.wmax (HX.out.ws.below hW)
 clear r0 hb hR1 hR2 hl hr
 by_cases h0 : x.op < 0
 ·go_wp2_with fail
  exact HQ.out _ _ ⟨⟨false, rfl, fun h => by cases h⟩, HB.out⟩
 by_cases h15 : 15 < x.op
 ·go_wp2_with fail
  exact HQ.out _ _ ⟨⟨false, rfl, fun h => by cases h⟩, HB.out⟩
 obtain ⟨k, hk⟩ : ∃ k : Nat, x.op = (k : Int) := ⟨x.op.toNat, by omega⟩
 have hk16 : k < 16 := by omega
 have HK := zh hk
 rw [hk] at d0 h0 h15
 clear hk
 generalize hws : wsB x.ws = wb at *
 cases wb with
 | false =>
   go_wp2_with fail
   refine (HTX.out _ (zB _ _)).mono ?_
   rintro e w2 ⟨rfl, hb⟩
   have HW2 := zh (HB.out.trans (hb.mono HB.out.size))
   clear hb
   go_wp2_with fail
   exact HQ.out _ _ ⟨⟨false, rfl, fun h => by cases h⟩, HW2.out⟩
 | true =>
   have HWS := zh hws
   go_upto_region 3 with (go_at_call 32; refine (HTX.out _ (zB _ _)).mono ?_; rintro e w2 ⟨rfl, hb2⟩; have HB2 := zh hb2; clear hb2)
   clear hws d0 d2 d4 d5
   have HC5 : Hid (∀ W, Below w1.heap.size w1 W → W.cell? ⟨w.heap.size, 5, none⟩ = some (.slice x.B x.ps.length x.d)) := zh fun W hW => (cd_cells (HCELL.out W hW)).2.2.2.2.2.1
   have HPS : Hid (∀ W, Below w1.heap.size w1 W → Ls pwC W x.B x.ps) := zh fun W hW => HX.out.ps.below hW
   have HPM : Hid (x.ps.length ≤ 9223372036854775807) := zh (by have := hx.pmax; unfold maxLen at this; omega)
   generalize hpm : x.ps.length = m at *
   have HM := zh hpm; clear hpm
   go_wp2_with fail
   go_loopw [3] (fun iv wr => ∃ i : Nat, i ≤ m ∧ iv = .int .i64 i ∧ Hid (Below w1.heap.size w1 wr)) (fun iv _ => m - (intOf iv).toNat)
   case atStart => exact ⟨0, by omega, rfl, HB2⟩
   case round =>
    obtain ⟨i, hi, rfl, HW⟩ := hrel
    have hpm2 := HPM.out
    have c5 := HC5.out _ HW.out
    by_cases hlt : i < m
    ·have hin : (i : Int) < (m : Int) := by omega
     obtain ⟨b, o, hBe, hbl, hc⟩ := Ls.at (g := pwC) (HPS.out _ HW.out) 4 (fun _ => rfl) (by omega) pw0 (i := i) (by rw [HM.out]; exact hlt)
     have hR := hc i (by rw [HM.out]; exact hlt)
     clear hc
     generalize x.B = XB at *
     subst hBe
     generalize x.ps.getD i pw0 = y at *
     go_upto_region 6 with fail
     have HWd := zh (HW.out.drew)
     have P0 : ∀ W, Below wr.heap.size wr.drew W → W.rangeAt b (o + i * 4) (wdC y.1) := fun W hW j u hu => by
      have hj : j < 2 := (List.getElem?_eq_some_iff.1 hu).1
      refine (hW.cell (p := ⟨b, o + i * 4 + j, none⟩) hbl).trans (hR j u ?_)
      show (wdC y.1 ++ wdC y.2)[j]? = some u
      rw [List.getElem?_append_left (by exact hj)]; exact hu
     have P1 : ∀ W, Below wr.heap.size wr.drew W → W.rangeAt b (o + i * 4 + 2) (wdC y.2) := fun W hW j u hu => by
      have hj : j < 2 := (List.getElem?_eq_some_iff.1 hu).1
      rw [show o + i * 4 + 2 + j = o + i * 4 + (2 + j) by omega]
      refine (hW.cell (p := ⟨b, o + i * 4 + (2 + j), none⟩) hbl).trans (hR (2 + j) u ?_)
      show (wdC y.1 ++ wdC y.2)[2 + j]? = some u
      rw [List.getElem?_append_right (by show 2 ≤ 2 + j; omega), show 2 + j - (wdC y.1).length = j by show 2 + j - 2 = j; omega]; exact hu
     have C5 : ∀ W, Below wr.heap.size wr.drew W → W.cell? ⟨w.heap.size, 5, none⟩ = some (.slice (some ⟨b, o, none⟩) m x.d) := fun W hW => HC5.out W (HWd.out.trans (hW.mono HW.out.size))
     clear c5
     have hS0 : Below wr.heap.size wr.drew wr.drew := zB _ _
     have HS0 := zh hS0; clear hS0
     refine wp_region_ou (fun W => Below wr.heap.size wr.drew W) ((.take 0 (.take 1 (.take 2 (.take 3 (.take 4 (.take 5 (.take 6 (.take 7 (.take 8 (.take 9 (.take 10 (.take 11 (.solo 12 (.solo 13 (.take 14 .nil)))))))))))))))) (by kernel_rfl) (by kernel_rfl) rfl (by kernel_rfl) HS0.out ?_
     have HSZ0 : Hid (wr.heap.size ≤ wr.drew.heap.size) := zh (zL _)
     generalize hu0 : wr.drew = u0 at *
     clear hu0
     iterate 12
      (refine wpOU_step (zO rfl) ?_)
      (first
       | (refine wpOU_skip (by rfl) ?_)
       | (refine wpOU_take (by rfl) (take_ldIn _ _ rfl b (o + i * 4) rfl _ _ P0 Tryz.underlying27 rfl (by kernel_rfl)) ?_)
       | (refine wpOU_take (by rfl) (take_ldIn _ _ rfl b (o + i * 4 + 2) rfl _ _ P1 Tryz.underlying27 rfl (by kernel_rfl)) ?_)
       | (refine wpOU_take (v := ?_) (by rfl) ?_ ?_; rotate_left 1; (intro wx hSx; have hc_0 := C5 wx hSx; go_simp; try with_reducible rfl)))
      (try simp only [Act.put, zA4, zA5, zA6])
     (refine wpOU_solo (zO rfl) ?_)
     intro K hK
     rw [if_pos (by rfl)]
     refine wp_wds _ _ rfl y.1 y.2 rfl rfl ?_
     intro u1 hls hb1
     have HS1 : Hid (Below wr.heap.size u0 u1) := zh (hb1.mono HSZ0.out)
     have HL1 := zh hls
     clear hb1 hls
     refine hK.out _ _ HS1.out ?_
     clear hK K
     (try simp only [Act.put, zA4, zA5, zA6])
     (refine wpOU_solo (zO rfl) ?_)
     intro K hK
     go_simp
     go_at_call 32
     refine (qtexts_any _ 2 [y.1, y.2] u1 (by unfold maxLen; simp) HL1.out).mono ?_
     rintro e u2 ⟨rfl, hb⟩
     have HS2 : Hid (Below wr.heap.size u0 u2) := zh (HS1.out.trans (hb.mono (by have := HS1.out.size; have := HSZ0.out; omega)))
     refine hK.out _ _ HS2.out ?_
     clear hK K hb
     (try simp only [Act.put, zA4, zA5, zA6])
     generalize wsB [y.1, y.2] = q
     iterate 1
      (refine wpOU_step (zO rfl) ?_)
      (first
       | (refine wpOU_skip (by rfl) ?_)
       | (refine wpOU_take (v := ?_) (by rfl) ?_ ?_; rotate_left 1; (intro wx hSx; have hc_0 := C5 wx hSx; go_simp; try with_reducible rfl)))
      (try simp only [Act.put, zA4, zA5, zA6])
     refine wpOU_done ?_
     have HW2 : Hid (Below w1.heap.size w1 u2) := zh (HWd.out.trans (HS2.out.mono HW.out.size))
     clear P0 P1 C5
     cases q
     ·go_wp2_with fail
      exact HQ.out _ _ ⟨⟨false, rfl, fun h => by cases h⟩, HB.out.trans (HW2.out.mono HB.out.size)⟩
     ·go_wp2_with fail
      go_roundw
      case rel => exact ⟨i + 1, by omega, by go_num, HW2⟩
      case measure => simp [intOf]; omega
    ·obtain rfl : i = m := by omega
     have C0 : Hid (∀ W, Below w1.heap.size w1 W → W.cell? ⟨w.heap.size, 0, none⟩ = some (.int .i64 (k : Int))) := zh fun W hW => by
      have h1 := (cd_cells (HCELL.out W hW)).1
      rw [HK.out] at h1; exact h1
     have C2 : Hid (∀ W, Below w1.heap.size w1 W → W.cell? ⟨w.heap.size, 2, none⟩ = some (.string x.n.1)) := zh fun W hW => (cd_cells (HCELL.out W hW)).2.2.1
     have C4 : Hid (∀ W, Below w1.heap.size w1 W → W.cell? ⟨w.heap.size, 4, none⟩ = some (.slice x.A x.ws.length x.c)) := zh fun W hW => (cd_cells (HCELL.out W hW)).2.2.2.2.1
     have C5 := HC5
     have HH1 := zh fun W => qhasL_any k hk16 110 (by omega) W
     have HH2 := zh fun W => qhasL_any k hk16 112 (by omega) W
     have HHo := zh fun W => qhasL_any k hk16 102 (by omega) W
     have HHs := zh fun W => qhasL_any k hk16 119 (by omega) W
     have HHt := zh fun W => qhasL_any k hk16 116 (by omega) W
     have HHr := zh fun W => qhasL_any k hk16 114 (by omega) W
     go_upto_region 8 with fail
     clear c5 hpm2
     have HU20 : Hid (Below w1.heap.size w1 wr.drew) := zh HW.out.drew
     refine wp_region_ou (fun W => Below w1.heap.size w1 W) ((.take 0 (.take 1 (.take 3 (.take 4 (.solo 2 (.solo 5 (.take 6 (.take 7 .nil))))))))) (by kernel_rfl) (by kernel_rfl) rfl (by kernel_rfl) HU20.out ?_
     generalize wr.drew = w20 at HU20 ⊢
     iterate 4
      (refine wpOU_step (zO rfl) ?_)
      (first
       | (refine wpOU_skip (by rfl) ?_)
       | (refine wpOU_take (v := ?_) (by rfl) ?_ ?_; rotate_left 1; (intro wx hSx; have hc_0 := C0.out wx hSx; have hc_2 := C2.out wx hSx; have hc_4 := C4.out wx hSx; have hc_5 := C5.out wx hSx; go_simp; try with_reducible rfl)))
      (try simp only [Act.put, zA4, zA5, zA6])
     (refine wpOU_solo (zO rfl) ?_)
     intro K hK
     go_simp
     go_at_call 33
     refine (HHo.out w20).mono ?_
     rintro e w21 ⟨rfl, BB⟩
     have HU21 : Hid (Below w1.heap.size w1 w21) := zh (HU20.out.trans (BB.mono HU20.out.size))
     refine hK.out _ _ HU21.out ?_
     clear hK K
     (try simp only [Act.put, zA4, zA5, zA6])
     (refine wpOU_solo (zO rfl) ?_)
     intro K hK
     go_simp
     go_at_call 33
     refine (HHs.out w21).mono ?_
     rintro e w22 ⟨rfl, BB⟩
     have HU22 : Hid (Below w1.heap.size w1 w22) := zh (HU21.out.trans (BB.mono HU21.out.size))
     refine hK.out _ _ HU22.out ?_
     clear hK K
     (try simp only [Act.put, zA4, zA5, zA6])
     iterate 2
      (refine wpOU_step (zO rfl) ?_)
      (first
       | (refine wpOU_skip (by rfl) ?_)
       | (refine wpOU_take (v := ?_) (by rfl) ?_ ?_; rotate_left 1; (intro wx hSx; have hc_0 := C0.out wx hSx; have hc_2 := C2.out wx hSx; have hc_4 := C4.out wx hSx; have hc_5 := C5.out wx hSx; go_simp; try with_reducible rfl)))
      (try simp only [Act.put, zA4, zA5, zA6])
     refine wpOU_done ?_
     have HUr := HU22
     clear HU20 HU21
     go_upto_region 9 with fail
     go_cut [111] from 48 to 111 (fun bv wx => ∃ b9 : Bool, bv = .bool b9 ∧ (b9 = false → hasL k 110 = NM.right x.n.1 ∧ (hasL k 119 = true → x.ws.length ≠ 0)) ∧ Hid (Below w1.heap.size w1 wx))
     case first =>
      have HRT := zh (refRight_any x.n.1)
      generalize hasL k 110 = a at *
      generalize hasL k 112 = c at *
      generalize hasL k 102 = o at *
      generalize hasL k 119 = s at *
      generalize NM.right x.n.1 = r at *
      generalize x.ws.length = n at *
      have HU10 : Hid (Below w1.heap.size w1 w22.drew) := zh HUr.out.drew
      refine wp_region_ou (fun W => Below w1.heap.size w1 W) ((.take 0 (.take 1 (.take 3 (.take 4 (.take 5 (.solo 2 (.solo 6 (.take 7 (.take 8 (.take 9 (.take 10 (.solo 11 (.take 12 (.take 13 (.take 14 (.take 15 (.take 16 (.take 17 (.take 18 (.take 19 (.take 20 (.take 21 (.take 22 (.take 23 (.take 24 (.take 25 (.take 26 (.take 27 (.take 28 (.take 29 (.take 30 (.take 31 (.take 32 (.take 33 (.take 34 (.take 35 (.take 36 (.take 37 (.take 38 (.take 39 (.take 40 (.take 41 (.take 42 (.take 43 (.take 44 (.take 45 (.take 46 (.take 47 (.take 48 (.take 49 (.take 50 (.take 51 (.take 52 (.take 53 (.take 54 (.solo 55 (.take 56 (.take 57 (.take 58 (.take 59 (.take 60 (.take 61 (.take 62 (.take 63 .nil))))))))))))))))))))))))))))))))))))))))))))))))))))))))))))))))) (by kernel_rfl) (by kernel_rfl) rfl (by kernel_rfl) HU10.out ?_
      generalize w22.drew = w10 at HU10 ⊢
      iterate 5
       (refine wpOU_step (zO rfl) ?_)
       (first
        | (refine wpOU_skip (by rfl) ?_)
        | (refine wpOU_take (v := ?_) (by rfl) ?_ ?_; rotate_left 1; (intro wx hSx; have hc_0 := C0.out wx hSx; have hc_2 := C2.out wx hSx; have hc_4 := C4.out wx hSx; have hc_5 := C5.out wx hSx; go_simp; try with_reducible rfl)))
       (try simp only [Act.put, zA4, zA5, zA6])
      (refine wpOU_solo (zO rfl) ?_)
      intro K hK
      go_simp
      go_at_call 33
      refine (HH1.out w10).mono ?_
      rintro e w11 ⟨rfl, BB⟩
      have HU11 : Hid (Below w1.heap.size w1 w11) := zh (HU10.out.trans (BB.mono HU10.out.size))
      refine hK.out _ _ HU11.out ?_
      clear hK K
      (try simp only [Act.put, zA4, zA5, zA6])
      (refine wpOU_solo (zO rfl) ?_)
      intro K hK
      go_simp
      go_at_call 34
      refine (HRT.out w11).mono ?_
      rintro e w12 ⟨rfl, BD⟩
      have HU12 : Hid (Below w1.heap.size w1 w12) := zh (HU11.out.trans (BD.below.mono HU11.out.size))
      refine hK.out _ _ HU12.out ?_
      clear hK K
      (try simp only [Act.put, zA4, zA5, zA6])
      cases a
      ·cases r
       ·iterate 4
         (refine wpOU_step (zO rfl) ?_)
         (first
          | (refine wpOU_skip (by rfl) ?_)
          | (refine wpOU_take (v := ?_) (by rfl) ?_ ?_; rotate_left 1; (intro wx hSx; have hc_0 := C0.out wx hSx; have hc_2 := C2.out wx hSx; have hc_4 := C4.out wx hSx; have hc_5 := C5.out wx hSx; go_simp; try with_reducible rfl)))
         (try simp only [Act.put, zA4, zA5, zA6])
        (refine wpOU_solo (zO rfl) ?_)
        intro K hK
        go_simp
        go_at_call 33
        refine (HH1.out w12).mono ?_
        rintro e w13 ⟨rfl, BB⟩
        have HU13 : Hid (Below w1.heap.size w1 w13) := zh (HU12.out.trans (BB.mono HU12.out.size))
        refine hK.out _ _ HU13.out ?_
        clear hK K
        (try simp only [Act.put, zA4, zA5, zA6])
        iterate 6
         (refine wpOU_step (zO rfl) ?_)
         (first
          | (refine wpOU_skip (by rfl) ?_)
          | (refine wpOU_take (v := ?_) (by rfl) ?_ ?_; rotate_left 1; (intro wx hSx; have hc_0 := C0.out wx hSx; have hc_2 := C2.out wx hSx; have hc_4 := C4.out wx hSx; have hc_5 := C5.out wx hSx; go_simp; try with_reducible rfl)))
         (try simp only [Act.put, zA4, zA5, zA6])
        generalize hq9 : (!x.n.1.toList.isEmpty) = ne
        clear hq9
        cases ne
        ·iterate 3
             (refine wpOU_step (zO rfl) ?_)
             (first
                | (refine wpOU_skip (by rfl) ?_)
                | (refine wpOU_take (v := ?_) (by rfl) ?_ ?_; rotate_left 1; (intro wx hSx; have hc_0 := C0.out wx hSx; have hc_2 := C2.out wx hSx; have hc_4 := C4.out wx hSx; have hc_5 := C5.out wx hSx; go_simp; try with_reducible rfl)))
             (try simp only [Act.put, zA4, zA5, zA6])
         cases o
         ·iterate 9
           (refine wpOU_step (zO rfl) ?_)
           (first
                 | (refine wpOU_skip (by rfl) ?_)
                 | (refine wpOU_take (v := ?_) (by rfl) ?_ ?_; rotate_left 1; (intro wx hSx; have hc_0 := C0.out wx hSx; have hc_2 := C2.out wx hSx; have hc_4 := C4.out wx hSx; have hc_5 := C5.out wx hSx; go_simp; try with_reducible rfl)))
           (try simp only [Act.put, zA4, zA5, zA6])
          cases s
          ·iterate 20
                (refine wpOU_step (zO rfl) ?_)
                (first
                  | (refine wpOU_skip (by rfl) ?_)
                  | (refine wpOU_take (v := ?_) (by rfl) ?_ ?_; rotate_left 1; (intro wx hSx; have hc_0 := C0.out wx hSx; have hc_2 := C2.out wx hSx; have hc_4 := C4.out wx hSx; have hc_5 := C5.out wx hSx; go_simp; try with_reducible rfl)))
                (try simp only [Act.put, zA4, zA5, zA6])
           by_cases hn0 : n = 0
           ·subst hn0
            have e8 : decide ((0 : Int) < ((0 : Nat) : Int)) = false := rfl
            try simp only [e8]
            iterate 5
                 (refine wpOU_step (zO rfl) ?_)
                 (first
                  | (refine wpOU_skip (by rfl) ?_)
                  | (refine wpOU_take (v := ?_) (by rfl) ?_ ?_; rotate_left 1; (intro wx hSx; have hc_0 := C0.out wx hSx; have hc_2 := C2.out wx hSx; have hc_4 := C4.out wx hSx; have hc_5 := C5.out wx hSx; go_simp; try with_reducible rfl)))
                 (try simp only [Act.put, zA4, zA5, zA6])
            (refine wpOU_solo (zO rfl) ?_)
            intro K hK
            go_simp
            go_at_call 33
            refine (HH2.out w13).mono ?_
            rintro e w14 ⟨rfl, BB⟩
            have HU14 : Hid (Below w1.heap.size w1 w14) := zh (HU13.out.trans (BB.mono HU13.out.size))
            refine hK.out _ _ HU14.out ?_
            clear hK K
            (try simp only [Act.put, zA4, zA5, zA6])
            cases c
            ·iterate 8
                  (refine wpOU_step (zO rfl) ?_)
                  (first
                           | (refine wpOU_skip (by rfl) ?_)
                           | (refine wpOU_take (v := ?_) (by rfl) ?_ ?_; rotate_left 1; (intro wx hSx; have hc_0 := C0.out wx hSx; have hc_2 := C2.out wx hSx; have hc_4 := C4.out wx hSx; have hc_5 := C5.out wx hSx; go_simp; try with_reducible rfl)))
                  (try simp only [Act.put, zA4, zA5, zA6])
             refine wpOU_done ?_
             go_wp2
             go_meet
             case rel => exact ⟨_, rfl, fun _ => ⟨by first | rfl | trivial, fun hs => by first | (exact absurd hs (by decide)) | omega⟩, HU14⟩
            ·iterate 8
                  (refine wpOU_step (zO rfl) ?_)
                  (first
                           | (refine wpOU_skip (by rfl) ?_)
                           | (refine wpOU_take (v := ?_) (by rfl) ?_ ?_; rotate_left 1; (intro wx hSx; have hc_0 := C0.out wx hSx; have hc_2 := C2.out wx hSx; have hc_4 := C4.out wx hSx; have hc_5 := C5.out wx hSx; go_simp; try with_reducible rfl)))
                  (try simp only [Act.put, zA4, zA5, zA6])
             refine wpOU_done ?_
             go_wp2
             go_meet
             case rel => exact ⟨_, rfl, fun _ => ⟨by first | rfl | trivial, fun hs => by first | (exact absurd hs (by decide)) | omega⟩, HU14⟩
           ·have e8 : decide ((0 : Int) < (n : Int)) = true := zE (by omega)
            have e8b : decide (0 < n) = true := zE (by omega)
            have e8c : decide ((n : Int) > 0) = true := zE (by omega)
            try simp only [e8, e8b, e8c]
            iterate 5
                 (refine wpOU_step (zO rfl) ?_)
                 (first
                   | (refine wpOU_skip (by rfl) ?_)
                   | (refine wpOU_take (v := ?_) (by rfl) ?_ ?_; rotate_left 1; (intro wx hSx; have hc_0 := C0.out wx hSx; have hc_2 := C2.out wx hSx; have hc_4 := C4.out wx hSx; have hc_5 := C5.out wx hSx; go_simp; try with_reducible rfl)))
                 (try simp only [Act.put, zA4, zA5, zA6])
            (refine wpOU_solo (zO rfl) ?_)
            intro K hK
            go_simp
            refine hK.out _ _ HU13.out ?_
            clear hK K
            (try simp only [Act.put, zA4, zA5, zA6])
            iterate 8
                 (refine wpOU_step (zO rfl) ?_)
                 (first
                   | (refine wpOU_skip (by rfl) ?_)
                   | (refine wpOU_take (v := ?_) (by rfl) ?_ ?_; rotate_left 1; (intro wx hSx; have hc_0 := C0.out wx hSx; have hc_2 := C2.out wx hSx; have hc_4 := C4.out wx hSx; have hc_5 := C5.out wx hSx; go_simp; try with_reducible rfl)))
                 (try simp only [Act.put, zA4, zA5, zA6])
            refine wpOU_done ?_
            go_wp2
            go_meet
            case rel => exact ⟨_, rfl, (fun h => by cases h), HU13⟩
          ·iterate 6
                (refine wpOU_step (zO rfl) ?_)
                (first
                  | (refine wpOU_skip (by rfl) ?_)
                  | (refine wpOU_take (v := ?_) (by rfl) ?_ ?_; rotate_left 1; (intro wx hSx; have hc_0 := C0.out wx hSx; have hc_2 := C2.out wx hSx; have hc_4 := C4.out wx hSx; have hc_5 := C5.out wx hSx; go_simp; try with_reducible rfl)))
                (try simp only [Act.put, zA4, zA5, zA6])
           by_cases hn0 : n = 0
           ·subst hn0
            have e8 : (((0 : Nat) : Int) == 0) = true := rfl
            try simp only [e8]
            iterate 19
                 (refine wpOU_step (zO rfl) ?_)
                 (first
                  | (refine wpOU_skip (by rfl) ?_)
                  | (refine wpOU_take (v := ?_) (by rfl) ?_ ?_; rotate_left 1; (intro wx hSx; have hc_0 := C0.out wx hSx; have hc_2 := C2.out wx hSx; have hc_4 := C4.out wx hSx; have hc_5 := C5.out wx hSx; go_simp; try with_reducible rfl)))
                 (try simp only [Act.put, zA4, zA5, zA6])
            (refine wpOU_solo (zO rfl) ?_)
            intro K hK
            go_simp
            refine hK.out _ _ HU13.out ?_
            clear hK K
            (try simp only [Act.put, zA4, zA5, zA6])
            iterate 8
                 (refine wpOU_step (zO rfl) ?_)
                 (first
                  | (refine wpOU_skip (by rfl) ?_)
                  | (refine wpOU_take (v := ?_) (by rfl) ?_ ?_; rotate_left 1; (intro wx hSx; have hc_0 := C0.out wx hSx; have hc_2 := C2.out wx hSx; have hc_4 := C4.out wx hSx; have hc_5 := C5.out wx hSx; go_simp; try with_reducible rfl)))
                 (try simp only [Act.put, zA4, zA5, zA6])
            refine wpOU_done ?_
            go_wp2
            go_meet
            case rel => exact ⟨_, rfl, (fun h => by cases h), HU13⟩
           ·have e8 : ((n : Int) == 0) = false := by simp; omega
            try simp only [e8]
            iterate 19
                 (refine wpOU_step (zO rfl) ?_)
                 (first
                   | (refine wpOU_skip (by rfl) ?_)
                   | (refine wpOU_take (v := ?_) (by rfl) ?_ ?_; rotate_left 1; (intro wx hSx; have hc_0 := C0.out wx hSx; have hc_2 := C2.out wx hSx; have hc_4 := C4.out wx hSx; have hc_5 := C5.out wx hSx; go_simp; try with_reducible rfl)))
                 (try simp only [Act.put, zA4, zA5, zA6])
            (refine wpOU_solo (zO rfl) ?_)
            intro K hK
            go_simp
            go_at_call 33
            refine (HH2.out w13).mono ?_
            rintro e w14 ⟨rfl, BB⟩
            have HU14 : Hid (Below w1.heap.size w1 w14) := zh (HU13.out.trans (BB.mono HU13.out.size))
            refine hK.out _ _ HU14.out ?_
            clear hK K
            (try simp only [Act.put, zA4, zA5, zA6])
            cases c
            ·iterate 8
                  (refine wpOU_step (zO rfl) ?_)
                  (first
                    | (refine wpOU_skip (by rfl) ?_)
                    | (refine wpOU_take (v := ?_) (by rfl) ?_ ?_; rotate_left 1; (intro wx hSx; have hc_0 := C0.out wx hSx; have hc_2 := C2.out wx hSx; have hc_4 := C4.out wx hSx; have hc_5 := C5.out wx hSx; go_simp; try with_reducible rfl)))
                  (try simp only [Act.put, zA4, zA5, zA6])
             refine wpOU_done ?_
             go_wp2
             go_meet
             case rel => exact ⟨_, rfl, fun _ => ⟨by first | rfl | trivial, fun hs => by first | (exact absurd hs (by decide)) | omega⟩, HU14⟩
            ·iterate 8
                  (refine wpOU_step (zO rfl) ?_)
                  (first
                    | (refine wpOU_skip (by rfl) ?_)
                    | (refine wpOU_take (v := ?_) (by rfl) ?_ ?_; rotate_left 1; (intro wx hSx; have hc_0 := C0.out wx hSx; have hc_2 := C2.out wx hSx; have hc_4 := C4.out wx hSx; have hc_5 := C5.out wx hSx; go_simp; try with_reducible rfl)))
                  (try simp only [Act.put, zA4, zA5, zA6])
             refine wpOU_done ?_
             go_wp2
             go_meet
             case rel => exact ⟨_, rfl, fun _ => ⟨by first | rfl | trivial, fun hs => by first | (exact absurd hs (by decide)) | omega⟩, HU14⟩
         ·iterate 6
           (refine wpOU_step (zO rfl) ?_)
           (first
                 | (refine wpOU_skip (by rfl) ?_)
                 | (refine wpOU_take (v := ?_) (by rfl) ?_ ?_; rotate_left 1; (intro wx hSx; have hc_0 := C0.out wx hSx; have hc_2 := C2.out wx hSx; have hc_4 := C4.out wx hSx; have hc_5 := C5.out wx hSx; go_simp; try with_reducible rfl)))
           (try simp only [Act.put, zA4, zA5, zA6])
          by_cases hn1 : n = 1
          ·subst hn1
           have e9 : (((1 : Nat) : Int) != 1) = false := rfl
           try simp only [e9]
           iterate 3
                (refine wpOU_step (zO rfl) ?_)
                (first
                 | (refine wpOU_skip (by rfl) ?_)
                 | (refine wpOU_take (v := ?_) (by rfl) ?_ ?_; rotate_left 1; (intro wx hSx; have hc_0 := C0.out wx hSx; have hc_2 := C2.out wx hSx; have hc_4 := C4.out wx hSx; have hc_5 := C5.out wx hSx; go_simp; try with_reducible rfl)))
                (try simp only [Act.put, zA4, zA5, zA6])
           cases s
           ·iterate 25
                 (refine wpOU_step (zO rfl) ?_)
                 (first
                  | (refine wpOU_skip (by rfl) ?_)
                  | (refine wpOU_take (v := ?_) (by rfl) ?_ ?_; rotate_left 1; (intro wx hSx; have hc_0 := C0.out wx hSx; have hc_2 := C2.out wx hSx; have hc_4 := C4.out wx hSx; have hc_5 := C5.out wx hSx; go_simp; try with_reducible rfl)))
                 (try simp only [Act.put, zA4, zA5, zA6])
            (refine wpOU_solo (zO rfl) ?_)
            intro K hK
            go_simp
            go_at_call 33
            refine (HH2.out w13).mono ?_
            rintro e w14 ⟨rfl, BB⟩
            have HU14 : Hid (Below w1.heap.size w1 w14) := zh (HU13.out.trans (BB.mono HU13.out.size))
            refine hK.out _ _ HU14.out ?_
            clear hK K
            (try simp only [Act.put, zA4, zA5, zA6])
            cases c
            ·iterate 8
                 (refine wpOU_step (zO rfl) ?_)
                 (first
                    | (refine wpOU_skip (by rfl) ?_)
                    | (refine wpOU_take (v := ?_) (by rfl) ?_ ?_; rotate_left 1; (intro wx hSx; have hc_0 := C0.out wx hSx; have hc_2 := C2.out wx hSx; have hc_4 := C4.out wx hSx; have hc_5 := C5.out wx hSx; go_simp; try with_reducible rfl)))
                 (try simp only [Act.put, zA4, zA5, zA6])
             refine wpOU_done ?_
             go_wp2
             go_meet
             case rel => exact ⟨_, rfl, fun _ => ⟨by first | rfl | trivial, fun hs => by first | (exact absurd hs (by decide)) | omega⟩, HU14⟩
            ·iterate 8
                 (refine wpOU_step (zO rfl) ?_)
                 (first
                    | (refine wpOU_skip (by rfl) ?_)
                    | (refine wpOU_take (v := ?_) (by rfl) ?_ ?_; rotate_left 1; (intro wx hSx; have hc_0 := C0.out wx hSx; have hc_2 := C2.out wx hSx; have hc_4 := C4.out wx hSx; have hc_5 := C5.out wx hSx; go_simp; try with_reducible rfl)))
                 (try simp only [Act.put, zA4, zA5, zA6])
             refine wpOU_done ?_
             go_wp2
             go_meet
             case rel => exact ⟨_, rfl, fun _ => ⟨by first | rfl | trivial, fun hs => by first | (exact absurd hs (by decide)) | omega⟩, HU14⟩
           ·iterate 6
                 (refine wpOU_step (zO rfl) ?_)
                 (first
                  | (refine wpOU_skip (by rfl) ?_)
                  | (refine wpOU_take (v := ?_) (by rfl) ?_ ?_; rotate_left 1; (intro wx hSx; have hc_0 := C0.out wx hSx; have hc_2 := C2.out wx hSx; have hc_4 := C4.out wx hSx; have hc_5 := C5.out wx hSx; go_simp; try with_reducible rfl)))
                 (try simp only [Act.put, zA4, zA5, zA6])
            have e8 : (((1 : Nat) : Int) == 0) = false := rfl
            try simp only [e8]
            iterate 19
                 (refine wpOU_step (zO rfl) ?_)
                 (first
                  | (refine wpOU_skip (by rfl) ?_)
                  | (refine wpOU_take (v := ?_) (by rfl) ?_ ?_; rotate_left 1; (intro wx hSx; have hc_0 := C0.out wx hSx; have hc_2 := C2.out wx hSx; have hc_4 := C4.out wx hSx; have hc_5 := C5.out wx hSx; go_simp; try with_reducible rfl)))
                 (try simp only [Act.put, zA4, zA5, zA6])
            (refine wpOU_solo (zO rfl) ?_)
            intro K hK
            go_simp
            go_at_call 33
            refine (HH2.out w13).mono ?_
            rintro e w14 ⟨rfl, BB⟩
            have HU14 : Hid (Below w1.heap.size w1 w14) := zh (HU13.out.trans (BB.mono HU13.out.size))
            refine hK.out _ _ HU14.out ?_
            clear hK K
            (try simp only [Act.put, zA4, zA5, zA6])
            cases c
            ·iterate 8
                 (refine wpOU_step (zO rfl) ?_)
                 (first
                    | (refine wpOU_skip (by rfl) ?_)
                    | (refine wpOU_take (v := ?_) (by rfl) ?_ ?_; rotate_left 1; (intro wx hSx; have hc_0 := C0.out wx hSx; have hc_2 := C2.out wx hSx; have hc_4 := C4.out wx hSx; have hc_5 := C5.out wx hSx; go_simp; try with_reducible rfl)))
                 (try simp only [Act.put, zA4, zA5, zA6])
             refine wpOU_done ?_
             go_wp2
             go_meet
             case rel => exact ⟨_, rfl, fun _ => ⟨by first | rfl | trivial, fun hs => by first | (exact absurd hs (by decide)) | omega⟩, HU14⟩
            ·iterate 8
                 (refine wpOU_step (zO rfl) ?_)
                 (first
                    | (refine wpOU_skip (by rfl) ?_)
                    | (refine wpOU_take (v := ?_) (by rfl) ?_ ?_; rotate_left 1; (intro wx hSx; have hc_0 := C0.out wx hSx; have hc_2 := C2.out wx hSx; have hc_4 := C4.out wx hSx; have hc_5 := C5.out wx hSx; go_simp; try with_reducible rfl)))
                 (try simp only [Act.put, zA4, zA5, zA6])
             refine wpOU_done ?_
             go_wp2
             go_meet
             case rel => exact ⟨_, rfl, fun _ => ⟨by first | rfl | trivial, fun hs => by first | (exact absurd hs (by decide)) | omega⟩, HU14⟩
          ·have e9 : ((n : Int) != 1) = true := by simp; omega
           try simp only [e9]
           iterate 28
                (refine wpOU_step (zO rfl) ?_)
                (first
                  | (refine wpOU_skip (by rfl) ?_)
                  | (refine wpOU_take (v := ?_) (by rfl) ?_ ?_; rotate_left 1; (intro wx hSx; have hc_0 := C0.out wx hSx; have hc_2 := C2.out wx hSx; have hc_4 := C4.out wx hSx; have hc_5 := C5.out wx hSx; go_simp; try with_reducible rfl)))
                (try simp only [Act.put, zA4, zA5, zA6])
           (refine wpOU_solo (zO rfl) ?_)
           intro K hK
           go_simp
           refine hK.out _ _ HU13.out ?_
           clear hK K
           (try simp only [Act.put, zA4, zA5, zA6])
           iterate 8
                (refine wpOU_step (zO rfl) ?_)
                (first
                  | (refine wpOU_skip (by rfl) ?_)
                  | (refine wpOU_take (v := ?_) (by rfl) ?_ ?_; rotate_left 1; (intro wx hSx; have hc_0 := C0.out wx hSx; have hc_2 := C2.out wx hSx; have hc_4 := C4.out wx hSx; have hc_5 := C5.out wx hSx; go_simp; try with_reducible rfl)))
                (try simp only [Act.put, zA4, zA5, zA6])
           refine wpOU_done ?_
           go_wp2
           go_meet
           case rel => exact ⟨_, rfl, (fun h => by cases h), HU13⟩
        ·iterate 37
             (refine wpOU_step (zO rfl) ?_)
             (first
                | (refine wpOU_skip (by rfl) ?_)
                | (refine wpOU_take (v := ?_) (by rfl) ?_ ?_; rotate_left 1; (intro wx hSx; have hc_0 := C0.out wx hSx; have hc_2 := C2.out wx hSx; have hc_4 := C4.out wx hSx; have hc_5 := C5.out wx hSx; go_simp; try with_reducible rfl)))
             (try simp only [Act.put, zA4, zA5, zA6])
         (refine wpOU_solo (zO rfl) ?_)
         intro K hK
         go_simp
         refine hK.out _ _ HU13.out ?_
         clear hK K
         (try simp only [Act.put, zA4, zA5, zA6])
         iterate 8
             (refine wpOU_step (zO rfl) ?_)
             (first
                | (refine wpOU_skip (by rfl) ?_)
                | (refine wpOU_take (v := ?_) (by rfl) ?_ ?_; rotate_left 1; (intro wx hSx; have hc_0 := C0.out wx hSx; have hc_2 := C2.out wx hSx; have hc_4 := C4.out wx hSx; have hc_5 := C5.out wx hSx; go_simp; try with_reducible rfl)))
             (try simp only [Act.put, zA4, zA5, zA6])
         refine wpOU_done ?_
         go_wp2
         go_meet
         case rel => exact ⟨_, rfl, (fun h => by cases h), HU13⟩
       ·iterate 4
         (refine wpOU_step (zO rfl) ?_)
         (first
          | (refine wpOU_skip (by rfl) ?_)
          | (refine wpOU_take (v := ?_) (by rfl) ?_ ?_; rotate_left 1; (intro wx hSx; have hc_0 := C0.out wx hSx; have hc_2 := C2.out wx hSx; have hc_4 := C4.out wx hSx; have hc_5 := C5.out wx hSx; go_simp; try with_reducible rfl)))
         (try simp only [Act.put, zA4, zA5, zA6])
        (refine wpOU_solo (zO rfl) ?_)
        intro K hK
        go_simp
        refine hK.out _ _ HU12.out ?_
        clear hK K
        (try simp only [Act.put, zA4, zA5, zA6])
        iterate 43
         (refine wpOU_step (zO rfl) ?_)
         (first
          | (refine wpOU_skip (by rfl) ?_)
          | (refine wpOU_take (v := ?_) (by rfl) ?_ ?_; rotate_left 1; (intro wx hSx; have hc_0 := C0.out wx hSx; have hc_2 := C2.out wx hSx; have hc_4 := C4.out wx hSx; have hc_5 := C5.out wx hSx; go_simp; try with_reducible rfl)))
         (try simp only [Act.put, zA4, zA5, zA6])
        (refine wpOU_solo (zO rfl) ?_)
        intro K hK
        go_simp
        refine hK.out _ _ HU12.out ?_
        clear hK K
        (try simp only [Act.put, zA4, zA5, zA6])
        iterate 8
         (refine wpOU_step (zO rfl) ?_)
         (first
          | (refine wpOU_skip (by rfl) ?_)
          | (refine wpOU_take (v := ?_) (by rfl) ?_ ?_; rotate_left 1; (intro wx hSx; have hc_0 := C0.out wx hSx; have hc_2 := C2.out wx hSx; have hc_4 := C4.out wx hSx; have hc_5 := C5.out wx hSx; go_simp; try with_reducible rfl)))
         (try simp only [Act.put, zA4, zA5, zA6])
        refine wpOU_done ?_
        go_wp2
        go_meet
        case rel => exact ⟨_, rfl, (fun h => by cases h), HU12⟩
      ·cases r
       ·iterate 4
         (refine wpOU_step (zO rfl) ?_)
         (first
          | (refine wpOU_skip (by rfl) ?_)
          | (refine wpOU_take (v := ?_) (by rfl) ?_ ?_; rotate_left 1; (intro wx hSx; have hc_0 := C0.out wx hSx; have hc_2 := C2.out wx hSx; have hc_4 := C4.out wx hSx; have hc_5 := C5.out wx hSx; go_simp; try with_reducible rfl)))
         (try simp only [Act.put, zA4, zA5, zA6])
        (refine wpOU_solo (zO rfl) ?_)
        intro K hK
        go_simp
        refine hK.out _ _ HU12.out ?_
        clear hK K
        (try simp only [Act.put, zA4, zA5, zA6])
        iterate 43
         (refine wpOU_step (zO rfl) ?_)
         (first
          | (refine wpOU_skip (by rfl) ?_)
          | (refine wpOU_take (v := ?_) (by rfl) ?_ ?_; rotate_left 1; (intro wx hSx; have hc_0 := C0.out wx hSx; have hc_2 := C2.out wx hSx; have hc_4 := C4.out wx hSx; have hc_5 := C5.out wx hSx; go_simp; try with_reducible rfl)))
         (try simp only [Act.put, zA4, zA5, zA6])
        (refine wpOU_solo (zO rfl) ?_)
        intro K hK
        go_simp
        refine hK.out _ _ HU12.out ?_
        clear hK K
        (try simp only [Act.put, zA4, zA5, zA6])
        iterate 8
         (refine wpOU_step (zO rfl) ?_)
         (first
          | (refine wpOU_skip (by rfl) ?_)
          | (refine wpOU_take (v := ?_) (by rfl) ?_ ?_; rotate_left 1; (intro wx hSx; have hc_0 := C0.out wx hSx; have hc_2 := C2.out wx hSx; have hc_4 := C4.out wx hSx; have hc_5 := C5.out wx hSx; go_simp; try with_reducible rfl)))
         (try simp only [Act.put, zA4, zA5, zA6])
        refine wpOU_done ?_
        go_wp2
        go_meet
        case rel => exact ⟨_, rfl, (fun h => by cases h), HU12⟩
       ·iterate 4
         (refine wpOU_step (zO rfl) ?_)
         (first
          | (refine wpOU_skip (by rfl) ?_)
          | (refine wpOU_take (v := ?_) (by rfl) ?_ ?_; rotate_left 1; (intro wx hSx; have hc_0 := C0.out wx hSx; have hc_2 := C2.out wx hSx; have hc_4 := C4.out wx hSx; have hc_5 := C5.out wx hSx; go_simp; try with_reducible rfl)))
         (try simp only [Act.put, zA4, zA5, zA6])
        (refine wpOU_solo (zO rfl) ?_)
        intro K hK
        go_simp
        go_at_call 33
        refine (HH1.out w12).mono ?_
        rintro e w13 ⟨rfl, BB⟩
        have HU13 : Hid (Below w1.heap.size w1 w13) := zh (HU12.out.trans (BB.mono HU12.out.size))
        refine hK.out _ _ HU13.out ?_
        clear hK K
        (try simp only [Act.put, zA4, zA5, zA6])
        iterate 9
         (refine wpOU_step (zO rfl) ?_)
         (first
          | (refine wpOU_skip (by rfl) ?_)
          | (refine wpOU_take (v := ?_) (by rfl) ?_ ?_; rotate_left 1; (intro wx hSx; have hc_0 := C0.out wx hSx; have hc_2 := C2.out wx hSx; have hc_4 := C4.out wx hSx; have hc_5 := C5.out wx hSx; go_simp; try with_reducible rfl)))
         (try simp only [Act.put, zA4, zA5, zA6])
        cases o
        ·iterate 9
             (refine wpOU_step (zO rfl) ?_)
             (first
                | (refine wpOU_skip (by rfl) ?_)
                | (refine wpOU_take (v := ?_) (by rfl) ?_ ?_; rotate_left 1; (intro wx hSx; have hc_0 := C0.out wx hSx; have hc_2 := C2.out wx hSx; have hc_4 := C4.out wx hSx; have hc_5 := C5.out wx hSx; go_simp; try with_reducible rfl)))
             (try simp only [Act.put, zA4, zA5, zA6])
         cases s
         ·iterate 20
           (refine wpOU_step (zO rfl) ?_)
           (first
                 | (refine wpOU_skip (by rfl) ?_)
                 | (refine wpOU_take (v := ?_) (by rfl) ?_ ?_; rotate_left 1; (intro wx hSx; have hc_0 := C0.out wx hSx; have hc_2 := C2.out wx hSx; have hc_4 := C4.out wx hSx; have hc_5 := C5.out wx hSx; go_simp; try with_reducible rfl)))
           (try simp only [Act.put, zA4, zA5, zA6])
          by_cases hn0 : n = 0
          ·subst hn0
           have e8 : decide ((0 : Int) < ((0 : Nat) : Int)) = false := rfl
           try simp only [e8]
           iterate 5
                (refine wpOU_step (zO rfl) ?_)
                (first
                 | (refine wpOU_skip (by rfl) ?_)
                 | (refine wpOU_take (v := ?_) (by rfl) ?_ ?_; rotate_left 1; (intro wx hSx; have hc_0 := C0.out wx hSx; have hc_2 := C2.out wx hSx; have hc_4 := C4.out wx hSx; have hc_5 := C5.out wx hSx; go_simp; try with_reducible rfl)))
                (try simp only [Act.put, zA4, zA5, zA6])
           (refine wpOU_solo (zO rfl) ?_)
           intro K hK
           go_simp
           go_at_call 33
           refine (HH2.out w13).mono ?_
           rintro e w14 ⟨rfl, BB⟩
           have HU14 : Hid (Below w1.heap.size w1 w14) := zh (HU13.out.trans (BB.mono HU13.out.size))
           refine hK.out _ _ HU14.out ?_
           clear hK K
           (try simp only [Act.put, zA4, zA5, zA6])
           cases c
           ·iterate 8
                 (refine wpOU_step (zO rfl) ?_)
                 (first
                  | (refine wpOU_skip (by rfl) ?_)
                  | (refine wpOU_take (v := ?_) (by rfl) ?_ ?_; rotate_left 1; (intro wx hSx; have hc_0 := C0.out wx hSx; have hc_2 := C2.out wx hSx; have hc_4 := C4.out wx hSx; have hc_5 := C5.out wx hSx; go_simp; try with_reducible rfl)))
                 (try simp only [Act.put, zA4, zA5, zA6])
            refine wpOU_done ?_
            go_wp2
            go_meet
            case rel => exact ⟨_, rfl, fun _ => ⟨by first | rfl | trivial, fun hs => by first | (exact absurd hs (by decide)) | omega⟩, HU14⟩
           ·iterate 8
                 (refine wpOU_step (zO rfl) ?_)
                 (first
                  | (refine wpOU_skip (by rfl) ?_)
                  | (refine wpOU_take (v := ?_) (by rfl) ?_ ?_; rotate_left 1; (intro wx hSx; have hc_0 := C0.out wx hSx; have hc_2 := C2.out wx hSx; have hc_4 := C4.out wx hSx; have hc_5 := C5.out wx hSx; go_simp; try with_reducible rfl)))
                 (try simp only [Act.put, zA4, zA5, zA6])
            refine wpOU_done ?_
            go_wp2
            go_meet
            case rel => exact ⟨_, rfl, fun _ => ⟨by first | rfl | trivial, fun hs => by first | (exact absurd hs (by decide)) | omega⟩, HU14⟩
          ·have e8 : decide ((0 : Int) < (n : Int)) = true := zE (by omega)
           have e8b : decide (0 < n) = true := zE (by omega)
           have e8c : decide ((n : Int) > 0) = true := zE (by omega)
           try simp only [e8, e8b, e8c]
           iterate 5
                (refine wpOU_step (zO rfl) ?_)
                (first
                  | (refine wpOU_skip (by rfl) ?_)
                  | (refine wpOU_take (v := ?_) (by rfl) ?_ ?_; rotate_left 1; (intro wx hSx; have hc_0 := C0.out wx hSx; have hc_2 := C2.out wx hSx; have hc_4 := C4.out wx hSx; have hc_5 := C5.out wx hSx; go_simp; try with_reducible rfl)))
                (try simp only [Act.put, zA4, zA5, zA6])
           (refine wpOU_solo (zO rfl) ?_)
           intro K hK
           go_simp
           refine hK.out _ _ HU13.out ?_
           clear hK K
           (try simp only [Act.put, zA4, zA5, zA6])
           iterate 8
                (refine wpOU_step (zO rfl) ?_)
                (first
                  | (refine wpOU_skip (by rfl) ?_)
                  | (refine wpOU_take (v := ?_) (by rfl) ?_ ?_; rotate_left 1; (intro wx hSx; have hc_0 := C0.out wx hSx; have hc_2 := C2.out wx hSx; have hc_4 := C4.out wx hSx; have hc_5 := C5.out wx hSx; go_simp; try with_reducible rfl)))
                (try simp only [Act.put, zA4, zA5, zA6])
           refine wpOU_done ?_
           go_wp2
           go_meet
           case rel => exact ⟨_, rfl, (fun h => by cases h), HU13⟩
         ·iterate 6
           (refine wpOU_step (zO rfl) ?_)
           (first
                 | (refine wpOU_skip (by rfl) ?_)
                 | (refine wpOU_take (v := ?_) (by rfl) ?_ ?_; rotate_left 1; (intro wx hSx; have hc_0 := C0.out wx hSx; have hc_2 := C2.out wx hSx; have hc_4 := C4.out wx hSx; have hc_5 := C5.out wx hSx; go_simp; try with_reducible rfl)))
           (try simp only [Act.put, zA4, zA5, zA6])
          by_cases hn0 : n = 0
          ·subst hn0
           have e8 : (((0 : Nat) : Int) == 0) = true := rfl
           try simp only [e8]
           iterate 19
                (refine wpOU_step (zO rfl) ?_)
                (first
                 | (refine wpOU_skip (by rfl) ?_)
                 | (refine wpOU_take (v := ?_) (by rfl) ?_ ?_; rotate_left 1; (intro wx hSx; have hc_0 := C0.out wx hSx; have hc_2 := C2.out wx hSx; have hc_4 := C4.out wx hSx; have hc_5 := C5.out wx hSx; go_simp; try with_reducible rfl)))
                (try simp only [Act.put, zA4, zA5, zA6])
           (refine wpOU_solo (zO rfl) ?_)
           intro K hK
           go_simp
           refine hK.out _ _ HU13.out ?_
           clear hK K
           (try simp only [Act.put, zA4, zA5, zA6])
           iterate 8
                (refine wpOU_step (zO rfl) ?_)
                (first
                 | (refine wpOU_skip (by rfl) ?_)
                 | (refine wpOU_take (v := ?_) (by rfl) ?_ ?_; rotate_left 1; (intro wx hSx; have hc_0 := C0.out wx hSx; have hc_2 := C2.out wx hSx; have hc_4 := C4.out wx hSx; have hc_5 := C5.out wx hSx; go_simp; try with_reducible rfl)))
                (try simp only [Act.put, zA4, zA5, zA6])
           refine wpOU_done ?_
           go_wp2
           go_meet
           case rel => exact ⟨_, rfl, (fun h => by cases h), HU13⟩
          ·have e8 : ((n : Int) == 0) = false := by simp; omega
           try simp only [e8]
           iterate 19
                (refine wpOU_step (zO rfl) ?_)
                (first
                  | (refine wpOU_skip (by rfl) ?_)
                  | (refine wpOU_take (v := ?_) (by rfl) ?_ ?_; rotate_left 1; (intro wx hSx; have hc_0 := C0.out wx hSx; have hc_2 := C2.out wx hSx; have hc_4 := C4.out wx hSx; have hc_5 := C5.out wx hSx; go_simp; try with_reducible rfl)))
                (try simp only [Act.put, zA4, zA5, zA6])
           (refine wpOU_solo (zO rfl) ?_)
           intro K hK
           go_simp
           go_at_call 33
           refine (HH2.out w13).mono ?_
           rintro e w14 ⟨rfl, BB⟩
           have HU14 : Hid (Below w1.heap.size w1 w14) := zh (HU13.out.trans (BB.mono HU13.out.size))
           refine hK.out _ _ HU14.out ?_
           clear hK K
           (try simp only [Act.put, zA4, zA5, zA6])
           cases c
           ·iterate 8
                 (refine wpOU_step (zO rfl) ?_)
                 (first
                   | (refine wpOU_skip (by rfl) ?_)
                   | (refine wpOU_take (v := ?_) (by rfl) ?_ ?_; rotate_left 1; (intro wx hSx; have hc_0 := C0.out wx hSx; have hc_2 := C2.out wx hSx; have hc_4 := C4.out wx hSx; have hc_5 := C5.out wx hSx; go_simp; try with_reducible rfl)))
                 (try simp only [Act.put, zA4, zA5, zA6])
            refine wpOU_done ?_
            go_wp2
            go_meet
            case rel => exact ⟨_, rfl, fun _ => ⟨by first | rfl | trivial, fun hs => by first | (exact absurd hs (by decide)) | omega⟩, HU14⟩
           ·iterate 8
                 (refine wpOU_step (zO rfl) ?_)
                 (first
                   | (refine wpOU_skip (by rfl) ?_)
                   | (refine wpOU_take (v := ?_) (by rfl) ?_ ?_; rotate_left 1; (intro wx hSx; have hc_0 := C0.out wx hSx; have hc_2 := C2.out wx hSx; have hc_4 := C4.out wx hSx; have hc_5 := C5.out wx hSx; go_simp; try with_reducible rfl)))
                 (try simp only [Act.put, zA4, zA5, zA6])
            refine wpOU_done ?_
            go_wp2
            go_meet
            case rel => exact ⟨_, rfl, fun _ => ⟨by first | rfl | trivial, fun hs => by first | (exact absurd hs (by decide)) | omega⟩, HU14⟩
        ·iterate 6
             (refine wpOU_step (zO rfl) ?_)
             (first
                | (refine wpOU_skip (by rfl) ?_)
                | (refine wpOU_take (v := ?_) (by rfl) ?_ ?_; rotate_left 1; (intro wx hSx; have hc_0 := C0.out wx hSx; have hc_2 := C2.out wx hSx; have hc_4 := C4.out wx hSx; have hc_5 := C5.out wx hSx; go_simp; try with_reducible rfl)))
             (try simp only [Act.put, zA4, zA5, zA6])
         by_cases hn1 : n = 1
         ·subst hn1
          have e9 : (((1 : Nat) : Int) != 1) = false := rfl
          try simp only [e9]
          iterate 3
           (refine wpOU_step (zO rfl) ?_)
           (first
                | (refine wpOU_skip (by rfl) ?_)
                | (refine wpOU_take (v := ?_) (by rfl) ?_ ?_; rotate_left 1; (intro wx hSx; have hc_0 := C0.out wx hSx; have hc_2 := C2.out wx hSx; have hc_4 := C4.out wx hSx; have hc_5 := C5.out wx hSx; go_simp; try with_reducible rfl)))
           (try simp only [Act.put, zA4, zA5, zA6])
          cases s
          ·iterate 25
                (refine wpOU_step (zO rfl) ?_)
                (first
                          | (refine wpOU_skip (by rfl) ?_)
                          | (refine wpOU_take (v := ?_) (by rfl) ?_ ?_; rotate_left 1; (intro wx hSx; have hc_0 := C0.out wx hSx; have hc_2 := C2.out wx hSx; have hc_4 := C4.out wx hSx; have hc_5 := C5.out wx hSx; go_simp; try with_reducible rfl)))
                (try simp only [Act.put, zA4, zA5, zA6])
           (refine wpOU_solo (zO rfl) ?_)
           intro K hK
           go_simp
           go_at_call 33
           refine (HH2.out w13).mono ?_
           rintro e w14 ⟨rfl, BB⟩
           have HU14 : Hid (Below w1.heap.size w1 w14) := zh (HU13.out.trans (BB.mono HU13.out.size))
           refine hK.out _ _ HU14.out ?_
           clear hK K
           (try simp only [Act.put, zA4, zA5, zA6])
           cases c
           ·iterate 8
                (refine wpOU_step (zO rfl) ?_)
                (first
                   | (refine wpOU_skip (by rfl) ?_)
                   | (refine wpOU_take (v := ?_) (by rfl) ?_ ?_; rotate_left 1; (intro wx hSx; have hc_0 := C0.out wx hSx; have hc_2 := C2.out wx hSx; have hc_4 := C4.out wx hSx; have hc_5 := C5.out wx hSx; go_simp; try with_reducible rfl)))
                (try simp only [Act.put, zA4, zA5, zA6])
            refine wpOU_done ?_
            go_wp2
            go_meet
            case rel => exact ⟨_, rfl, fun _ => ⟨by first | rfl | trivial, fun hs => by first | (exact absurd hs (by decide)) | omega⟩, HU14⟩
           ·iterate 8
                (refine wpOU_step (zO rfl) ?_)
                (first
                   | (refine wpOU_skip (by rfl) ?_)
                   | (refine wpOU_take (v := ?_) (by rfl) ?_ ?_; rotate_left 1; (intro wx hSx; have hc_0 := C0.out wx hSx; have hc_2 := C2.out wx hSx; have hc_4 := C4.out wx hSx; have hc_5 := C5.out wx hSx; go_simp; try with_reducible rfl)))
                (try simp only [Act.put, zA4, zA5, zA6])
            refine wpOU_done ?_
            go_wp2
            go_meet
            case rel => exact ⟨_, rfl, fun _ => ⟨by first | rfl | trivial, fun hs => by first | (exact absurd hs (by decide)) | omega⟩, HU14⟩
          ·iterate 6
                (refine wpOU_step (zO rfl) ?_)
                (first
                          | (refine wpOU_skip (by rfl) ?_)
                          | (refine wpOU_take (v := ?_) (by rfl) ?_ ?_; rotate_left 1; (intro wx hSx; have hc_0 := C0.out wx hSx; have hc_2 := C2.out wx hSx; have hc_4 := C4.out wx hSx; have hc_5 := C5.out wx hSx; go_simp; try with_reducible rfl)))
                (try simp only [Act.put, zA4, zA5, zA6])
           have e8 : (((1 : Nat) : Int) == 0) = false := rfl
           try simp only [e8]
           iterate 19
                (refine wpOU_step (zO rfl) ?_)
                (first
                          | (refine wpOU_skip (by rfl) ?_)
                          | (refine wpOU_take (v := ?_) (by rfl) ?_ ?_; rotate_left 1; (intro wx hSx; have hc_0 := C0.out wx hSx; have hc_2 := C2.out wx hSx; have hc_4 := C4.out wx hSx; have hc_5 := C5.out wx hSx; go_simp; try with_reducible rfl)))
                (try simp only [Act.put, zA4, zA5, zA6])
           (refine wpOU_solo (zO rfl) ?_)
           intro K hK
           go_simp
           go_at_call 33
           refine (HH2.out w13).mono ?_
           rintro e w14 ⟨rfl, BB⟩
           have HU14 : Hid (Below w1.heap.size w1 w14) := zh (HU13.out.trans (BB.mono HU13.out.size))
           refine hK.out _ _ HU14.out ?_
           clear hK K
           (try simp only [Act.put, zA4, zA5, zA6])
           cases c
           ·iterate 8
                (refine wpOU_step (zO rfl) ?_)
                (first
                   | (refine wpOU_skip (by rfl) ?_)
                   | (refine wpOU_take (v := ?_) (by rfl) ?_ ?_; rotate_left 1; (intro wx hSx; have hc_0 := C0.out wx hSx; have hc_2 := C2.out wx hSx; have hc_4 := C4.out wx hSx; have hc_5 := C5.out wx hSx; go_simp; try with_reducible rfl)))
                (try simp only [Act.put, zA4, zA5, zA6])
            refine wpOU_done ?_
            go_wp2
            go_meet
            case rel => exact ⟨_, rfl, fun _ => ⟨by first | rfl | trivial, fun hs => by first | (exact absurd hs (by decide)) | omega⟩, HU14⟩
           ·iterate 8
                (refine wpOU_step (zO rfl) ?_)
                (first
                   | (refine wpOU_skip (by rfl) ?_)
                   | (refine wpOU_take (v := ?_) (by rfl) ?_ ?_; rotate_left 1; (intro wx hSx; have hc_0 := C0.out wx hSx; have hc_2 := C2.out wx hSx; have hc_4 := C4.out wx hSx; have hc_5 := C5.out wx hSx; go_simp; try with_reducible rfl)))
                (try simp only [Act.put, zA4, zA5, zA6])
            refine wpOU_done ?_
            go_wp2
            go_meet
            case rel => exact ⟨_, rfl, fun _ => ⟨by first | rfl | trivial, fun hs => by first | (exact absurd hs (by decide)) | omega⟩, HU14⟩
         ·have e9 : ((n : Int) != 1) = true := by simp; omega
          try simp only [e9]
          iterate 28
           (refine wpOU_step (zO rfl) ?_)
           (first
                 | (refine wpOU_skip (by rfl) ?_)
                 | (refine wpOU_take (v := ?_) (by rfl) ?_ ?_; rotate_left 1; (intro wx hSx; have hc_0 := C0.out wx hSx; have hc_2 := C2.out wx hSx; have hc_4 := C4.out wx hSx; have hc_5 := C5.out wx hSx; go_simp; try with_reducible rfl)))
           (try simp only [Act.put, zA4, zA5, zA6])
          (refine wpOU_solo (zO rfl) ?_)
          intro K hK
          go_simp
          refine hK.out _ _ HU13.out ?_
          clear hK K
          (try simp only [Act.put, zA4, zA5, zA6])
          iterate 8
           (refine wpOU_step (zO rfl) ?_)
           (first
                 | (refine wpOU_skip (by rfl) ?_)
                 | (refine wpOU_take (v := ?_) (by rfl) ?_ ?_; rotate_left 1; (intro wx hSx; have hc_0 := C0.out wx hSx; have hc_2 := C2.out wx hSx; have hc_4 := C4.out wx hSx; have hc_5 := C5.out wx hSx; go_simp; try with_reducible rfl)))
           (try simp only [Act.put, zA4, zA5, zA6])
          refine wpOU_done ?_
          go_wp2
          go_meet
          case rel => exact ⟨_, rfl, (fun h => by cases h), HU13⟩
     case rest =>
      obtain ⟨b9, rfl, hfa, HW9⟩ := hcut
      cases b9 with
      | true =>
        go_wp2_with fail
        exact HQ.out _ _ ⟨⟨false, rfl, fun h => by cases h⟩, HB.out.trans (HW9.out.mono HB.out.size)⟩
      | false =>
        have HOKAY : Hid (NmOk x) := zh (by
         obtain ⟨h1, h2⟩ := hfa rfl
         intro hd
         have hk7 : 1 ≤ k ∧ k ≤ 7 := by
          unfold dLat dVar at hd
          rw [Bool.or_eq_true, decide_eq_true_eq, decide_eq_true_eq, HK.out] at hd
          omega
         have hkk : ∀ k, k < 16 → 1 ≤ k → k ≤ 7 → hasL k 110 = true ∧ hasL k 119 = true := by decide
         obtain ⟨e1, e2⟩ := hkk k hk16 hk7.1 hk7.2
         have h3 := h2 e2
         refine ⟨h1.symm.trans e1, fun y hy => ?_, by omega⟩
         have h4 := HWS.out
         unfold wsB at h4
         exact List.all_eq_true.1 h4 y hy)
        clear hfa
        have c0 := C0.out _ HW9.out
        generalize hasL k 116 = t at *
        cases t with
        | true =>
          go_upto_region 12 with (go_at_call 33; refine (HHt.out _).mono ?_; rintro e w4 ⟨rfl, hb⟩; have HW4 := zh (HW9.out.trans (hb.mono HW9.out.size)); clear hb)
          clear c0
          go_wp2_with (first | (refine wpList_ldIn ?hg1 _ _ rfl w.heap.size 7 rfl _ _ (HR1.out _ HW4.out) Tryz.underlying32 rfl (by kernel_rfl) ?hn1; case hg1 => (simp [Region.wanted, yielded]; done)) | fail)
          refine ((qis_some (HNL.out _ HW4.out).1).2 _ (zB _ _)).mono ?_
          rintro e w5 ⟨⟨q, rfl⟩, hb⟩
          have HW5 := zh (HW4.out.trans (hb.mono HW4.out.size))
          clear hb
          cases q
          ·go_wp2_with fail
           exact HQ.out _ _ ⟨⟨_, rfl, fun _ => HOKAY.out⟩, HB.out.trans (HW5.out.mono HB.out.size)⟩
          ·go_wp2_with (first | (refine wpList_ldIn ?hg2 _ _ rfl w.heap.size 12 rfl _ _ (HR2.out _ HW5.out) Tryz.underlying32 rfl (by kernel_rfl) ?hn2; case hg2 => (simp [Region.wanted, yielded]; done)) | fail)
           refine ((qis_some (HNL.out _ HW5.out).2).2 _ (zB _ _)).mono ?_
           rintro e w6 ⟨⟨q, rfl⟩, hb⟩
           have HW6 := zh (HW5.out.trans (hb.mono HW5.out.size))
           clear hb
           go_wp2_with fail
           exact HQ.out _ _ ⟨⟨_, rfl, fun _ => HOKAY.out⟩, HB.out.trans (HW6.out.mono HB.out.size)⟩
        | false =>
          go_upto_region 13 with (go_at_call 33; refine (HHt.out _).mono ?_; rintro e w4 ⟨rfl, hb⟩; have HW4 := zh (HW9.out.trans (hb.mono HW9.out.size)); clear hb)
          clear c0
          have c0 := C0.out _ HW4.out
          generalize hasL k 114 = t at *
          cases t with
          | true =>
            go_upto_region 14 with (go_at_call 33; refine (HHr.out _).mono ?_; rintro e w7 ⟨rfl, hb⟩; have HW7 := zh (HW4.out.trans (hb.mono HW4.out.size)); clear hb)
            clear c0
            go_wp2_with (first | (refine wpList_ldIn ?hg3 _ _ rfl w.heap.size 7 rfl _ _ (HR1.out _ HW7.out) Tryz.underlying32 rfl (by kernel_rfl) ?hn3; case hg3 => (simp [Region.wanted, yielded]; done)) | fail)
            refine (qrow_some l _ (HNL.out _ HW7.out).1).mono ?_
            rintro e w5 ⟨⟨q, rfl⟩, hb⟩
            have HW5 := zh (HW7.out.trans (hb.mono HW7.out.size))
            clear hb
            cases q
            ·go_wp2_with fail
             exact HQ.out _ _ ⟨⟨_, rfl, fun _ => HOKAY.out⟩, HB.out.trans (HW5.out.mono HB.out.size)⟩
            ·go_wp2_with (first | (refine wpList_ldIn ?hg4 _ _ rfl w.heap.size 12 rfl _ _ (HR2.out _ HW5.out) Tryz.underlying32 rfl (by kernel_rfl) ?hn4; case hg4 => (simp [Region.wanted, yielded]; done)) | fail)
             refine (qrow_some rr _ (HNL.out _ HW5.out).2).mono ?_
             rintro e w6 ⟨⟨q, rfl⟩, hb⟩
             have HW6 := zh (HW5.out.trans (hb.mono HW5.out.size))
             clear hb
             go_wp2_with fail
             exact HQ.out _ _ ⟨⟨_, rfl, fun _ => HOKAY.out⟩, HB.out.trans (HW6.out.mono HB.out.size)⟩
          | false =>
            go_upto_region 15 with (go_at_call 33; refine (HHr.out _).mono ?_; rintro e w7 ⟨rfl, hb⟩; have HW7 := zh (HW4.out.trans (hb.mono HW4.out.size)); clear hb)
            clear c0
            go_wp2_with (first | (refine wpList_ldIn ?hg5 _ _ rfl w.heap.size 7 rfl _ _ (HR1.out _ HW7.out) Tryz.underlying32 rfl (by kernel_rfl) ?hn5; case hg5 => (simp [Region.wanted, yielded]; done)) | fail)
            refine (qzero_some l _).mono ?_
            rintro e w5 ⟨⟨q, rfl⟩, hb⟩
            have HW5 := zh (HW7.out.trans (hb.mono HW7.out.size))
            clear hb
            cases q
            ·go_wp2_with fail
             exact HQ.out _ _ ⟨⟨_, rfl, fun _ => HOKAY.out⟩, HB.out.trans (HW5.out.mono HB.out.size)⟩
            ·go_wp2_with (first | (refine wpList_ldIn ?hg6 _ _ rfl w.heap.size 12 rfl _ _ (HR2.out _ HW5.out) Tryz.underlying32 rfl (by kernel_rfl) ?hn6; case hg6 => (simp [Region.wanted, yielded]; done)) | fail)
             refine (qzero_some rr _).mono ?_
             rintro e w6 ⟨⟨q, rfl⟩, hb⟩
             have HW6 := zh (HW5.out.trans (hb.mono HW5.out.size))
             clear hb
             go_wp2_with fail
             exact HQ.out _ _ ⟨⟨_, rfl, fun _ => HOKAY.out⟩, HB.out.trans (HW6.out.mono HB.out.size)⟩
end
end Go.Proofs.YteachpfpcceamaaGreatDoor
