/- Texts that all the claims need. Conditions: those that each states. -/

import Derived.Test.YtmffnkfohmbbeaaGreatDoorCg17
set_option linter.unusedSimpArgs false
set_option linter.unusedVariables false
set_option maxRecDepth 100000
set_option maxHeartbeats 40000000
namespace Go.Proofs.YtmffnkfohmbbeaaGreatDoor
section
open Go.RowKit LX TR TM CM
namespace CM
theorem ctext_erc (x : Cm) : ctext (erc x) = ctext x := by
 obtain ⟨op, p, n, A, c, ws, B, d, ps, pp, l, r⟩ := x
 unfold ctext ctx
 congr 2
 unfold erc
 simp only
 have h : ∀ (L : List Nat) (ts us : List Nd), ts.map tx = us.map tx → ptx ⟨op, p, n, none, 0, ws, none, 0, ps, pp, TM.er1 l, TM.er1 r⟩ L ts = ptx ⟨op, p, n, A, c, ws, B, d, ps, pp, l, r⟩ L us := by
  intro L
  induction L with
  | nil => intros; rfl
  | cons k L ih =>
    intro ts us h
    have hh : tx (ts.headD n0) = tx (us.headD n0) := by
        cases ts with
        | nil => cases us with
          | nil => rfl
          | cons u us => cases h
        | cons t ts => cases us with
          | nil => cases h
          | cons u us => exact (List.cons.inj h).1
    have ht : ts.tail.map tx = us.tail.map tx := by rw [List.map_tail, List.map_tail, h]
    have hr : ptx ⟨op, p, n, none, 0, ws, none, 0, ps, pp, TM.er1 l, TM.er1 r⟩ L (if k = 110 ∨ k = 102 ∨ k = 119 ∨ k = 112 then ts else ts.tail) = ptx ⟨op, p, n, A, c, ws, B, d, ps, pp, l, r⟩ L (if k = 110 ∨ k = 102 ∨ k = 119 ∨ k = 112 then us else us.tail) := by
        split
        ·exact ih ts us h
        ·exact ih _ _ ht
    unfold ptx
    rw [hh, hr]
 rw [h _ [TM.er1 l, TM.er1 r] [l, r] (by simp [tx_er])]
theorem riC_erc (x : Cm) : riC (erc x) = riC x := by
 obtain ⟨op, p, n, A, c, ws, B, d, ps, pp, l, r⟩ := x
 unfold riC riL erc
 simp only [fl_er, sm_er]
theorem sm_erR (x y : Nd) : sm x (TM.er1 y) = sm x y := by rw [sm_comm, sm_er, sm_comm]
theorem smC_erc (x y : Cm) : smC (erc x) (erc y) = smC x y := by
 obtain ⟨op, p, n, A, c, ws, B, d, ps, pp, l, r⟩ := x
 obtain ⟨op2, p2, n2, A2, c2, ws2, B2, d2, ps2, pp2, l2, r2⟩ := y
 unfold smC erc
 simp only [sm_er, sm_erR]
theorem st2 (w : World) (x : Cm) (k p : Int) : RowAt ((w.alloc (.cells (cv c0) 30)).alloc (.cells #[.int .i64 0, .int .i64 0] 39)) w.heap.size 30 (cv c0) ∧
 RowAt (((w.alloc (.cells (cv c0) 30)).alloc (.cells #[.int .i64 0, .int .i64 0] 39)).setRow w.heap.size (cv x)) (w.heap.size + 1) 39 #[.int .i64 0, .int .i64 0] ∧
 RowAt ((((w.alloc (.cells (cv c0) 30)).alloc (.cells #[.int .i64 0, .int .i64 0] 39)).setRow w.heap.size (cv x)).setRow (w.heap.size + 1) #[.int .i64 k, .int .i64 p]) w.heap.size 30 (cv x) ∧
 RowAt ((((w.alloc (.cells (cv c0) 30)).alloc (.cells #[.int .i64 0, .int .i64 0] 39)).setRow w.heap.size (cv x)).setRow (w.heap.size + 1) #[.int .i64 k, .int .i64 p]) (w.heap.size + 1) 39 #[.int .i64 k, .int .i64 p] ∧
 Below w.heap.size w ((((w.alloc (.cells (cv c0) 30)).alloc (.cells #[.int .i64 0, .int .i64 0] 39)).setRow w.heap.size (cv x)).setRow (w.heap.size + 1) #[.int .i64 k, .int .i64 p]) := by
 have hn1 := (RowAt.new w 30 (cv c0)).alloc (.cells #[.int .i64 0, .int .i64 0] 39)
 have hn2 := RowAt.new (w.alloc (.cells (cv c0) 30)) 39 #[.int .i64 0, .int .i64 0]
 rw [show (w.alloc (.cells (cv c0) 30)).heap.size = w.heap.size + 1 by simp] at hn2
 have hn3 : RowAt (((w.alloc (.cells (cv c0) 30)).alloc (.cells #[.int .i64 0, .int .i64 0] 39)).setRow w.heap.size (cv x)) (w.heap.size + 1) 39 #[.int .i64 0, .int .i64 0] := (setRow_other _ _ _ _ (by omega)).trans hn2
 exact ⟨hn1, hn3, (setRow_other _ _ _ _ (by omega)).trans (hn1.setRow (cv x)), hn3.setRow #[.int .i64 k, .int .i64 p],
  ((((zB _ _).alloc (zL _) _).alloc (by simp) _).trans (below_setRow (zL _) _)).trans (below_setRow (by omega) _)⟩
end CM
theorem cHidC {P : Program} {F : FuncId} {a : Array Value} {w : World} {Q : Ending → World → Prop} (h : ∀ Q' : Ending → World → Prop, (∀ e w, Q e w → Q' e w) → Calls P F a w Q') : Calls P F a w Q := h Q fun _ _ h => h
theorem commandAgain_any (s : ByteArray) (w : World) (hT : Cmds w) :
 Calls Tryz.prog 5 #[.string s] w fun e w' => e = .returned (.bool true) ∧ Below w.heap.size w w' := by
 have HT := zh hT
 clear hT
 refine cHidC fun Q' hQ => ?_
 have HQ := zh hQ; clear hQ
 by_cases hbig : 1500 < s.size
 ·go_enter Tryz.func5, Tryz.ntmps5
  go_wp2_with fail
  refine (alive12_any _ HT.out).mono ?_
  rintro e w1 ⟨rfl, hb⟩
  have HB := zh hb; clear hb
  go_wp2
  exact HQ.out _ _ ⟨rfl, HB.out⟩
 ·have HP1 : Hid (∀ W, Below w.heap.size w W → Calls Tryz.prog 18 #[.string s] W fun e' w' => ReadC (s.size + 1) s W.heap.size e' W w') := zh fun W hW => cread_any s W (by omega) (HT.out.low hW) (zL _) (by omega)
  have hs2 : s.size ≤ 1000000 := by omega
  have HS1 := zh hbig
  go_enter Tryz.func5, Tryz.ntmps5
  go_wp2_with fail
  refine (HP1.out w (zB _ _)).mono ?_
  rintro e' w1 hrd
  obtain ⟨hb1, x, rfl, hx, hin, hsx, hsw⟩ := readC_out hrd hs2
  clear hrd HP1
  have HB1 := zh hb1
  have HIN1 := zh hin
  have HSX := zh hsx
  clear hb1 hin hsx hsw
  cases hrc : readC (s.size + 1) s with
  | error kp =>
    obtain ⟨k, p⟩ := kp
    obtain ⟨hk, hp0, hps⟩ := FP.readC_bad hrc
    have ho : outC (s.size + 1) s = (c0, k, p) := by unfold outC; rw [hrc]
    rw [ho] at hx ⊢
    have hop : x.op = 0 := congrArg Cm.op hx
    obtain ⟨pn, rfl⟩ := Int.eq_ofNat_of_zero_le hp0
    have hpn : pn ≤ s.size := by omega
    clear ho hx hrc hp0 hps HIN1 HSX hs2 HS1
    dsimp only
    obtain ⟨q1, q2, q3, q4, q5⟩ := st2 w1 x k (pn : Int)
    have HN1 := zh q1
    have HN2 := zh q2
    have HX2 := zh q3
    have HF2 := zh q4
    have HBB := zh q5
    clear q1 q2 q3 q4 q5
    go_upto_region 4 with (first | (refine wpList_store_row rfl _ _ _ rfl w1.heap.size (cv x) rfl rfl _ _ HN1.out (cmd_info _) rfl (by simp [cv, Value.oneCell']) ?_) | (refine wpList_store_row rfl _ _ _ rfl (w1.heap.size + 1) #[.int .i64 k, .int .i64 (pn : Int)] rfl rfl _ _ HN2.out (fault_info _ _) rfl (by simp [Value.oneCell']) ?_))
    clear HN1 HN2
    change Code.wp _ _ _ _ ((((w1.alloc (.cells (cv c0) 30)).alloc (.cells #[.int .i64 0, .int .i64 0] 39)).setRow w1.heap.size (cv x)).setRow (w1.heap.size + 1) #[.int .i64 k, .int .i64 (pn : Int)])
    generalize ((((w1.alloc (.cells (cv c0) 30)).alloc (.cells #[.int .i64 0, .int .i64 0] 39)).setRow w1.heap.size (cv x)).setRow (w1.heap.size + 1) #[.int .i64 k, .int .i64 (pn : Int)]) = w2 at *
    have HB2 := zh (HB1.out.trans (HBB.out.mono HB1.out.size))
    have c0' : w2.cell? ⟨w1.heap.size, 0, none⟩ = some (.int .i64 0) := (HX2.out.cell 0).trans (by rw [← hop]; rfl)
    obtain ⟨f0, f1, _, _⟩ := row2 HF2.out
    have HAL := zh (alive12_any w2 (HT.out.low HB2.out))
    clear HBB HX2 HF2 hop HB1
    rcases hk with rfl | rfl
    ·go_wp2_with (go_at_call 7; refine HAL.out.mono ?_; rintro e w3 ⟨rfl, hb3⟩; have HB3 := zh (HB2.out.trans (hb3.mono HB2.out.size)); clear hb3)
     exact HQ.out _ _ ⟨rfl, HB3.out⟩
    ·go_wp2_with (go_at_call 7; refine HAL.out.mono ?_; rintro e w3 ⟨rfl, hb3⟩; have HB3 := zh (HB2.out.trans (hb3.mono HB2.out.size)); clear hb3)
     exact HQ.out _ _ ⟨rfl, HB3.out⟩
  | ok C =>
    have ho : outC (s.size + 1) s = (C, 0, 0) := by unfold outC; rw [hrc]
    rw [ho] at hx ⊢
    dsimp only at hx ⊢
    obtain ⟨hri, hsz, hag⟩ := read_again hrc
    obtain ⟨y, hry, hsm, htx⟩ := hag ((ctext C).size + 1) (Nat.le_succ _)
    have htc : ctext C = ctext x := by rw [← hx, ctext_erc]
    have hrx : riC x = true := by rw [← riC_erc, hx]; exact hri
    have HTZ : Hid ((ctext x).size ≤ 3 * s.size) := zh (by rw [← htc]; exact hsz)
    have hts : (ctext x).size ≤ 4500 := by have := HTZ.out; have := HS1.out; omega
    rw [htc] at hry htx
    have HP2 : Hid (∀ W, Below w.heap.size w W → Calls Tryz.prog 18 #[.string (ctext x)] W fun e' w' => ReadC ((ctext x).size + 1) (ctext x) W.heap.size e' W w') := zh fun W hW => cread_any (ctext x) W (by omega) (HT.out.low hW) (zL _) (by omega)
    have HTX : Hid (∀ W, Below w1.heap.size w1 W → Calls Tryz.prog 8 #[.agg (cv x)] W fun e w' => e = .returned (.string (ctext x)) ∧ Below W.heap.size W w') := zh fun W hW => ctextP_any x W (HT.out.low (HB1.out.trans (hW.mono HB1.out.size))) ((HIN1.out.below hW).mono hW.size) HSX.out (by rw [← ctext_size]; omega)
    have HRI : Hid (∀ W, Below w1.heap.size w1 W → Calls Tryz.prog 12 #[.agg (cv x)] W fun e w' => e = .returned (.bool true) ∧ Below W.heap.size W w') := zh fun W hW => by
        have := cright_any x W (HT.out.low (HB1.out.trans (hW.mono HB1.out.size))) ((HIN1.out.below hW).mono hW.size) HSX.out
        rw [hrx] at this
        exact this
    have HRY := zh hry
    have HSM := zh hsm
    have HTE := zh htx
    have HHX := zh hx
    have HTS := zh hts
    clear ho hx hrc hs2 hri hsz hag htc hrx hry hsm htx hts
    obtain ⟨q1, q2, q3, q4, q5⟩ := st2 w1 x 0 0
    have HN1 := zh q1
    have HN2 := zh q2
    have HX2 := zh q3
    have HF2 := zh q4
    have HBB := zh q5
    clear q1 q2 q3 q4 q5
    go_upto_region 4 with (first | (refine wpList_store_row rfl _ _ _ rfl w1.heap.size (cv x) rfl rfl _ _ HN1.out (cmd_info _) rfl (by simp [cv, Value.oneCell']) ?_) | (refine wpList_store_row rfl _ _ _ rfl (w1.heap.size + 1) #[.int .i64 0, .int .i64 0] rfl rfl _ _ HN2.out (fault_info _ _) rfl (by simp [Value.oneCell']) ?_))
    clear HN1 HN2
    change Code.wp _ _ _ _ ((((w1.alloc (.cells (cv c0) 30)).alloc (.cells #[.int .i64 0, .int .i64 0] 39)).setRow w1.heap.size (cv x)).setRow (w1.heap.size + 1) #[.int .i64 0, .int .i64 0])
    generalize ((((w1.alloc (.cells (cv c0) 30)).alloc (.cells #[.int .i64 0, .int .i64 0] 39)).setRow w1.heap.size (cv x)).setRow (w1.heap.size + 1) #[.int .i64 0, .int .i64 0]) = w2 at *
    obtain ⟨f0, f1, _, _⟩ := row2 HF2.out
    go_upto_region 6 with fail
    clear f0 f1
    have HTX2 := zh (HTX.out w2 HBB.out)
    generalize htt : ctext x = tt at *
    have HXE := zh htt
    clear htt
    go_upto_region 7 with (first
        | (refine wpList_load_row rfl _ _ rfl w1.heap.size rfl _ _ (0, 0) _ HX2.out Tryz.underlying30 rfl (cmd_info x) ?_)
        | (go_at_call 8; refine HTX2.out.mono ?_; rintro e w3 ⟨rfl, hb3⟩; have HB3 := zh hb3; clear hb3))
    have HB13 := zh (HBB.out.trans (HB3.out.mono HBB.out.size))
    have HB03 := zh (HB1.out.trans (HB13.out.mono HB1.out.size))
    have HX3 := zh (HX2.out.below HB3.out HX2.out.lt)
    have HP3 := zh (HP2.out w3 HB03.out)
    clear HBB HX2 HF2 HTX2 HB3 HP2
    go_wp2_with fail
    refine HP3.out.mono ?_
    rintro e' w4 hrd
    obtain ⟨hb4, z, rfl, hz, hinz, hsz, _⟩ := readC_out hrd (by have := HTS.out; omega)
    have ho : outC (tt.size + 1) tt = (y, 0, 0) := by unfold outC; rw [HRY.out]
    rw [ho] at hz ⊢
    dsimp only at hz ⊢
    have HSXZ : Hid (smC x z = true) := zh (by rw [← smC_erc, HHX.out, hz]; exact HSM.out)
    have HTXZ : Hid (ctext z = tt) := zh (by rw [← ctext_erc, hz]; exact HTE.out)
    have HIZ4 := zh hinz
    have HSZ := zh hsz
    have HB14 := zh (HB13.out.trans (hb4.mono HB13.out.size))
    have HX4 := zh (HX3.out.below hb4 HX3.out.lt)
    clear hrd hb4 hz hinz hsz ho HP3 HX3 HB13 HB03 HRY HSM HTE HHX
    obtain ⟨q1, q2, q3, q4, q5⟩ := st2 w4 z 0 0
    have HN1 := zh q1
    have HN2 := zh q2
    have HZ5 := zh q3
    have HF5 := zh q4
    have HBB := zh q5
    clear q1 q2 q3 q4 q5
    go_upto_region 8 with (first | (refine wpList_store_row rfl _ _ _ rfl w4.heap.size (cv z) rfl rfl _ _ HN1.out (cmd_info _) rfl (by simp [cv, Value.oneCell']) ?_) | (refine wpList_store_row rfl _ _ _ rfl (w4.heap.size + 1) #[.int .i64 0, .int .i64 0] rfl rfl _ _ HN2.out (fault_info _ _) rfl (by simp [Value.oneCell']) ?_))
    clear HN1 HN2
    change Code.wp _ _ _ _ ((((w4.alloc (.cells (cv c0) 30)).alloc (.cells #[.int .i64 0, .int .i64 0] 39)).setRow w4.heap.size (cv z)).setRow (w4.heap.size + 1) #[.int .i64 0, .int .i64 0])
    generalize ((((w4.alloc (.cells (cv c0) 30)).alloc (.cells #[.int .i64 0, .int .i64 0] 39)).setRow w4.heap.size (cv z)).setRow (w4.heap.size + 1) #[.int .i64 0, .int .i64 0]) = w5 at *
    have HB15 := zh (HB14.out.trans (HBB.out.mono HB14.out.size))
    have HB05 := zh (HB1.out.trans (HB15.out.mono HB1.out.size))
    have HX5 := zh (HX4.out.below HBB.out HX4.out.lt)
    have HIX5 := zh ((HIN1.out.below HB15.out).mono HB15.out.size)
    have HIZ5 := zh ((HIZ4.out.below HBB.out).mono HBB.out.size)
    have HRI5 := zh (HRI.out w5 HB15.out)
    have HXf : Hid (∀ W, Below w5.heap.size w5 W → RowAt W w1.heap.size 30 (cv x)) := zh fun W h => HX5.out.below h HX5.out.lt
    have HZf : Hid (∀ W, Below w5.heap.size w5 W → RowAt W w4.heap.size 30 (cv z)) := zh fun W h => HZ5.out.below h HZ5.out.lt
    have HFf : Hid (∀ W, Below w5.heap.size w5 W → RowAt W (w4.heap.size + 1) 39 #[.int .i64 0, .int .i64 0]) := zh fun W h => HF5.out.below h HF5.out.lt
    have HSA : Hid (∀ W, Below w5.heap.size w5 W → Calls Tryz.prog 10 #[.agg (cv x), .agg (cv z)] W fun e w' => e = .returned (.bool true) ∧ Below W.heap.size W w') := zh fun W h => by
        have := csame_any x z W ((HIX5.out.below h).mono h.size) ((HIZ5.out.below h).mono h.size) HSX.out
        rw [HSXZ.out] at this
        exact this
    have HTZ2 : Hid (∀ W, Below w5.heap.size w5 W → Calls Tryz.prog 8 #[.agg (cv z)] W fun e w' => e = .returned (.string tt) ∧ Below W.heap.size W w') := zh fun W h => by
        have := ctextP_any z W (HT.out.low (HB05.out.trans (h.mono HB05.out.size))) ((HIZ5.out.below h).mono h.size) HSZ.out (by rw [← ctext_size, HTXZ.out]; have := HTS.out; omega)
        rw [HTXZ.out] at this
        exact this
    have HAL : Hid (∀ W, Below w5.heap.size w5 W → Calls Tryz.prog 7 #[] W fun e w' => e = .returned (.bool true) ∧ Below W.heap.size W w') := zh fun W h => alive12_any W (HT.out.low (HB05.out.trans (h.mono HB05.out.size)))
    have hz3 : IntKind.i64.wrap (3 * (s.size : Int)) = ((3 * s.size : Nat) : Int) := by
        have := HS1.out
        rw [IntKind.wrap_i64]
        omega
    have hle := HTZ.out
    clear HX4 HBB HB14 HB15 HIX5 HIZ5 HIZ4 HIN1 HRI HF5 HZ5 HSX HSZ HSXZ HTXZ HTZ HTS HB1 HT HXE HTX HS1
    generalize 3 * s.size = z3 at *
    generalize w1.heap.size = g1 at *
    generalize w4.heap.size = g4 at *
    go_wp2_with (first
        | (refine wpList_load_rowW (by rfl) _ _ rfl g1 rfl _ _ _ HX5.out Tryz.underlying30 rfl (cmd_info x) ?_)
        | (go_at_call 12; refine HRI5.out.mono ?_; rintro e w6 ⟨rfl, hb6⟩; have HB6 := zh hb6; have HX6 := zh (HXf.out w6 hb6); have HZ6 := zh (HZf.out w6 hb6); obtain ⟨f0, f1, _, _⟩ := row2 (HFf.out w6 hb6); have HSA6 := zh (HSA.out w6 hb6); clear hb6 HX5)
        | (refine wpList_load_rowW (by first | rfl | kernel_rfl) _ _ rfl g1 rfl _ _ _ HX6.out Tryz.underlying30 rfl (cmd_info x) ?_)
        | (refine wpList_load_rowW (by first | rfl | kernel_rfl) _ _ rfl g4 rfl _ _ _ HZ6.out Tryz.underlying30 rfl (cmd_info z) ?_)
        | (go_at_call 10; refine HSA6.out.mono ?_; rintro e w7 ⟨rfl, hb7⟩; have HB7 := zh (HB6.out.trans (hb7.mono HB6.out.size)); have HZ7 := zh (HZf.out w7 HB7.out); have HTZ7 := zh (HTZ2.out w7 HB7.out); clear hb7 HX6 HZ6 f0 f1)
        | (refine wpList_load_rowW (by first | rfl | kernel_rfl) _ _ rfl g4 rfl _ _ _ HZ7.out Tryz.underlying30 rfl (cmd_info z) ?_)
        | (go_at_call 8; refine HTZ7.out.mono ?_; rintro e w8 ⟨rfl, hb8⟩; have HB8 := zh (HB7.out.trans (hb8.mono HB7.out.size)); have HAL8 := zh (HAL.out w8 HB8.out); clear hb8)
        | (go_at_call 7; refine HAL8.out.mono ?_; rintro e w9 ⟨rfl, hb9⟩; have HB9 := zh (HB8.out.trans (hb9.mono HB8.out.size)); clear hb9))
    exact HQ.out _ _ ⟨rfl, HB05.out.trans (HB9.out.mono HB05.out.size)⟩
end
end Go.Proofs.YtmffnkfohmbbeaaGreatDoor
