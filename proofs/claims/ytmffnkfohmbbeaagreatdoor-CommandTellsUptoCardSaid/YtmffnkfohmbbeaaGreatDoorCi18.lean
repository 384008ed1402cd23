/- Texts that all the claims need. Conditions: those that each states. -/

import Derived.Test.YtmffnkfohmbbeaaGreatDoorCi10
set_option linter.unusedSimpArgs false
set_option linter.unusedVariables false
set_option maxRecDepth 100000
set_option maxHeartbeats 40000000
namespace Go.Proofs.YtmffnkfohmbbeaaGreatDoor
section
open Go.RowKit LX TR TM
theorem lst_arr (l : List UInt8) : lst ⟨l.toArray⟩ = l := by simp [lst]
theorem lst_size (s : ByteArray) {l : List UInt8} (h : lst s = l) : s.size = l.length := by rw [← h, lst_length]
theorem list10W_any (A : Option Addr) (c : Nat) (ws : List Wd) (w : World) (hA : Sl w w.heap.size A (wcs ws)) (hn : ws.length ≤ 1099511627776) (hl : (jc (wtx ws)).length ≤ 140737488355328) :
 Calls Tryz.prog 58 #[.slice none 0 0, .slice A ws.length c] w fun e w' => (∃ s : ByteArray, e = .returned (.string s) ∧ lst s = jc (wtx ws)) ∧ w = w' := by
 have HA := zh hA; clear hA
 have hwl : (wtx ws).length = ws.length := by simp [wtx]
 have HT : Hid (∀ i, i < ws.length → jc ((wtx ws).take (i + 1)) = jc ((wtx ws).take i) ++ (if 0 < i then 44 :: lst (ws.getD i w0).s else lst (ws.getD i w0).s)) := fun i hi => by
  rw [jc_take (by rw [hwl]; exact hi)]
  have e : (wtx ws).getD i [] = lst (ws.getD i w0).s := by
   rw [List.getD_eq_getElem?_getD, List.getD_eq_getElem?_getD, List.getElem?_eq_getElem (by rw [hwl]; exact hi), List.getElem?_eq_getElem hi]
   simp [wtx]
  rw [e]
 have HLE : Hid (∀ i, (jc ((wtx ws).take i)).length ≤ 140737488355328) := fun i => zM (jc_le _ i) hl
 have HE : Hid (jc ((wtx ws).take ws.length) = jc (wtx ws)) := by show _ = _; rw [← hwl, List.take_length]
 generalize hj : jc (wtx ws) = J at *
 clear hj hwl
 generalize hm : ws.length = n at *
 have HN := zh hm; clear hm
 go_enter Tryz.func58, Tryz.ntmps58
 go_wp2_with fail
 go_loop [5, 6] (fun sv iv => iv = .int .i64 0 ∧ sv = .string ⟨#[]⟩) (fun _ _ => 0)
 case atStart => exact ⟨rfl, rfl⟩
 case round =>
  obtain ⟨rfl, rfl⟩ := hrel
  go_wp2_with fail
  go_loop [5, 7] (fun sv iv => ∃ (i : Nat) (x : ByteArray), i ≤ n ∧ iv = .int .i64 i ∧ sv = .string x ∧ Hid (lst x = jc ((wtx ws).take i))) (fun _ iv => n - (intOf iv).toNat)
  case atStart => exact ⟨0, _, by omega, rfl, rfl, by show lst _ = _; simp [jc, lst]⟩
  case round =>
   obtain ⟨i, x, hi, rfl, rfl, HX⟩ := hrel
   by_cases hlt : i < n
   ·obtain ⟨b1, o1, rfl, _, hc1⟩ := sl_at (z := w0) wcells_length HA.out (k := i) (by rw [HN.out]; exact hlt) (by omega)
    have p0 := hc1 i 0 _ (by rw [HN.out]; exact hlt) (by omega) rfl
    rw [Nat.add_zero] at p0
    have hin : (i : Int) < (n : Int) := by omega
    have HTI := zh (HT.out i hlt)
    have HLI := zh (HLE.out (i + 1))
    rw [HTI.out, ← HX.out] at HLI
    have hxs : x.size ≤ 140737488355328 := by rw [lst_size x HX.out]; exact HLE.out i
    clear hc1
    generalize (ws.getD i w0) = y at *
    obtain ⟨s, f⟩ := y
    simp only at p0 HTI HLI
    by_cases h0 : 0 < i
    ·rw [if_pos h0] at HTI HLI
     have hs2 : x.size + 1 + s.size ≤ 140737488355328 := by
      have h9 := HLI.out
      rw [zA7, zA8, lst_length, lst_length] at h9
      omega
     have hs1 : (x ++ (⟨#[44]⟩ : ByteArray)).size = x.size + 1 := by rw [ByteArray.size_append]; rfl
     have h0i : (0 : Int) < (i : Int) := by omega
     have HF : Hid (lst (x ++ ⟨#[44]⟩ ++ s) = jc ((wtx ws).take (i + 1))) := by
      show _ = _
      rw [HTI.out, lst_app, lst_app, HX.out, lst_one]; simp
     clear HTI HLI
     go_wp2_with fail
     go_round
     case rel => exact ⟨i + 1, _, by omega, by go_num, rfl, HF⟩
     case measure => simp [intOf]; omega
    ·obtain rfl : i = 0 := by omega
     rw [if_neg h0] at HTI HLI
     have hs2 : x.size + s.size ≤ 140737488355328 := by
      have h9 := HLI.out
      rw [zA7, lst_length, lst_length] at h9
      omega
     have HF : Hid (lst (x ++ s) = jc ((wtx ws).take (0 + 1))) := by
      show _ = _
      rw [HTI.out, lst_app, HX.out]
     simp only [Nat.zero_mul, Nat.add_zero] at p0
     clear HTI HLI
     go_wp2_with fail
     go_round
     case rel => exact ⟨1, _, by omega, rfl, rfl, HF⟩
     case measure => simp [intOf]; omega
   ·obtain rfl : i = n := by omega
    rw [HE.out] at HX
    go_wp2_with fail
    go_ret
    exact ⟨⟨_, rfl, HX.out⟩, rfl⟩
end
section
open Go.RowKit LX TR TM
theorem list10N_any (A : Option Addr) (c : Nat) (zs : List Nd) (w : World) (hA : Sl w w.heap.size A (ncs zs)) (hn : zs.length ≤ 1099511627776) (hl : (jc (txs zs)).length ≤ 140737488355328)
 (hF : ∀ z ∈ zs, ∀ W, Below w.heap.size w W → (tx z).length ≤ 140737488355328 → Calls Tryz.prog 30 #[.agg (nv z)] W fun e w' => (∃ s : ByteArray, e = .returned (.string s) ∧ lst s = tx z) ∧ Below W.heap.size W w') :
 Calls Tryz.prog 58 #[.slice A zs.length c, .slice none 0 0] w fun e w' => (∃ s : ByteArray, e = .returned (.string s) ∧ lst s = jc (txs zs)) ∧ Below w.heap.size w w' := by
 have HA := zh hA; clear hA
 have hwl : (txs zs).length = zs.length := txs_length zs
 have HT : Hid (∀ i, i < zs.length → jc ((txs zs).take (i + 1)) = jc ((txs zs).take i) ++ (if 0 < i then 44 :: tx (zs.getD i n0) else tx (zs.getD i n0))) := fun i hi => by
  rw [jc_take (by rw [hwl]; exact hi)]
  have e : (txs zs).getD i [] = tx (zs.getD i n0) := by
   rw [List.getD_eq_getElem?_getD, List.getD_eq_getElem?_getD, List.getElem?_eq_getElem (by rw [hwl]; exact hi), List.getElem?_eq_getElem hi]
   simp [txs_map]
  rw [e]
 have HLE : Hid (∀ i, (jc ((txs zs).take i)).length ≤ 140737488355328) := fun i => zM (jc_le _ i) hl
 have HE : Hid (jc ((txs zs).take zs.length) = jc (txs zs)) := by show _ = _; rw [← hwl, List.take_length]
 have HC : Hid (∀ i, i < zs.length → ∀ W, Below w.heap.size w W → (tx (zs.getD i n0)).length ≤ 140737488355328 → Calls Tryz.prog 30 #[.agg (nv (zs.getD i n0))] W fun e w' => (∃ s : ByteArray, e = .returned (.string s) ∧ lst s = tx (zs.getD i n0)) ∧ Below W.heap.size W w') := fun i hi => hF _ (getD_memL hi)
 generalize hj : jc (txs zs) = J at *
 clear hj hwl hF
 generalize hm : zs.length = n at *
 have HN := zh hm; clear hm
 go_enter Tryz.func58, Tryz.ntmps58
 go_wp2_with fail
 go_loopw [5, 6] (fun sv iv wr => ∃ (i : Nat) (x : ByteArray), i ≤ n ∧ iv = .int .i64 i ∧ sv = .string x ∧ Hid (lst x = jc ((txs zs).take i)) ∧ Hid (Below w.heap.size w wr)) (fun _ iv _ => n - (intOf iv).toNat)
 case atStart => exact ⟨0, _, by omega, rfl, rfl, by show lst _ = _; simp [jc, lst], zB _ _⟩
 case round =>
  obtain ⟨i, x, hi, rfl, rfl, HX, HW⟩ := hrel
  by_cases hlt : i < n
  ·obtain ⟨bb, o, rfl, _, hc⟩ := sl_at (z := n0) ncells_length (HA.out.below HW.out) (k := i) (by rw [HN.out]; exact hlt) (by omega)
   have q0 := hc i 0 _ (by rw [HN.out]; exact hlt) (by omega) rfl
   have q1 := hc i 1 _ (by rw [HN.out]; exact hlt) (by omega) rfl
   have q2 := hc i 2 _ (by rw [HN.out]; exact hlt) (by omega) rfl
   have q3 := hc i 3 _ (by rw [HN.out]; exact hlt) (by omega) rfl
   have q4 := hc i 4 _ (by rw [HN.out]; exact hlt) (by omega) rfl
   rw [Nat.add_zero] at q0
   rw [← Nat.add_assoc] at q1 q2 q3 q4
   have hin : (i : Int) < (n : Int) := by omega
   have HTI := zh (HT.out i hlt)
   have HLI := zh (HLE.out (i + 1))
   rw [HTI.out, ← HX.out] at HLI
   have hxs : x.size ≤ 140737488355328 := by rw [lst_size x HX.out]; exact HLE.out i
   have htl : (tx (zs.getD i n0)).length ≤ 140737488355328 := by
        have h9 := HLI.out
        rw [zA7] at h9
        split at h9
        ·rw [zA8] at h9; omega
        ·omega
   have HCC := zh (HC.out i hlt wr HW.out htl)
   clear hc htl
   generalize tx (zs.getD i n0) = T at *
   generalize (zs.getD i n0) = z at *
   obtain ⟨zk, zp, zs9, zA, zc, zw, zBq, zd, zz⟩ := z
   unfold nv at HCC
   simp only [Nd.k, Nd.p, Nd.s, Nd.A, Nd.c, Nd.ws, Nd.B, Nd.d, Nd.ks] at q0 q1 q2 q3 q4 HCC
   by_cases h0 : 0 < i
   ·rw [if_pos h0] at HTI HLI
    have hs1 : (x ++ (⟨#[44]⟩ : ByteArray)).size = x.size + 1 := by rw [ByteArray.size_append]; rfl
    have hs3 : x.size + 1 ≤ 140737488355328 := by
     have h9 := HLI.out
     rw [zA7, zA8, lst_length] at h9
     omega
    have h0i : (0 : Int) < (i : Int) := by omega
    go_wp2_with fail
    refine HCC.out.mono ?_
    rintro e w4 ⟨⟨s, rfl, hs⟩, hb⟩
    have HW4 := zh (HW.out.trans (hb.mono HW.out.size))
    have hs2 : x.size + 1 + s.size ≤ 140737488355328 := by
     have h9 := HLI.out
     rw [zA7, zA8, lst_length, ← hs, lst_length] at h9
     omega
    have HF : Hid (lst (x ++ ⟨#[44]⟩ ++ s) = jc ((txs zs).take (i + 1))) := by
     show _ = _
     rw [HTI.out, lst_app, lst_app, HX.out, lst_one, hs]; simp
    clear HTI HLI hb hs
    go_wp2_with fail
    go_roundw
    case rel => exact ⟨i + 1, _, by omega, by go_num, rfl, HF, HW4⟩
    case measure => simp [intOf]; omega
   ·obtain rfl : i = 0 := by omega
    rw [if_neg h0] at HTI HLI
    simp only [Nat.zero_mul, Nat.add_zero] at q0 q1 q2 q3 q4
    go_wp2_with fail
    refine HCC.out.mono ?_
    rintro e w4 ⟨⟨s, rfl, hs⟩, hb⟩
    have HW4 := zh (HW.out.trans (hb.mono HW.out.size))
    have hs2 : x.size + s.size ≤ 140737488355328 := by
     have h9 := HLI.out
     rw [zA7, lst_length, ← hs, lst_length] at h9
     omega
    have HF : Hid (lst (x ++ s) = jc ((txs zs).take (0 + 1))) := by
     show _ = _
     rw [HTI.out, lst_app, HX.out, hs]
    clear HTI HLI hb hs
    go_wp2_with fail
    go_roundw
    case rel => exact ⟨1, _, by omega, rfl, rfl, HF, HW4⟩
    case measure => simp [intOf]; omega
  ·obtain rfl : i = n := by omega
   rw [HE.out] at HX
   go_wp2_with fail
   obtain ⟨wo, hwo⟩ : ∃ wo : World, wo = wr := ⟨_, rfl⟩
   subst hwo
   go_loopw [5, 7] (fun sv iv wr => iv = .int .i64 0 ∧ sv = .string x ∧ wr = wo) (fun _ _ _ => 0)
   case atStart => exact ⟨rfl, rfl, rfl⟩
   case round =>
        obtain ⟨rfl, rfl, rfl⟩ := hrel
        go_wp2_with fail
        go_ret
        exact ⟨⟨_, rfl, HX.out⟩, HW.out⟩
end
section
open Go.RowKit LX TR TM
theorem text10_1 (zp : Int) (zs : ByteArray) (zA : Option Addr) (zc : Nat) (zw : List Wd) (zBq : Option Addr) (zd : Nat) (zz : List Nd) (w : World)  :
 Calls Tryz.prog 30 #[.agg #[.int .i64 1, .int .i64 zp, .string zs, .slice zA zw.length zc, .slice zBq zz.length zd]] w fun e w' => (∃ s : ByteArray, e = .returned (.string s) ∧ lst s = lst zs) ∧ Below w.heap.size w w' := by
 have hn := RowAt.new w 28 #[.int .i64 1, .int .i64 zp, .string zs, .slice zA zw.length zc, .slice zBq zz.length zd]
 have hB : Below w.heap.size w (w.alloc (.cells #[.int .i64 1, .int .i64 zp, .string zs, .slice zA zw.length zc, .slice zBq zz.length zd] 28)) := (zB _ _).alloc (zL _) _
 have HB := zh hB
 obtain ⟨m0, m1, m2, m3, m4, _, _, _, _, _⟩ := row5 hn
 clear hn hB
 generalize zw.length = nw at *
 generalize zz.length = nz at *
 go_enter Tryz.func30, Tryz.ntmps30
 go_wp2_with fail
 go_ret
 exact ⟨⟨_, rfl, rfl⟩, HB.out⟩
theorem text10_2 (zp : Int) (zs : ByteArray) (zA : Option Addr) (zc : Nat) (zw : List Wd) (zBq : Option Addr) (zd : Nat) (zz : List Nd) (w : World)  :
 Calls Tryz.prog 30 #[.agg #[.int .i64 2, .int .i64 zp, .string zs, .slice zA zw.length zc, .slice zBq zz.length zd]] w fun e w' => (∃ s : ByteArray, e = .returned (.string s) ∧ lst s = lst zs) ∧ Below w.heap.size w w' := by
 have hn := RowAt.new w 28 #[.int .i64 2, .int .i64 zp, .string zs, .slice zA zw.length zc, .slice zBq zz.length zd]
 have hB : Below w.heap.size w (w.alloc (.cells #[.int .i64 2, .int .i64 zp, .string zs, .slice zA zw.length zc, .slice zBq zz.length zd] 28)) := (zB _ _).alloc (zL _) _
 have HB := zh hB
 obtain ⟨m0, m1, m2, m3, m4, _, _, _, _, _⟩ := row5 hn
 clear hn hB
 generalize zw.length = nw at *
 generalize zz.length = nz at *
 go_enter Tryz.func30, Tryz.ntmps30
 go_wp2_with fail
 go_ret
 exact ⟨⟨_, rfl, rfl⟩, HB.out⟩
theorem text10_4 (zp : Int) (zs : ByteArray) (zA : Option Addr) (zc : Nat) (zw : List Wd) (zBq : Option Addr) (zd : Nat) (zz : List Nd) (w : World) (hl : (jc (txs zz)).length ≤ 140737488355000) (hL : ∀ W, Below w.heap.size w W → Calls Tryz.prog 58 #[.slice zBq zz.length zd, .slice none 0 0] W fun e w' => (∃ s : ByteArray, e = .returned (.string s) ∧ lst s = jc (txs zz)) ∧ Below W.heap.size W w') :
 Calls Tryz.prog 30 #[.agg #[.int .i64 4, .int .i64 zp, .string zs, .slice zA zw.length zc, .slice zBq zz.length zd]] w fun e w' => (∃ s : ByteArray, e = .returned (.string s) ∧ lst s = 40 :: (jc (txs zz) ++ [41])) ∧ Below w.heap.size w w' := by
 have hn := RowAt.new w 28 #[.int .i64 4, .int .i64 zp, .string zs, .slice zA zw.length zc, .slice zBq zz.length zd]
 have hB : Below w.heap.size w (w.alloc (.cells #[.int .i64 4, .int .i64 zp, .string zs, .slice zA zw.length zc, .slice zBq zz.length zd] 28)) := (zB _ _).alloc (zL _) _
 have HB := zh hB
 obtain ⟨m0, m1, m2, m3, m4, _, _, _, _, _⟩ := row5 hn
 clear hn hB
 have HL := zh (hL _ HB.out)
 clear hL
 generalize jc (txs zz) = J at *
 generalize zw.length = nw at *
 generalize zz.length = nz at *
 go_enter Tryz.func30, Tryz.ntmps30
 go_wp2_with fail
 refine HL.out.mono ?_
 rintro e w4 ⟨⟨s, rfl, hs⟩, hb⟩
 have HB4 := zh (HB.out.trans (hb.mono HB.out.size))
 have hsz : s.size ≤ 140737488355000 := by rw [lst_size s hs]; exact hl
 have h1 : ((⟨#[40]⟩ : ByteArray) ++ s).size = 1 + s.size := by rw [ByteArray.size_append]; rfl
 have HF : Hid (lst (⟨#[40]⟩ ++ s ++ ⟨#[41]⟩) = 40 :: (J ++ [41])) := by
  show _ = _
  rw [lst_app, lst_app, hs]
  rfl
 clear hb hs
 go_wp2_with fail
 go_ret
 exact ⟨⟨_, rfl, HF.out⟩, HB4.out⟩
theorem text10_5 (zp : Int) (zs : ByteArray) (zA : Option Addr) (zc : Nat) (zw : List Wd) (zBq : Option Addr) (zd : Nat) (zz : List Nd) (w : World) (hl : (jc (txs zz)).length ≤ 140737488355000) (hL : ∀ W, Below w.heap.size w W → Calls Tryz.prog 58 #[.slice zBq zz.length zd, .slice none 0 0] W fun e w' => (∃ s : ByteArray, e = .returned (.string s) ∧ lst s = jc (txs zz)) ∧ Below W.heap.size W w') :
 Calls Tryz.prog 30 #[.agg #[.int .i64 5, .int .i64 zp, .string zs, .slice zA zw.length zc, .slice zBq zz.length zd]] w fun e w' => (∃ s : ByteArray, e = .returned (.string s) ∧ lst s = 91 :: (jc (txs zz) ++ [93])) ∧ Below w.heap.size w w' := by
 have hn := RowAt.new w 28 #[.int .i64 5, .int .i64 zp, .string zs, .slice zA zw.length zc, .slice zBq zz.length zd]
 have hB : Below w.heap.size w (w.alloc (.cells #[.int .i64 5, .int .i64 zp, .string zs, .slice zA zw.length zc, .slice zBq zz.length zd] 28)) := (zB _ _).alloc (zL _) _
 have HB := zh hB
 obtain ⟨m0, m1, m2, m3, m4, _, _, _, _, _⟩ := row5 hn
 clear hn hB
 have HL := zh (hL _ HB.out)
 clear hL
 generalize jc (txs zz) = J at *
 generalize zw.length = nw at *
 generalize zz.length = nz at *
 go_enter Tryz.func30, Tryz.ntmps30
 go_wp2_with fail
 refine HL.out.mono ?_
 rintro e w4 ⟨⟨s, rfl, hs⟩, hb⟩
 have HB4 := zh (HB.out.trans (hb.mono HB.out.size))
 have hsz : s.size ≤ 140737488355000 := by rw [lst_size s hs]; exact hl
 have h1 : ((⟨#[91]⟩ : ByteArray) ++ s).size = 1 + s.size := by rw [ByteArray.size_append]; rfl
 have HF : Hid (lst (⟨#[91]⟩ ++ s ++ ⟨#[93]⟩) = 91 :: (J ++ [93])) := by
  show _ = _
  rw [lst_app, lst_app, hs]
  rfl
 clear hb hs
 go_wp2_with fail
 go_ret
 exact ⟨⟨_, rfl, HF.out⟩, HB4.out⟩
theorem text10_8 (zp : Int) (zs : ByteArray) (zA : Option Addr) (zc : Nat) (zw : List Wd) (zBq : Option Addr) (zd : Nat) (zz : List Nd) (w : World) (hl : (jc (txs zz)).length ≤ 140737488355000) (hL : ∀ W, Below w.heap.size w W → Calls Tryz.prog 58 #[.slice zBq zz.length zd, .slice none 0 0] W fun e w' => (∃ s : ByteArray, e = .returned (.string s) ∧ lst s = jc (txs zz)) ∧ Below W.heap.size W w') :
 Calls Tryz.prog 30 #[.agg #[.int .i64 8, .int .i64 zp, .string zs, .slice zA zw.length zc, .slice zBq zz.length zd]] w fun e w' => (∃ s : ByteArray, e = .returned (.string s) ∧ lst s = 43 :: 40 :: (jc (txs zz) ++ [41])) ∧ Below w.heap.size w w' := by
 have hn := RowAt.new w 28 #[.int .i64 8, .int .i64 zp, .string zs, .slice zA zw.length zc, .slice zBq zz.length zd]
 have hB : Below w.heap.size w (w.alloc (.cells #[.int .i64 8, .int .i64 zp, .string zs, .slice zA zw.length zc, .slice zBq zz.length zd] 28)) := (zB _ _).alloc (zL _) _
 have HB := zh hB
 obtain ⟨m0, m1, m2, m3, m4, _, _, _, _, _⟩ := row5 hn
 clear hn hB
 have HL := zh (hL _ HB.out)
 clear hL
 generalize jc (txs zz) = J at *
 generalize zw.length = nw at *
 generalize zz.length = nz at *
 go_enter Tryz.func30, Tryz.ntmps30
 go_wp2_with fail
 refine HL.out.mono ?_
 rintro e w4 ⟨⟨s, rfl, hs⟩, hb⟩
 have HB4 := zh (HB.out.trans (hb.mono HB.out.size))
 have hsz : s.size ≤ 140737488355000 := by rw [lst_size s hs]; exact hl
 have h1 : ((⟨#[43, 40]⟩ : ByteArray) ++ s).size = 2 + s.size := by rw [ByteArray.size_append]; rfl
 have HF : Hid (lst (⟨#[43, 40]⟩ ++ s ++ ⟨#[41]⟩) = 43 :: 40 :: (J ++ [41])) := by
  show _ = _
  rw [lst_app, lst_app, hs]
  rfl
 clear hb hs
 go_wp2_with fail
 go_ret
 exact ⟨⟨_, rfl, HF.out⟩, HB4.out⟩
theorem text10_9 (zp : Int) (zs : ByteArray) (zA : Option Addr) (zc : Nat) (zw : List Wd) (zBq : Option Addr) (zd : Nat) (zz : List Nd) (w : World) (hl : (jc (txs zz)).length ≤ 140737488355000) (hL : ∀ W, Below w.heap.size w W → Calls Tryz.prog 58 #[.slice zBq zz.length zd, .slice none 0 0] W fun e w' => (∃ s : ByteArray, e = .returned (.string s) ∧ lst s = jc (txs zz)) ∧ Below W.heap.size W w') :
 Calls Tryz.prog 30 #[.agg #[.int .i64 9, .int .i64 zp, .string zs, .slice zA zw.length zc, .slice zBq zz.length zd]] w fun e w' => (∃ s : ByteArray, e = .returned (.string s) ∧ lst s = 38 :: 40 :: (jc (txs zz) ++ [41])) ∧ Below w.heap.size w w' := by
 have hn := RowAt.new w 28 #[.int .i64 9, .int .i64 zp, .string zs, .slice zA zw.length zc, .slice zBq zz.length zd]
 have hB : Below w.heap.size w (w.alloc (.cells #[.int .i64 9, .int .i64 zp, .string zs, .slice zA zw.length zc, .slice zBq zz.length zd] 28)) := (zB _ _).alloc (zL _) _
 have HB := zh hB
 obtain ⟨m0, m1, m2, m3, m4, _, _, _, _, _⟩ := row5 hn
 clear hn hB
 have HL := zh (hL _ HB.out)
 clear hL
 generalize jc (txs zz) = J at *
 generalize zw.length = nw at *
 generalize zz.length = nz at *
 go_enter Tryz.func30, Tryz.ntmps30
 go_wp2_with fail
 refine HL.out.mono ?_
 rintro e w4 ⟨⟨s, rfl, hs⟩, hb⟩
 have HB4 := zh (HB.out.trans (hb.mono HB.out.size))
 have hsz : s.size ≤ 140737488355000 := by rw [lst_size s hs]; exact hl
 have h1 : ((⟨#[38, 40]⟩ : ByteArray) ++ s).size = 2 + s.size := by rw [ByteArray.size_append]; rfl
 have HF : Hid (lst (⟨#[38, 40]⟩ ++ s ++ ⟨#[41]⟩) = 38 :: 40 :: (J ++ [41])) := by
  show _ = _
  rw [lst_app, lst_app, hs]
  rfl
 clear hb hs
 go_wp2_with fail
 go_ret
 exact ⟨⟨_, rfl, HF.out⟩, HB4.out⟩
end
section
open Go.RowKit LX TR TM
theorem list10W_fix (A : Option Addr) (c : Nat) (ws : List Wd) (w : World) (hA : Sl w w.heap.size A (wcs ws)) (hn : ws.length ≤ 1099511627776) (hl : (jc (wtx ws)).length ≤ 140737488355328) :
 Calls Tryz.prog 58 #[.slice none 0 0, .slice A ws.length c] w fun e w' => e = .returned (.string ⟨(jc (wtx ws)).toArray⟩) ∧ w = w' :=
 (list10W_any A c ws w hA hn hl).mono fun e w' ⟨⟨s, he, hs⟩, hw⟩ => ⟨by rw [he, lst_inj (hs.trans (lst_arr _).symm)], hw⟩
theorem text10_3 (zp : Int) (zs : ByteArray) (zA : Option Addr) (zc : Nat) (zw : List Wd) (zBq : Option Addr) (zd : Nat) (zz : List Nd) (w : World) (hA : Sl w w.heap.size zA (wcs zw)) (hn : zw.length ≤ 1099511627776) (hl : (jc (wtx zw)).length ≤ 140737488355000) :
 Calls Tryz.prog 30 #[.agg #[.int .i64 3, .int .i64 zp, .string zs, .slice zA zw.length zc, .slice zBq zz.length zd]] w fun e w' => (∃ s : ByteArray, e = .returned (.string s) ∧ lst s = 123 :: (jc (wtx zw) ++ [125])) ∧ Below w.heap.size w w' := by
 have hn := RowAt.new w 28 #[.int .i64 3, .int .i64 zp, .string zs, .slice zA zw.length zc, .slice zBq zz.length zd]
 have hB : Below w.heap.size w (w.alloc (.cells #[.int .i64 3, .int .i64 zp, .string zs, .slice zA zw.length zc, .slice zBq zz.length zd] 28)) := (zB _ _).alloc (zL _) _
 have HB := zh hB
 obtain ⟨m0, m1, m2, m3, m4, _, _, _, _, _⟩ := row5 hn
 clear hn hB
 have HL := zh (list10W_fix zA zc zw (w.alloc (.cells #[.int .i64 3, .int .i64 zp, .string zs, .slice zA zw.length zc, .slice zBq zz.length zd] 28)) ((hA.below HB.out).mono HB.out.size) hn (by omega))
 clear hA
 have hsz : (⟨(jc (wtx zw)).toArray⟩ : ByteArray).size ≤ 140737488355000 := by rw [lst_size _ (lst_arr _)]; omega
 have hls := lst_arr (jc (wtx zw))
 generalize (⟨(jc (wtx zw)).toArray⟩ : ByteArray) = s at *
 generalize jc (wtx zw) = J at *
 generalize zw.length = nw at *
 generalize zz.length = nz at *
 go_enter Tryz.func30, Tryz.ntmps30
 go_wp2_with fail
 refine HL.out.mono ?_
 rintro e w4 ⟨rfl, rfl⟩
 have h1 : ((⟨#[123]⟩ : ByteArray) ++ s).size = 1 + s.size := by rw [ByteArray.size_append]; rfl
 have HF : Hid (lst (⟨#[123]⟩ ++ s ++ ⟨#[125]⟩) = 123 :: (J ++ [125])) := by
  show _ = _
  rw [lst_app, lst_app, hls]
  rfl
 clear hls
 go_wp2_with fail
 go_ret
 exact ⟨⟨_, rfl, HF.out⟩, HB.out⟩
theorem text10_6 (zp : Int) (zs : ByteArray) (zA : Option Addr) (zc : Nat) (zw : List Wd) (zBq : Option Addr) (zd : Nat) (zz : List Nd) (w : World) (hA : Sl w w.heap.size zA (wcs zw)) (hn : zw.length ≤ 1099511627776) (hl : zs.size + (jc (wtx zw)).length ≤ 140737488355000) :
 Calls Tryz.prog 30 #[.agg #[.int .i64 6, .int .i64 zp, .string zs, .slice zA zw.length zc, .slice zBq zz.length zd]] w fun e w' => (∃ s : ByteArray, e = .returned (.string s) ∧ lst s = lst zs ++ 58 :: 123 :: (jc (wtx zw) ++ [125])) ∧ Below w.heap.size w w' := by
 have hn := RowAt.new w 28 #[.int .i64 6, .int .i64 zp, .string zs, .slice zA zw.length zc, .slice zBq zz.length zd]
 have hB : Below w.heap.size w (w.alloc (.cells #[.int .i64 6, .int .i64 zp, .string zs, .slice zA zw.length zc, .slice zBq zz.length zd] 28)) := (zB _ _).alloc (zL _) _
 have HB := zh hB
 obtain ⟨m0, m1, m2, m3, m4, _, _, _, _, _⟩ := row5 hn
 clear hn hB
 have HL := zh (fun W (h : Below w.heap.size w W) => list10W_fix zA zc zw W ((hA.below h).mono h.size) hn (by omega))
 clear hA
 have hsz : (⟨(jc (wtx zw)).toArray⟩ : ByteArray).size + zs.size ≤ 140737488355000 := by rw [lst_size _ (lst_arr _)]; omega
 have hls := lst_arr (jc (wtx zw))
 generalize (⟨(jc (wtx zw)).toArray⟩ : ByteArray) = s at *
 generalize jc (wtx zw) = J at *
 generalize zw.length = nw at *
 generalize zz.length = nz at *
 have h1 : (zs ++ (⟨#[58, 123]⟩ : ByteArray)).size = zs.size + 2 := by rw [ByteArray.size_append]; rfl
 have h2 : (zs ++ (⟨#[58, 123]⟩ : ByteArray) ++ s).size = zs.size + 2 + s.size := by rw [ByteArray.size_append, h1]
 have HF : Hid (lst (zs ++ ⟨#[58, 123]⟩ ++ s ++ ⟨#[125]⟩) = lst zs ++ 58 :: 123 :: (J ++ [125])) := by
  show _ = _
  rw [lst_app, lst_app, lst_app, hls, lst_two, lst_one]
  simp
 clear hls
 go_enter Tryz.func30, Tryz.ntmps30
 go_wp2_with fail
 go_quiet ((go_at_call 58; exact quiet_same (HL.out _ (HB.out.trans (((Dr.refl _).more _).below.mono HB.out.size)))))
 go_wp2_with fail
 go_ret
 exact ⟨⟨_, rfl, HF.out⟩, HB.out.trans (((Dr.refl _).more _).below.mono HB.out.size)⟩
end
section
open Go.RowKit LX TR TM
theorem text10_7n (zp : Int) (zs : ByteArray) (zA : Option Addr) (zc : Nat) (zw : List Wd) (zBq : Option Addr) (zd : Nat) (zz : List Nd) (w : World) (hz : zz = []) :
 Calls Tryz.prog 30 #[.agg #[.int .i64 7, .int .i64 zp, .string zs, .slice zA zw.length zc, .slice zBq zz.length zd]] w fun e w' => (∃ s : ByteArray, e = .returned (.string s) ∧ lst s = [35]) ∧ Below w.heap.size w w' := by
 have hn := RowAt.new w 28 #[.int .i64 7, .int .i64 zp, .string zs, .slice zA zw.length zc, .slice zBq zz.length zd]
 have hB : Below w.heap.size w (w.alloc (.cells #[.int .i64 7, .int .i64 zp, .string zs, .slice zA zw.length zc, .slice zBq zz.length zd] 28)) := (zB _ _).alloc (zL _) _
 have HB := zh hB
 obtain ⟨m0, m1, m2, m3, m4, _, _, _, _, _⟩ := row5 hn
 clear hn hB
 subst hz
 simp only [zA9] at *
 generalize zw.length = nw at *
 go_enter Tryz.func30, Tryz.ntmps30
 go_wp2_with fail
 go_ret
 exact ⟨⟨_, rfl, rfl⟩, HB.out⟩
theorem text10_7c (zp : Int) (zs : ByteArray) (zA : Option Addr) (zc : Nat) (zw : List Wd) (zBq : Option Addr) (zd : Nat) (zz : List Nd) (w : World) (x : Nd) (r : List Nd) (hz : zz = x :: r) (hA : Sl w w.heap.size zBq (ncs zz)) (hl : (tx x).length ≤ 140737488355000) (hT : ∀ W, Below w.heap.size w W → Calls Tryz.prog 30 #[.agg (nv x)] W fun e w' => (∃ s : ByteArray, e = .returned (.string s) ∧ lst s = tx x) ∧ Below W.heap.size W w') :
 Calls Tryz.prog 30 #[.agg #[.int .i64 7, .int .i64 zp, .string zs, .slice zA zw.length zc, .slice zBq zz.length zd]] w fun e w' => (∃ s : ByteArray, e = .returned (.string s) ∧ lst s = 35 :: tx x) ∧ Below w.heap.size w w' := by
 have hn := RowAt.new w 28 #[.int .i64 7, .int .i64 zp, .string zs, .slice zA zw.length zc, .slice zBq zz.length zd]
 have hB : Below w.heap.size w (w.alloc (.cells #[.int .i64 7, .int .i64 zp, .string zs, .slice zA zw.length zc, .slice zBq zz.length zd] 28)) := (zB _ _).alloc (zL _) _
 have HB := zh hB
 obtain ⟨m0, m1, m2, m3, m4, _, _, _, _, _⟩ := row5 hn
 clear hn hB
 subst hz
 have HL := zh (hT _ HB.out)
 obtain ⟨bb, o, hzB, hbb, hc⟩ := sl_at (z := n0) ncells_length (hA.below HB.out) (k := 0) (by simp) (by omega)
 subst hzB
 have p0 := hc 0 0 _ (by simp) (by omega) rfl
 have p1 := hc 0 1 _ (by simp) (by omega) rfl
 have p2 := hc 0 2 _ (by simp) (by omega) rfl
 have p3 := hc 0 3 _ (by simp) (by omega) rfl
 have p4 := hc 0 4 _ (by simp) (by omega) rfl
 simp only [zA8] at *
 have hlen : (0 : Int) < ((r.length + 1 : Nat) : Int) := by omega
 have qz : (((r.length + 1 : Nat) : Int) == 0) = false := by rw [beq_eq_false_iff_ne]; omega
 clear hT hA hc
 generalize tx x = T at *
 obtain ⟨xk, xp, xs, xA, xc, xw, xB, xd, xx⟩ := x
 unfold nv at HL
 simp only [Nat.zero_mul, Nat.add_zero, Nat.zero_add, List.getD_cons_zero, Nd.k, Nd.p, Nd.s, Nd.A, Nd.c, Nd.ws, Nd.B, Nd.d, Nd.ks] at p0 p1 p2 p3 p4 HL
 generalize zw.length = nw at *
 generalize r.length + 1 = nz at *
 go_enter Tryz.func30, Tryz.ntmps30
 go_wp2_with fail
 refine HL.out.mono ?_
 rintro e w4 ⟨⟨s, rfl, hs⟩, hb⟩
 have HB4 := zh (HB.out.trans (hb.mono HB.out.size))
 have hsz : s.size ≤ 140737488355000 := by rw [lst_size s hs]; exact hl
 have HF : Hid (lst (⟨#[35]⟩ ++ s) = 35 :: T) := by
  show _ = _
  rw [lst_app, hs]
  rfl
 clear hb hs
 go_wp2_with fail
 go_ret
 exact ⟨⟨_, rfl, HF.out⟩, HB4.out⟩
theorem text10_10n (zp : Int) (zs : ByteArray) (zA : Option Addr) (zc : Nat) (zw : List Wd) (zBq : Option Addr) (zd : Nat) (zz : List Nd) (w : World) (hw : zw = []) (hl : (jc (txs zz)).length ≤ 140737488355000) (hL : ∀ W, Below w.heap.size w W → Calls Tryz.prog 58 #[.slice zBq zz.length zd, .slice none 0 0] W fun e w' => (∃ s : ByteArray, e = .returned (.string s) ∧ lst s = jc (txs zz)) ∧ Below W.heap.size W w') :
 Calls Tryz.prog 30 #[.agg #[.int .i64 10, .int .i64 zp, .string zs, .slice zA zw.length zc, .slice zBq zz.length zd]] w fun e w' => (∃ s : ByteArray, e = .returned (.string s) ∧ lst s = 91 :: (jc (txs zz) ++ [93])) ∧ Below w.heap.size w w' := by
 have hn := RowAt.new w 28 #[.int .i64 10, .int .i64 zp, .string zs, .slice zA zw.length zc, .slice zBq zz.length zd]
 have hB : Below w.heap.size w (w.alloc (.cells #[.int .i64 10, .int .i64 zp, .string zs, .slice zA zw.length zc, .slice zBq zz.length zd] 28)) := (zB _ _).alloc (zL _) _
 have HB := zh hB
 obtain ⟨m0, m1, m2, m3, m4, _, _, _, _, _⟩ := row5 hn
 clear hn hB
 have HL := zh (hL _ HB.out)
 clear hL
 generalize jc (txs zz) = J at *
 subst hw
 simp only [zA9] at *
 generalize zz.length = nz at *
 go_enter Tryz.func30, Tryz.ntmps30
 go_wp2_with fail
 refine HL.out.mono ?_
 rintro e w4 ⟨⟨s, rfl, hs⟩, hb⟩
 have HB4 := zh (HB.out.trans (hb.mono HB.out.size))
 have hsz : s.size ≤ 140737488355000 := by rw [lst_size s hs]; exact hl
 have h1 : ((⟨#[91]⟩ : ByteArray) ++ s).size = 1 + s.size := by rw [ByteArray.size_append]; rfl
 have HF : Hid (lst (⟨#[91]⟩ ++ s ++ ⟨#[93]⟩) = 91 :: (J ++ [93])) := by
  show _ = _
  rw [lst_app, lst_app, hs]
  rfl
 clear hb hs
 go_wp2_with fail
 go_ret
 exact ⟨⟨_, rfl, HF.out⟩, HB4.out⟩
theorem text10_else  (zs : ByteArray) (zA : Option Addr) (zc : Nat) (zw : List Wd) (zBq : Option Addr) (zd : Nat) (zz : List Nd) (w : World) (zk zp : Int) (h1 : ¬ zk = 1) (h2 : ¬ zk = 2) (h3 : ¬ zk = 3) (h4 : ¬ zk = 4) (h5 : ¬ zk = 5) (h6 : ¬ zk = 6) (h7 : ¬ zk = 7) (h8 : ¬ zk = 8) (h9 : ¬ zk = 9) (h10 : ¬ zk = 10) (h11 : ¬ zk = 11) :
 Calls Tryz.prog 30 #[.agg #[.int .i64 zk, .int .i64 zp, .string zs, .slice zA zw.length zc, .slice zBq zz.length zd]] w fun e w' => (∃ s : ByteArray, e = .returned (.string s) ∧ lst s = []) ∧ Below w.heap.size w w' := by
 have hn := RowAt.new w 28 #[.int .i64 zk, .int .i64 zp, .string zs, .slice zA zw.length zc, .slice zBq zz.length zd]
 have hB : Below w.heap.size w (w.alloc (.cells #[.int .i64 zk, .int .i64 zp, .string zs, .slice zA zw.length zc, .slice zBq zz.length zd] 28)) := (zB _ _).alloc (zL _) _
 have HB := zh hB
 obtain ⟨m0, m1, m2, m3, m4, _, _, _, _, _⟩ := row5 hn
 clear hn hB
 have q1 : (zk == 1) = false := by rw [beq_eq_false_iff_ne]; exact h1
 have q2 : (zk == 2) = false := by rw [beq_eq_false_iff_ne]; exact h2
 have q3 : (zk == 3) = false := by rw [beq_eq_false_iff_ne]; exact h3
 have q4 : (zk == 4) = false := by rw [beq_eq_false_iff_ne]; exact h4
 have q5 : (zk == 5) = false := by rw [beq_eq_false_iff_ne]; exact h5
 have q6 : (zk == 6) = false := by rw [beq_eq_false_iff_ne]; exact h6
 have q7 : (zk == 7) = false := by rw [beq_eq_false_iff_ne]; exact h7
 have q8 : (zk == 8) = false := by rw [beq_eq_false_iff_ne]; exact h8
 have q9 : (zk == 9) = false := by rw [beq_eq_false_iff_ne]; exact h9
 have q10 : (zk == 10) = false := by rw [beq_eq_false_iff_ne]; exact h10
 have q11 : (zk == 11) = false := by rw [beq_eq_false_iff_ne]; exact h11
 generalize zw.length = nw at *
 generalize zz.length = nz at *
 go_enter Tryz.func30, Tryz.ntmps30
 go_wp2_with fail
 go_ret
 exact ⟨⟨_, rfl, rfl⟩, HB.out⟩
end
section
open Go.RowKit LX TR TM
theorem text10_11n (zp : Int) (zs : ByteArray) (zA : Option Addr) (zc : Nat) (zw : List Wd) (zBq : Option Addr) (zd : Nat) (zz : List Nd) (w : World) (hz : zz = []) (hl : zs.size ≤ 140737488355000) :
 Calls Tryz.prog 30 #[.agg #[.int .i64 11, .int .i64 zp, .string zs, .slice zA zw.length zc, .slice zBq zz.length zd]] w fun e w' => (∃ s : ByteArray, e = .returned (.string s) ∧ lst s = lst zs ++ [61]) ∧ Below w.heap.size w w' := by
 have hn := RowAt.new w 28 #[.int .i64 11, .int .i64 zp, .string zs, .slice zA zw.length zc, .slice zBq zz.length zd]
 have hB : Below w.heap.size w (w.alloc (.cells #[.int .i64 11, .int .i64 zp, .string zs, .slice zA zw.length zc, .slice zBq zz.length zd] 28)) := (zB _ _).alloc (zL _) _
 have HB := zh hB
 obtain ⟨m0, m1, m2, m3, m4, _, _, _, _, _⟩ := row5 hn
 clear hn hB
 subst hz
 simp only [zA9] at *
 generalize zw.length = nw at *
 have HF : Hid (lst (zs ++ ⟨#[61]⟩) = lst zs ++ [61]) := by
  show _ = _
  rw [lst_app, lst_one]
 go_enter Tryz.func30, Tryz.ntmps30
 go_wp2_with fail
 go_ret
 exact ⟨⟨_, rfl, HF.out⟩, HB.out⟩
theorem text10_11c (zp : Int) (zs : ByteArray) (zA : Option Addr) (zc : Nat) (zw : List Wd) (zBq : Option Addr) (zd : Nat) (zz : List Nd) (w : World) (x : Nd) (r : List Nd) (hz : zz = x :: r) (hA : Sl w w.heap.size zBq (ncs zz)) (hl : zs.size + (tx x).length ≤ 140737488355000) (hT : ∀ W, Below w.heap.size w W → Calls Tryz.prog 30 #[.agg (nv x)] W fun e w' => (∃ s : ByteArray, e = .returned (.string s) ∧ lst s = tx x) ∧ Below W.heap.size W w') :
 Calls Tryz.prog 30 #[.agg #[.int .i64 11, .int .i64 zp, .string zs, .slice zA zw.length zc, .slice zBq zz.length zd]] w fun e w' => (∃ s : ByteArray, e = .returned (.string s) ∧ lst s = lst zs ++ 61 :: tx x) ∧ Below w.heap.size w w' := by
 have hn := RowAt.new w 28 #[.int .i64 11, .int .i64 zp, .string zs, .slice zA zw.length zc, .slice zBq zz.length zd]
 have hB : Below w.heap.size w (w.alloc (.cells #[.int .i64 11, .int .i64 zp, .string zs, .slice zA zw.length zc, .slice zBq zz.length zd] 28)) := (zB _ _).alloc (zL _) _
 have HB := zh hB
 obtain ⟨m0, m1, m2, m3, m4, _, _, _, _, _⟩ := row5 hn
 have HRX := zh hn
 clear hn hB
 subst hz
 have HL := zh hT
 obtain ⟨bb, o, hzB, hbb, hc⟩ := sl_at (z := n0) ncells_length (hA.below HB.out) (k := 0) (by simp) (by omega)
 subst hzB
 have p0 := hc 0 0 _ (by simp) (by omega) rfl
 have p1 := hc 0 1 _ (by simp) (by omega) rfl
 have p2 := hc 0 2 _ (by simp) (by omega) rfl
 have p3 := hc 0 3 _ (by simp) (by omega) rfl
 have p4 := hc 0 4 _ (by simp) (by omega) rfl
 simp only [zA8] at *
 have hlen : (0 : Int) < ((r.length + 1 : Nat) : Int) := by omega
 have hlen2 : 0 < r.length + 1 := by omega
 have qz : (((r.length + 1 : Nat) : Int) == 0) = false := by rw [beq_eq_false_iff_ne]; omega
 clear hT hA hc
 generalize tx x = T at *
 obtain ⟨xk, xp, xs, xA, xc, xw, xB, xd, xx⟩ := x
 unfold nv at HL
 simp only [Nat.zero_mul, Nat.add_zero, Nat.zero_add, List.getD_cons_zero, Nd.k, Nd.p, Nd.s, Nd.A, Nd.c, Nd.ws, Nd.B, Nd.d, Nd.ks] at p0 p1 p2 p3 p4 HL
 generalize zw.length = nw at *
 generalize r.length + 1 = nz at *
 have h1 : (zs ++ (⟨#[61]⟩ : ByteArray)).size = zs.size + 1 := by rw [ByteArray.size_append]; rfl
 have hzs : zs.size ≤ 140737488355000 := by omega
 have hno : ¬ (9223372036854775807 < zs.size + 1) := by omega
 go_enter Tryz.func30, Tryz.ntmps30
 go_upto_region 28 with fail
 generalize hW1 : (w.alloc (.cells #[.int .i64 11, .int .i64 zp, .string zs, .slice zA nw zc, .slice (some ⟨bb, o, none⟩) nz zd] 28)) = w1 at *
 have hbb1 : bb < w1.heap.size := zT hbb HB.out.size
 obtain ⟨S, hSe⟩ : ∃ S : World → Prop, S = fun w' => Below w.heap.size w w' ∧ Below w1.heap.size w1 w' := ⟨_, rfl⟩
 have keepS : ∀ wa wb, S wa → Below wa.heap.size wa wb → S wb := fun wa wb h hb => by
  rw [hSe] at h ⊢
  exact ⟨h.1.trans (hb.mono h.1.size), h.2.trans (hb.mono h.2.size)⟩
 have HSB : Hid (∀ W, S W → Below w.heap.size w W) := fun W h => by
  rw [hSe] at h
  exact h.1
 have C0 : ∀ W, S W → W.cell? ⟨w.heap.size, 4, none⟩ = some (.slice (some ⟨bb, o, none⟩) nz zd) := fun W h => by
  rw [hSe] at h
  exact (RowAt.cell (HRX.out.below h.2 HRX.out.lt) 4).trans rfl
 have C1 : ∀ W, S W → W.cell? ⟨w.heap.size, 2, none⟩ = some (.string zs) := fun W h => by
  rw [hSe] at h
  exact (RowAt.cell (HRX.out.below h.2 HRX.out.lt) 2).trans rfl
 have P0 : ∀ W, S W → W.cell? ⟨bb, o, none⟩ = some (.int .i64 xk) := fun W h => by
  rw [hSe] at h
  exact (below_cell h.2 hbb1).trans p0
 have P1 : ∀ W, S W → W.cell? ⟨bb, o + 1, none⟩ = some (.int .i64 xp) := fun W h => by
  rw [hSe] at h
  exact (below_cell h.2 hbb1).trans p1
 have P2 : ∀ W, S W → W.cell? ⟨bb, o + 2, none⟩ = some (.string xs) := fun W h => by
  rw [hSe] at h
  exact (below_cell h.2 hbb1).trans p2
 have P3 : ∀ W, S W → W.cell? ⟨bb, o + 3, none⟩ = some (.slice xA xw.length xc) := fun W h => by
  rw [hSe] at h
  exact (below_cell h.2 hbb1).trans p3
 have P4 : ∀ W, S W → W.cell? ⟨bb, o + 4, none⟩ = some (.slice xB xx.length xd) := fun W h => by
  rw [hSe] at h
  exact (below_cell h.2 hbb1).trans p4
 have HS : Hid (S w1.drew) := by
  show S w1.drew
  rw [hSe]
  exact ⟨HB.out.drew, (zB _ _).drew⟩
 refine wp_region_ord S [(0, true), (1, true), (2, true), (3, true), (4, true), (5, true), (6, true), (7, false), (8, true), (9, true)] (by kernel_rfl) (by kernel_rfl) rfl (by kernel_rfl) HS.out ?_
 iterate 7
  (refine wpOrd_step (zO rfl) ?_)
  (first
        | (refine wpOrd_skip (by rfl) ?_)
        | (refine wpOrd_take (v := ?_) (by rfl) ?_ ?_; rotate_left 1; (intro wx hSx; have hc_0 := C0 wx hSx; have hc_1 := C1 wx hSx; have hc_2 := P0 wx hSx; have hc_3 := P1 wx hSx; have hc_4 := P2 wx hSx; have hc_5 := P3 wx hSx; have hc_6 := P4 wx hSx; go_simp; try with_reducible rfl)))
  (try simp only [Act.put, zA4, zA5, zA6])
 (refine wpOrd_solo (zO rfl) ?_)
 intro K hK
 go_simp
 go_at_call 30
 refine (HL.out _ (HSB.out _ HS.out)).mono ?_
 rintro e w4 ⟨⟨s, rfl, hs⟩, hb⟩
 have hS := keepS _ _ HS.out hb
 clear HS
 have HS := zh hS; clear hS hb
 have hsz : zs.size + 1 + s.size ≤ 140737488355328 := by rw [lst_size s hs]; omega
 have hno2 : ¬ (9223372036854775807 < zs.size + 1 + s.size) := by omega
 refine hK.out _ _ HS.out ?_
 clear hK K
 (try simp only [Act.put, zA4, zA5, zA6])
 iterate 2
  (refine wpOrd_step (zO rfl) ?_)
  (first
        | (refine wpOrd_skip (by rfl) ?_)
        | (refine wpOrd_take (v := ?_) (by rfl) ?_ ?_; rotate_left 1; (intro wx hSx; go_simp; try with_reducible rfl)))
  (try simp only [Act.put, zA4, zA5, zA6])
 refine wpOrd_done ?_
 have hS4 := HS.out
 rw [hSe] at hS4
 have HB4 := zh hS4.1
 have HF : Hid (lst (zs ++ ⟨#[61]⟩ ++ s) = lst zs ++ 61 :: T) := by
  show _ = _
  rw [lst_app, lst_app, lst_one, hs]; simp
 clear hS4 hs
 go_wp2_with fail
 go_ret
 exact ⟨⟨_, rfl, HF.out⟩, HB4.out⟩
end
section
open Go.RowKit LX TR TM
theorem text10_10r (zp : Int) (zs : ByteArray) (zA : Option Addr) (zc : Nat) (zw : List Wd) (zBq : Option Addr) (zd : Nat) (zz : List Nd) (w : World) (hA : Sl w w.heap.size zA (wcs zw)) (hn : zw.length ≤ 1099511627776) (hw : ¬ zw.length = 0) (hl : (jc (txs zz)).length + (jc (wtx zw)).length ≤ 140737488355000) (hL : ∀ W, Below w.heap.size w W → Calls Tryz.prog 58 #[.slice zBq zz.length zd, .slice none 0 0] W fun e w' => (∃ s : ByteArray, e = .returned (.string s) ∧ lst s = jc (txs zz)) ∧ Below W.heap.size W w') :
 Calls Tryz.prog 30 #[.agg #[.int .i64 10, .int .i64 zp, .string zs, .slice zA zw.length zc, .slice zBq zz.length zd]] w fun e w' => (∃ s : ByteArray, e = .returned (.string s) ∧ lst s = 91 :: (jc (txs zz) ++ 124 :: (jc (wtx zw) ++ [93]))) ∧ Below w.heap.size w w' := by
 have hn9 := RowAt.new w 28 #[.int .i64 10, .int .i64 zp, .string zs, .slice zA zw.length zc, .slice zBq zz.length zd]
 have hB : Below w.heap.size w (w.alloc (.cells #[.int .i64 10, .int .i64 zp, .string zs, .slice zA zw.length zc, .slice zBq zz.length zd] 28)) := (zB _ _).alloc (zL _) _
 have HB := zh hB
 obtain ⟨m0, m1, m2, m3, m4, _, _, _, _, _⟩ := row5 hn9
 have HRX := zh hn9
 clear hn9 hB
 have HL := zh hL
 have HV := zh (fun W (h : Below w.heap.size w W) => list10W_fix zA zc zw W ((hA.below h).mono h.size) hn (by omega))
 have htz : (⟨(jc (wtx zw)).toArray⟩ : ByteArray).size = (jc (wtx zw)).length := lst_size _ (lst_arr _)
 have htl := lst_arr (jc (wtx zw))
 have HTZ := zh htz
 clear htz
 clear hA hL
 generalize (⟨(jc (wtx zw)).toArray⟩ : ByteArray) = t at *
 generalize jc (wtx zw) = J at *
 generalize jc (txs zz) = I at *
 generalize zw.length = nw at *
 generalize zz.length = nz at *
 have qw : ((nw : Int) == 0) = false := by rw [beq_eq_false_iff_ne]; omega
 go_enter Tryz.func30, Tryz.ntmps30
 go_upto_region 24 with fail
 generalize hW1 : (w.alloc (.cells #[.int .i64 10, .int .i64 zp, .string zs, .slice zA nw zc, .slice zBq nz zd] 28)) = w1 at *
 obtain ⟨S, hSe⟩ : ∃ S : World → Prop, S = fun w' => Below w.heap.size w w' ∧ Below w1.heap.size w1 w' := ⟨_, rfl⟩
 have keepS : ∀ wa wb, S wa → Below wa.heap.size wa wb → S wb := fun wa wb h hb => by
  rw [hSe] at h ⊢
  exact ⟨h.1.trans (hb.mono h.1.size), h.2.trans (hb.mono h.2.size)⟩
 have HSB : Hid (∀ W, S W → Below w.heap.size w W) := fun W h => by
  rw [hSe] at h
  exact h.1
 have C0 : ∀ W, S W → W.cell? ⟨w.heap.size, 4, none⟩ = some (.slice zBq nz zd) := fun W h => by
  rw [hSe] at h
  exact (RowAt.cell (HRX.out.below h.2 HRX.out.lt) 4).trans rfl
 have C1 : ∀ W, S W → W.cell? ⟨w.heap.size, 3, none⟩ = some (.slice zA nw zc) := fun W h => by
  rw [hSe] at h
  exact (RowAt.cell (HRX.out.below h.2 HRX.out.lt) 3).trans rfl
 have HS : Hid (S w1.drew) := by
  show S w1.drew
  rw [hSe]
  exact ⟨HB.out.drew, (zB _ _).drew⟩
 refine wp_region_ord S [(0, true), (1, true), (5, true), (6, true), (2, false), (3, true), (4, true), (7, false), (8, true), (9, true), (10, true)] (by kernel_rfl) (by kernel_rfl) rfl (by kernel_rfl) HS.out ?_
 iterate 4
  (refine wpOrd_step (zO rfl) ?_)
  (first
        | (refine wpOrd_skip (by rfl) ?_)
        | (refine wpOrd_take (v := ?_) (by rfl) ?_ ?_; rotate_left 1; (intro wx hSx; have hc_0 := C0 wx hSx; have hc_1 := C1 wx hSx; go_simp; try with_reducible rfl)))
  (try simp only [Act.put, zA4, zA5, zA6])
 (refine wpOrd_solo (zO rfl) ?_)
 intro K hK
 go_simp
 go_at_call 58
 refine (HL.out _ (HSB.out _ HS.out)).mono ?_
 rintro e w4 ⟨⟨s, rfl, hs⟩, hb⟩
 have hS := keepS _ _ HS.out hb
 clear HS
 have HS := zh hS; clear hS hb
 have hsz : s.size + t.size ≤ 140737488355000 := by have h8 := HTZ.out; have h9 := lst_size s hs; omega
 have hA1 : ((⟨#[91]⟩ : ByteArray) ++ s).size = 1 + s.size := by rw [ByteArray.size_append]; rfl
 have hA2 : ((⟨#[91]⟩ : ByteArray) ++ s ++ (⟨#[124]⟩ : ByteArray)).size = 1 + s.size + 1 := by rw [ByteArray.size_append, hA1]; rfl
 have hA3 : ((⟨#[91]⟩ : ByteArray) ++ s ++ (⟨#[124]⟩ : ByteArray) ++ t).size = 1 + s.size + 1 + t.size := by rw [ByteArray.size_append, hA2]
 have hn1 : ¬ (9223372036854775807 < 1 + s.size) := by omega
 have hn2 : ¬ (9223372036854775807 < 1 + s.size + 1) := by omega
 have hn3 : ¬ (9223372036854775807 < 1 + s.size + 1 + t.size) := by omega
 have hn4 : ¬ (9223372036854775807 < 1 + s.size + 1 + t.size + 1) := by omega
 refine hK.out _ _ HS.out ?_
 clear hK K
 (try simp only [Act.put, zA4, zA5, zA6])
 iterate 2
  (refine wpOrd_step (zO rfl) ?_)
  (first
        | (refine wpOrd_skip (by rfl) ?_)
        | (refine wpOrd_take (v := ?_) (by rfl) ?_ ?_; rotate_left 1; (intro wx hSx; go_simp; try with_reducible rfl)))
  (try simp only [Act.put, zA4, zA5, zA6])
 (refine wpOrd_solo (zO rfl) ?_)
 intro K hK
 go_simp
 go_at_call 58
 refine (HV.out _ (HSB.out _ HS.out)).mono ?_
 rintro e w' ⟨rfl, rfl⟩
 refine hK.out _ _ HS.out ?_
 clear hK K
 (try simp only [Act.put, zA4, zA5, zA6])
 iterate 3
  (refine wpOrd_step (zO rfl) ?_)
  (first
        | (refine wpOrd_skip (by rfl) ?_)
        | (refine wpOrd_take (v := ?_) (by rfl) ?_ ?_; rotate_left 1; (intro wx hSx; go_simp; try with_reducible rfl)))
  (try simp only [Act.put, zA4, zA5, zA6])
 refine wpOrd_done ?_
 have hS4 := HS.out
 rw [hSe] at hS4
 have HB4 := zh hS4.1
 have HF : Hid (lst (⟨#[91]⟩ ++ s ++ ⟨#[124]⟩ ++ t ++ ⟨#[93]⟩) = 91 :: (I ++ 124 :: (J ++ [93]))) := by
  show _ = _
  rw [lst_app, lst_app, lst_app, lst_app, lst_one, lst_one, lst_one, hs, htl]; simp
 clear hS4 hs
 go_wp2_with fail
 go_ret
 exact ⟨⟨_, rfl, HF.out⟩, HB4.out⟩
end
section
open Go.RowKit LX TR TM
theorem mem_jc {l : List (List UInt8)} {x : List UInt8} (h : x ∈ l) : x.length ≤ (jc l).length := by
 have ht : ∀ r : List (List UInt8), x ∈ r → x.length ≤ (jt r).length := fun r => by
  induction r with
  | nil => intro h; cases h
  | cons y r ih =>
    intro h
    rw [jt, zA8, zA7]
    rcases List.mem_cons.1 h with rfl | h
    ·omega
    ·have := ih h; omega
 cases l with
 | nil => cases h
 | cons y r =>
   rw [jc, zA7]
   rcases List.mem_cons.1 h with rfl | h
   ·omega
   ·have := ht r h; omega
theorem text10_step (N : Nat) (hN : N < 4294967296) (ih : ∀ y, cnt [y] ≤ N → (tx y).length ≤ 140737488355000 → ∀ w, Nods w w.heap.size [y] → Calls Tryz.prog 30 #[.agg (nv y)] w fun e w' => (∃ s : ByteArray, e = .returned (.string s) ∧ lst s = tx y) ∧ Below w.heap.size w w') (z : Nd) (hz : cnt [z] ≤ N + 1) (hl : (tx z).length ≤ 140737488355000) (w : World) (hnd : Nods w w.heap.size [z]) :
 Calls Tryz.prog 30 #[.agg (nv z)] w fun e w' => (∃ s : ByteArray, e = .returned (.string s) ∧ lst s = tx z) ∧ Below w.heap.size w w' := by
 obtain ⟨zk, zp, zs, zA, zc, zw, zBq, zd, zz⟩ := z
 have hcz : 1 + zw.length + cnt zz ≤ N + 1 := by rw [cnt_cons] at hz; simp only [cnt, Nat.add_zero] at hz; exact hz
 have hzl := length_cnt zz
 have HT : ∀ y ∈ zz, (tx y).length ≤ 140737488355000 → ∀ W, Below w.heap.size w W → Calls Tryz.prog 30 #[.agg (nv y)] W fun e w' => (∃ s : ByteArray, e = .returned (.string s) ∧ lst s = tx y) ∧ Below W.heap.size W w' := fun y hy h W hW => ih y (by
  have h1 := cnt_mem hy
  rw [cnt_cons]
  simp only [cnt, Nat.add_zero]
  omega) h W (((hnd.kids.mem hy).below hW).mono hW.size)
 have HL : (jc (txs zz)).length ≤ 140737488355000 → ∀ W, Below w.heap.size w W → Calls Tryz.prog 58 #[.slice zBq zz.length zd, .slice none 0 0] W fun e w' => (∃ s : ByteArray, e = .returned (.string s) ∧ lst s = jc (txs zz)) ∧ Below W.heap.size W w' := fun h W hW =>
  list10N_any zBq zd zz W ((hnd.at.2.1.below hW).mono hW.size) (by omega) (by omega) fun y hy W' h' _ => HT y hy (zM (mem_jc (by rw [txs_map]; exact List.mem_map_of_mem hy)) h) W' (hW.trans (h'.mono hW.size))
 have hTX : tx (.mk zk zp zs zA zc zw zBq zd zz) = tx1 zk (lst zs) (wtx zw) (txs zz) := rfl
 show Calls Tryz.prog 30 #[.agg #[.int .i64 zk, .int .i64 zp, .string zs, .slice zA zw.length zc, .slice zBq zz.length zd]] w _
 rw [hTX] at hl ⊢
 by_cases h1 : zk = 1
 ·subst h1
  rw [tx1_1]
  exact text10_1 zp zs zA zc zw zBq zd zz w
 ·by_cases h2 : zk = 2
  ·subst h2
   rw [tx1_2]
   exact text10_2 zp zs zA zc zw zBq zd zz w
  ·by_cases h4 : zk = 4
   ·subst h4
    rw [tx1_4] at hl ⊢
    have h2 : (jc (txs zz)).length ≤ 140737488355000 := by simp only [zA8, zA7, zA9] at hl; omega
    exact text10_4 zp zs zA zc zw zBq zd zz w h2 (HL h2)
   ·by_cases h5 : zk = 5
    ·subst h5
     rw [tx1_5] at hl ⊢
     have h2 : (jc (txs zz)).length ≤ 140737488355000 := by simp only [zA8, zA7, zA9] at hl; omega
     exact text10_5 zp zs zA zc zw zBq zd zz w h2 (HL h2)
    ·by_cases h8 : zk = 8
     ·subst h8
      rw [tx1_8] at hl ⊢
      have h2 : (jc (txs zz)).length ≤ 140737488355000 := by simp only [zA8, zA7, zA9] at hl; omega
      exact text10_8 zp zs zA zc zw zBq zd zz w h2 (HL h2)
     ·by_cases h9 : zk = 9
      ·subst h9
       rw [tx1_9] at hl ⊢
       have h2 : (jc (txs zz)).length ≤ 140737488355000 := by simp only [zA8, zA7, zA9] at hl; omega
       exact text10_9 zp zs zA zc zw zBq zd zz w h2 (HL h2)
      ·by_cases h3 : zk = 3
       ·subst h3
        rw [tx1_3] at hl ⊢
        have h2 : (jc (wtx zw)).length ≤ 140737488355000 := by simp only [zA8, zA7, zA9] at hl; omega
        exact text10_3 zp zs zA zc zw zBq zd zz w hnd.at.1.1 (by omega) h2
       ·by_cases h6 : zk = 6
        ·subst h6
         rw [tx1_6] at hl ⊢
         have h2 : zs.size + (jc (wtx zw)).length ≤ 140737488355000 := by simp only [zA8, zA7, zA9, lst_length] at hl; omega
         exact text10_6 zp zs zA zc zw zBq zd zz w hnd.at.1.1 (by omega) h2
        ·by_cases h7 : zk = 7
         ·subst h7
          rw [tx1_7] at hl ⊢
          cases zz with
          | nil =>
            rw [show (txs ([] : List Nd)).headD [] = [] by simp [txs]]
            exact text10_7n zp zs zA zc zw zBq zd [] w rfl
          | cons x r =>
            rw [txs_cons, List.headD_cons] at hl ⊢
            have h2 : (tx x).length ≤ 140737488355000 := by simp only [zA8] at hl; omega
            exact text10_7c zp zs zA zc zw zBq zd (x :: r) w x r rfl hnd.at.2.1 h2 (fun W hW => HT x (by simp) h2 W hW)
         ·by_cases h11 : zk = 11
          ·subst h11
           rw [tx1_11] at hl ⊢
           cases zz with
           | nil =>
             rw [show (txs ([] : List Nd)).headD [] = [] by simp [txs]] at hl ⊢
             exact text10_11n zp zs zA zc zw zBq zd [] w rfl (by simp only [zA7, lst_length] at hl; omega)
           | cons x r =>
             rw [txs_cons, List.headD_cons] at hl ⊢
             have h2 : zs.size + (tx x).length ≤ 140737488355000 := by simp only [zA8, zA7, lst_length] at hl; omega
             exact text10_11c zp zs zA zc zw zBq zd (x :: r) w x r rfl hnd.at.2.1 h2 (fun W hW => HT x (by simp) (by omega) W hW)
          ·by_cases h10 : zk = 10
           ·subst h10
            rw [tx1_10] at hl ⊢
            by_cases hw : zw.length = 0
            ·obtain rfl : zw = [] := List.length_eq_zero_iff.1 hw
             rw [if_pos (by simp [wtx])] at hl ⊢
             have h2 : (jc (txs zz)).length ≤ 140737488355000 := by simp only [zA8, zA7, zA9] at hl; omega
             exact text10_10n zp zs zA zc [] zBq zd zz w rfl h2 (HL h2)
            ·rw [if_neg (fun e => hw (by have := congrArg List.length e; simpa [wtx] using this))] at hl ⊢
             have h2 : (jc (txs zz)).length + (jc (wtx zw)).length ≤ 140737488355000 := by simp only [zA8, zA7, zA9] at hl; omega
             exact text10_10r zp zs zA zc zw zBq zd zz w hnd.at.1.1 (by omega) hw h2 (HL (by omega))
           ·rw [tx1_else _ _ _ h1 h2 h7 h11 h4 h8 h9 h5 h3 h6 h10]
            exact text10_else (zk := zk) (zp := zp) (zs := zs) (zA := zA) (zc := zc) (zw := zw) (zBq := zBq) (zd := zd) (zz := zz) (w := w) h1 h2 h3 h4 h5 h6 h7 h8 h9 h10 h11
theorem text10_any : ∀ N, N ≤ 4294967296 → ∀ y, cnt [y] ≤ N → (tx y).length ≤ 140737488355000 → ∀ w, Nods w w.heap.size [y] → Calls Tryz.prog 30 #[.agg (nv y)] w fun e w' => (∃ s : ByteArray, e = .returned (.string s) ∧ lst s = tx y) ∧ Below w.heap.size w w' := by
 intro N
 induction N with
 | zero => intro _ z hz; rw [cnt_cons] at hz; omega
 | succ N ih => intro h z hz; exact text10_step N (by omega) (ih (by omega)) z hz
end
end Go.Proofs.YtmffnkfohmbbeaaGreatDoor
