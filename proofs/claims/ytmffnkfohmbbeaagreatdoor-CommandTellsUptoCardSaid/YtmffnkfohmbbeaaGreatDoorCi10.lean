/- Texts that all the claims need. Conditions: those that each states. -/

import Derived.Test.YtmffnkfohmbbeaaGreatDoorCi9
set_option linter.unusedSimpArgs false
set_option linter.unusedVariables false
set_option maxRecDepth 100000
set_option maxHeartbeats 40000000
namespace Go.Proofs.YtmffnkfohmbbeaaGreatDoor
section
open Go.RowKit LX TR TM
theorem right10_any (A : Option Addr) (c : Nat) (ws : List Wd) (hn : ws.length ≤ 1099511627776) (w : World) (hA : Sl w w.heap.size A (wcs ws)) :
 Calls Tryz.prog 79 #[.slice A ws.length c] w fun e w' => e = .returned (.bool (wrB ws)) ∧ Dr w w' := by
 have HA := zh hA; clear hA
 have HHIT : Hid (∀ i, i < ws.length → NM.right (ws.getD i w0).s = false → wrB ws = false) := fun i hi h => by
  unfold wrB
  rw [List.all_eq_false]
  refine ⟨_, ?_, by rw [h]; simp⟩
  rw [List.getD_eq_getElem?_getD, List.getElem?_eq_getElem hi]
  exact List.getElem_mem hi
 have HMISS : Hid ((∀ j, j < ws.length → NM.right (ws.getD j w0).s = true) → wrB ws = true) := fun h => by
  unfold wrB
  rw [List.all_eq_true]
  intro x hx
  obtain ⟨j, hj, rfl⟩ := List.mem_iff_getElem.1 hx
  have := h j hj
  rw [List.getD_eq_getElem?_getD, List.getElem?_eq_getElem hj, Option.getD_some] at this
  exact this
 generalize wrB ws = R at *
 generalize hm : ws.length = n at *
 have HN := zh hm; clear hm
 go_enter Tryz.func79, Tryz.ntmps79
 go_wp2_with fail
 go_loopw [3] (fun iv wr => ∃ i : Nat, i ≤ n ∧ iv = .int .i64 i ∧ Hid (∀ j, j < i → NM.right (ws.getD j w0).s = true) ∧ Hid (Dr w wr)) (fun iv _ => n - (intOf iv).toNat)
 case atStart => exact ⟨0, by omega, rfl, fun j hj => by omega, Dr.refl _⟩
 case round =>
  obtain ⟨i, hi, rfl, HB, HW⟩ := hrel
  by_cases hlt : i < n
  ·obtain ⟨b1, o1, rfl, _, hc1⟩ := sl_at (z := w0) wcells_length (HA.out.below HW.out.below) (k := i) (by rw [HN.out]; exact hlt) (by omega)
   have p0 := hc1 i 0 _ (by rw [HN.out]; exact hlt) (by omega) rfl
   rw [Nat.add_zero] at p0
   have hin : (i : Int) < (n : Int) := by omega
   have HIN : Hid (NM.right (ws.getD i w0).s = true → ∀ j, j < i + 1 → NM.right (ws.getD j w0).s = true) := fun h j hj => by
        by_cases e : j = i
        ·rw [e]; exact h
        ·exact HB.out j (by omega)
   have HYS := zh (HHIT.out i hlt)
   clear hc1 HB
   have HC := zh (refRight_any (ws.getD i w0).s wr)
   generalize (NM.right (ws.getD i w0).s) = q at *
   generalize (ws.getD i w0) = x at *
   obtain ⟨s, p⟩ := x
   simp only at p0 HC
   cases q
   ·have HYS2 := zh (HYS.out rfl)
    clear HIN HYS
    go_wp2_with fail
    refine HC.out.mono ?_
    rintro e' w4 ⟨rfl, hb⟩
    have HW4 := zh (HW.out.trans hb)
    clear hb
    go_wp2_with fail
    go_ret
    exact ⟨ret_eq (bool_eq HYS2.out.symm), HW4.out⟩
   ·have HIN2 := zh (HIN.out rfl)
    clear HIN HYS
    go_wp2_with fail
    refine HC.out.mono ?_
    rintro e' w4 ⟨rfl, hb⟩
    have HW4 := zh (HW.out.trans hb)
    clear hb
    go_wp2_with fail
    go_roundw
    case rel => exact ⟨i + 1, by omega, by go_num, HIN2, HW4⟩
    case measure => simp [intOf]; omega
  ·obtain rfl : i = n := by omega
   have HNO := zh (HMISS.out HB.out)
   go_wp2_with fail
   go_ret
   exact ⟨ret_eq (bool_eq HNO.out.symm), HW.out⟩
end
section
open Go.RowKit LX TR TM
theorem all10_1 (A : Option Addr) (c : Nat) (zs : List Nd) (hn : zs.length ≤ 1099511627776) (w : World) (hnd : Nods w w.heap.size zs) (hA : Sl w w.heap.size A (ncs zs))
 (hF : ∀ z ∈ zs, ∀ W, Below w.heap.size w W → Calls Tryz.prog 108 #[.agg (nv z)] W fun e w' => e = .returned (.bool (fl z).c) ∧ Below W.heap.size W w') :
 Calls Tryz.prog 78 #[.int .i64 1, .slice A zs.length c] w fun e w' => e = .returned (.bool (zs.all fun y => (fl y).c)) ∧ Below w.heap.size w w' := by
 have HA := zh hA; clear hA
 have HND := zh hnd; clear hnd
 have HFF : Hid (∀ i, i < zs.length → zs.getD i n0 ∈ zs) := fun i hi => by
  rw [List.getD_eq_getElem?_getD, List.getElem?_eq_getElem hi]
  exact List.getElem_mem hi
 have HF := zh hF; clear hF
 have HHIT : Hid (∀ i, i < zs.length → (fl (zs.getD i n0)).c = false → (zs.all fun y => (fl y).c) = false) := fun i hi h => by
  rw [List.all_eq_false]
  exact ⟨_, HFF.out i hi, by rw [h]; simp⟩
 have HMISS : Hid ((∀ j, j < zs.length → (fl (zs.getD j n0)).c = true) → (zs.all fun y => (fl y).c) = true) := fun h => by
  rw [List.all_eq_true]
  intro x hx
  obtain ⟨j, hj, rfl⟩ := List.mem_iff_getElem.1 hx
  have := h j hj
  rw [List.getD_eq_getElem?_getD, List.getElem?_eq_getElem hj, Option.getD_some] at this
  exact this
 generalize (zs.all fun y => (fl y).c) = R at *
 generalize hm : zs.length = n at *
 have HN := zh hm; clear hm
 go_enter Tryz.func78, Tryz.ntmps78
 go_wp2_with fail
 go_loopw [5, 6, 7] (fun iv _ _ wr => ∃ i : Nat, i ≤ n ∧ iv = .int .i64 i ∧ Hid (∀ j, j < i → (fl (zs.getD j n0)).c = true) ∧ Hid (Below w.heap.size w wr)) (fun iv _ _ _ => n - (intOf iv).toNat)
 case atStart => exact ⟨0, by omega, rfl, fun j hj => by omega, zB _ _⟩
 case round =>
  obtain ⟨i, hi, rfl, HB, HW⟩ := hrel
  by_cases hlt : i < n
  ·obtain ⟨bb, o, rfl, hbb, hc⟩ := sl_at (z := n0) ncells_length (HA.out.below HW.out) (k := i) (by rw [HN.out]; exact hlt) (by omega)
   have q0 := hc i 0 _ (by rw [HN.out]; exact hlt) (by omega) rfl
   have q1 := hc i 1 _ (by rw [HN.out]; exact hlt) (by omega) rfl
   have q2 := hc i 2 _ (by rw [HN.out]; exact hlt) (by omega) rfl
   have q3 := hc i 3 _ (by rw [HN.out]; exact hlt) (by omega) rfl
   have q4 := hc i 4 _ (by rw [HN.out]; exact hlt) (by omega) rfl
   rw [Nat.add_zero] at q0
   rw [← Nat.add_assoc] at q1 q2 q3 q4
   have HIN : Hid ((fl (zs.getD i n0)).c = true → ∀ j, j < i + 1 → (fl (zs.getD j n0)).c = true) := fun h j hj => by
        by_cases e : j = i
        ·rw [e]; exact h
        ·exact HB.out j (by omega)
   have HYS := zh (HHIT.out i hlt)
   have hin : (i : Int) < (n : Int) := by omega
   have HMM := zh (HFF.out i hlt)
   clear hc HB
   have HC := zh (fun W (h : Below w.heap.size w W) => HF.out _ HMM.out W h)
   generalize zs.getD i n0 = z at *
   obtain ⟨zk, zp, zs9, zA, zc, zw, zBq, zd, zz⟩ := z
   unfold nv at HC
   simp only [Nd.k, Nd.p, Nd.s, Nd.A, Nd.c, Nd.ws, Nd.B, Nd.d, Nd.ks] at q0 q1 q2 q3 q4 HC
   have hn := RowAt.new wr 28 #[.int .i64 zk, .int .i64 zp, .string zs9, .slice zA zw.length zc, .slice zBq zz.length zd]
   have HB1 : Hid (Below w.heap.size w (wr.alloc (.cells #[.int .i64 zk, .int .i64 zp, .string zs9, .slice zA zw.length zc, .slice zBq zz.length zd] 28))) := HW.out.alloc HW.out.size _
   obtain ⟨m0, m1, m2, m3, m4, _, _, _, _, _⟩ := row5 hn
   clear hn
   generalize (fl (.mk zk zp zs9 zA zc zw zBq zd zz)).c = q at *
   cases q
   ·have HYS2 := zh (HYS.out rfl)
    clear HIN HYS
    go_wp2_with fail
    refine (HC.out _ HB1.out).mono ?_
    rintro e w4 ⟨rfl, hb⟩
    have HW4 := zh (HB1.out.trans (hb.mono HB1.out.size))
    clear hb
    go_wp2_with fail
    go_ret
    exact ⟨ret_eq (bool_eq HYS2.out.symm), HW4.out⟩
   ·have HIN2 := zh (HIN.out rfl)
    clear HIN HYS
    go_wp2_with fail
    refine (HC.out _ HB1.out).mono ?_
    rintro e w4 ⟨rfl, hb⟩
    have HW4 := zh (HB1.out.trans (hb.mono HB1.out.size))
    clear hb
    go_wp2_with fail
    go_roundw
    case rel => exact ⟨i + 1, by omega, by go_num, HIN2, HW4⟩
    case measure => simp [intOf]; omega
  ·obtain rfl : i = n := by omega
   have HNO := zh (HMISS.out HB.out)
   go_wp2_with fail
   go_ret
   exact ⟨ret_eq (bool_eq HNO.out.symm), HW.out⟩
theorem all10_3 (A : Option Addr) (c : Nat) (zs : List Nd) (hn : zs.length ≤ 1099511627776) (w : World) (hnd : Nods w w.heap.size zs) (hA : Sl w w.heap.size A (ncs zs))
 (hF : ∀ z ∈ zs, ∀ W, Below w.heap.size w W → Calls Tryz.prog 44 #[.agg (nv z)] W fun e w' => e = .returned (.bool (fl z).l) ∧ Below W.heap.size W w') :
 Calls Tryz.prog 78 #[.int .i64 3, .slice A zs.length c] w fun e w' => e = .returned (.bool (zs.all fun y => (fl y).l)) ∧ Below w.heap.size w w' := by
 have HA := zh hA; clear hA
 have HND := zh hnd; clear hnd
 have HFF : Hid (∀ i, i < zs.length → zs.getD i n0 ∈ zs) := fun i hi => by
  rw [List.getD_eq_getElem?_getD, List.getElem?_eq_getElem hi]
  exact List.getElem_mem hi
 have HF := zh hF; clear hF
 have HHIT : Hid (∀ i, i < zs.length → (fl (zs.getD i n0)).l = false → (zs.all fun y => (fl y).l) = false) := fun i hi h => by
  rw [List.all_eq_false]
  exact ⟨_, HFF.out i hi, by rw [h]; simp⟩
 have HMISS : Hid ((∀ j, j < zs.length → (fl (zs.getD j n0)).l = true) → (zs.all fun y => (fl y).l) = true) := fun h => by
  rw [List.all_eq_true]
  intro x hx
  obtain ⟨j, hj, rfl⟩ := List.mem_iff_getElem.1 hx
  have := h j hj
  rw [List.getD_eq_getElem?_getD, List.getElem?_eq_getElem hj, Option.getD_some] at this
  exact this
 generalize (zs.all fun y => (fl y).l) = R at *
 generalize hm : zs.length = n at *
 have HN := zh hm; clear hm
 go_enter Tryz.func78, Tryz.ntmps78
 go_wp2_with fail
 go_loopw [5, 6, 7] (fun iv _ _ wr => ∃ i : Nat, i ≤ n ∧ iv = .int .i64 i ∧ Hid (∀ j, j < i → (fl (zs.getD j n0)).l = true) ∧ Hid (Below w.heap.size w wr)) (fun iv _ _ _ => n - (intOf iv).toNat)
 case atStart => exact ⟨0, by omega, rfl, fun j hj => by omega, zB _ _⟩
 case round =>
  obtain ⟨i, hi, rfl, HB, HW⟩ := hrel
  by_cases hlt : i < n
  ·obtain ⟨bb, o, rfl, hbb, hc⟩ := sl_at (z := n0) ncells_length (HA.out.below HW.out) (k := i) (by rw [HN.out]; exact hlt) (by omega)
   have q0 := hc i 0 _ (by rw [HN.out]; exact hlt) (by omega) rfl
   have q1 := hc i 1 _ (by rw [HN.out]; exact hlt) (by omega) rfl
   have q2 := hc i 2 _ (by rw [HN.out]; exact hlt) (by omega) rfl
   have q3 := hc i 3 _ (by rw [HN.out]; exact hlt) (by omega) rfl
   have q4 := hc i 4 _ (by rw [HN.out]; exact hlt) (by omega) rfl
   rw [Nat.add_zero] at q0
   rw [← Nat.add_assoc] at q1 q2 q3 q4
   have HIN : Hid ((fl (zs.getD i n0)).l = true → ∀ j, j < i + 1 → (fl (zs.getD j n0)).l = true) := fun h j hj => by
        by_cases e : j = i
        ·rw [e]; exact h
        ·exact HB.out j (by omega)
   have HYS := zh (HHIT.out i hlt)
   have hin : (i : Int) < (n : Int) := by omega
   have HMM := zh (HFF.out i hlt)
   clear hc HB
   have HC := zh (fun W (h : Below w.heap.size w W) => HF.out _ HMM.out W h)
   generalize zs.getD i n0 = z at *
   obtain ⟨zk, zp, zs9, zA, zc, zw, zBq, zd, zz⟩ := z
   unfold nv at HC
   simp only [Nd.k, Nd.p, Nd.s, Nd.A, Nd.c, Nd.ws, Nd.B, Nd.d, Nd.ks] at q0 q1 q2 q3 q4 HC
   have hn := RowAt.new wr 28 #[.int .i64 zk, .int .i64 zp, .string zs9, .slice zA zw.length zc, .slice zBq zz.length zd]
   have HB1 : Hid (Below w.heap.size w (wr.alloc (.cells #[.int .i64 zk, .int .i64 zp, .string zs9, .slice zA zw.length zc, .slice zBq zz.length zd] 28))) := HW.out.alloc HW.out.size _
   obtain ⟨m0, m1, m2, m3, m4, _, _, _, _, _⟩ := row5 hn
   clear hn
   generalize (fl (.mk zk zp zs9 zA zc zw zBq zd zz)).l = q at *
   cases q
   ·have HYS2 := zh (HYS.out rfl)
    clear HIN HYS
    go_wp2_with fail
    refine (HC.out _ HB1.out).mono ?_
    rintro e w4 ⟨rfl, hb⟩
    have HW4 := zh (HB1.out.trans (hb.mono HB1.out.size))
    clear hb
    go_wp2_with fail
    go_ret
    exact ⟨ret_eq (bool_eq HYS2.out.symm), HW4.out⟩
   ·have HIN2 := zh (HIN.out rfl)
    clear HIN HYS
    go_wp2_with fail
    refine (HC.out _ HB1.out).mono ?_
    rintro e w4 ⟨rfl, hb⟩
    have HW4 := zh (HB1.out.trans (hb.mono HB1.out.size))
    clear hb
    go_wp2_with fail
    go_roundw
    case rel => exact ⟨i + 1, by omega, by go_num, HIN2, HW4⟩
    case measure => simp [intOf]; omega
  ·obtain rfl : i = n := by omega
   have HNO := zh (HMISS.out HB.out)
   go_wp2_with fail
   go_ret
   exact ⟨ret_eq (bool_eq HNO.out.symm), HW.out⟩
end
section
open Go.RowKit LX TR TM
theorem fl_at (x : Nd) : (fl x).at' = ((fl x).l && (decide (x.k ≠ 8) && decide (x.k ≠ 9))) := by
 obtain ⟨k, p, s, A, c, ws, B, d, ks⟩ := x
 show atB k s ws (fls ks) = (lB k s ws (fls ks) && (decide (k ≠ 8) && decide (k ≠ 9)))
 by_cases h8 : k = 8
 ·subst h8; simp [atB]
 ·by_cases h9 : k = 9
  ·subst h9; simp [atB]
  ·simp [lB, h8, h9]
theorem all10_2 (A : Option Addr) (c : Nat) (zs : List Nd) (hn : zs.length ≤ 1099511627776) (w : World) (hnd : Nods w w.heap.size zs) (hA : Sl w w.heap.size A (ncs zs))
 (hF : ∀ z ∈ zs, z.ws.length ≤ 1099511627776) :
 Calls Tryz.prog 78 #[.int .i64 2, .slice A zs.length c] w fun e w' => e = .returned (.bool (zs.all fun y => (fl y).ru)) ∧ Below w.heap.size w w' := by
 have HA := zh hA; clear hA
 have HND := zh hnd; clear hnd
 have HFF : Hid (∀ i, i < zs.length → zs.getD i n0 ∈ zs) := fun i hi => by
  rw [List.getD_eq_getElem?_getD, List.getElem?_eq_getElem hi]
  exact List.getElem_mem hi
 have HF := zh hF; clear hF
 have HHIT : Hid (∀ i, i < zs.length → (fl (zs.getD i n0)).ru = false → (zs.all fun y => (fl y).ru) = false) := fun i hi h => by
  rw [List.all_eq_false]
  exact ⟨_, HFF.out i hi, by rw [h]; simp⟩
 have HMISS : Hid ((∀ j, j < zs.length → (fl (zs.getD j n0)).ru = true) → (zs.all fun y => (fl y).ru) = true) := fun h => by
  rw [List.all_eq_true]
  intro x hx
  obtain ⟨j, hj, rfl⟩ := List.mem_iff_getElem.1 hx
  have := h j hj
  rw [List.getD_eq_getElem?_getD, List.getElem?_eq_getElem hj, Option.getD_some] at this
  exact this
 generalize (zs.all fun y => (fl y).ru) = R at *
 generalize hm : zs.length = n at *
 have HN := zh hm; clear hm
 go_enter Tryz.func78, Tryz.ntmps78
 go_wp2_with fail
 go_loopw [5, 6, 7] (fun iv _ _ wr => ∃ i : Nat, i ≤ n ∧ iv = .int .i64 i ∧ Hid (∀ j, j < i → (fl (zs.getD j n0)).ru = true) ∧ Hid (Below w.heap.size w wr)) (fun iv _ _ _ => n - (intOf iv).toNat)
 case atStart => exact ⟨0, by omega, rfl, fun j hj => by omega, zB _ _⟩
 case round =>
  obtain ⟨i, hi, rfl, HB, HW⟩ := hrel
  by_cases hlt : i < n
  ·obtain ⟨bb, o, rfl, hbb, hc⟩ := sl_at (z := n0) ncells_length (HA.out.below HW.out) (k := i) (by rw [HN.out]; exact hlt) (by omega)
   have q0 := hc i 0 _ (by rw [HN.out]; exact hlt) (by omega) rfl
   have q1 := hc i 1 _ (by rw [HN.out]; exact hlt) (by omega) rfl
   have q2 := hc i 2 _ (by rw [HN.out]; exact hlt) (by omega) rfl
   have q3 := hc i 3 _ (by rw [HN.out]; exact hlt) (by omega) rfl
   have q4 := hc i 4 _ (by rw [HN.out]; exact hlt) (by omega) rfl
   rw [Nat.add_zero] at q0
   rw [← Nat.add_assoc] at q1 q2 q3 q4
   have HIN : Hid ((fl (zs.getD i n0)).ru = true → ∀ j, j < i + 1 → (fl (zs.getD j n0)).ru = true) := fun h j hj => by
        by_cases e : j = i
        ·rw [e]; exact h
        ·exact HB.out j (by omega)
   have HYS := zh (HHIT.out i hlt)
   have hin : (i : Int) < (n : Int) := by omega
   have HMM := zh (HFF.out i hlt)
   clear hc HB
   have HS := zh (HND.out _ (mem_all HMM.out))
   generalize zs.getD i n0 = z at *
   obtain ⟨zk, zp, zs9, zA, zc, zw, zBq, zd, zz⟩ := z
   simp only [Nd.k, Nd.p, Nd.s, Nd.A, Nd.c, Nd.ws, Nd.B, Nd.d, Nd.ks] at q0 q1 q2 q3 q4 HS
   have HSW := zh (fun W (h : Below w.heap.size w W) => (HS.out.1.1.below h).mono h.size)
   have HSK := zh (fun W (h : Below w.heap.size w W) => (HS.out.2.1.below h).mono h.size)
   have hn := RowAt.new wr 28 #[.int .i64 zk, .int .i64 zp, .string zs9, .slice zA zw.length zc, .slice zBq zz.length zd]
   have HB1 : Hid (Below w.heap.size w (wr.alloc (.cells #[.int .i64 zk, .int .i64 zp, .string zs9, .slice zA zw.length zc, .slice zBq zz.length zd] 28))) := HW.out.alloc HW.out.size _
   have HRR := zh hn
   obtain ⟨m0, m1, m2, m3, m4, _, _, _, _, _⟩ := row5 hn
   clear hn
   have HRG := zh (refRight_any zs9)
   have hwl : zw.length ≤ 1099511627776 := HF.out _ HMM.out
   have HG := zh (fun W (h : Below w.heap.size w W) => right10_any zA zc zw hwl W (HSW.out W h))
   have HX : Hid ((fl (.mk zk zp zs9 zA zc zw zBq zd zz)).ru = (decide (zk = 6) && (NM.right zs9 && (decide (zz.length = 0) && wrB zw)))) := by
        show ruB zk zs9 zw (fls zz).length = _
        rw [fls_length]; rfl
   rw [HX.out] at HYS HIN
   clear HX hwl
   generalize NM.right zs9 = r at *
   generalize wrB zw = rr at *
   generalize zw.length = nw at *
   generalize zz.length = nz at *
   by_cases hk : zk = 6
   ·subst hk
    cases r
    ·have HYS2 := zh (HYS.out (by simp))
     clear HIN HYS
     go_wp2_with fail
     refine (HRG.out _).mono ?_
     rintro e w4 ⟨rfl, hd⟩
     have HB4 := zh (HB1.out.trans (hd.below.mono HB1.out.size))
     have HRR4 := zh (HRR.out.below hd.below HRR.out.lt)
     obtain ⟨m0, m1, m2, m3, m4, _, _, _, _, _⟩ := row5 HRR4.out
     clear hd
     go_wp2_with fail
     go_ret
     exact ⟨ret_eq (bool_eq HYS2.out.symm), HB4.out⟩
    ·cases rr
     ·have HYS2 := zh (HYS.out (by simp))
      clear HIN HYS
      go_wp2_with fail
      refine (HRG.out _).mono ?_
      rintro e w4 ⟨rfl, hd⟩
      have HB4 := zh (HB1.out.trans (hd.below.mono HB1.out.size))
      have HRR4 := zh (HRR.out.below hd.below HRR.out.lt)
      obtain ⟨m0, m1, m2, m3, m4, _, _, _, _, _⟩ := row5 HRR4.out
      clear hd
      go_wp2_with fail
      refine (HG.out _ HB4.out).mono ?_
      rintro e w5 ⟨rfl, hd⟩
      have HB5 := zh (HB4.out.trans (hd.below.mono HB4.out.size))
      have HRR5 := zh (HRR4.out.below hd.below HRR4.out.lt)
      obtain ⟨m0, m1, m2, m3, m4, _, _, _, _, _⟩ := row5 HRR5.out
      clear hd
      go_wp2_with fail
      go_ret
      exact ⟨ret_eq (bool_eq HYS2.out.symm), HB5.out⟩
     ·by_cases hz : nz ≤ 0
      ·have qz : ((nz : Int) == 0) = true := by rw [beq_iff_eq]; omega
       have HIN2 := zh (HIN.out (by simp; omega))
       clear hz
       clear HIN HYS
       go_wp2_with fail
       refine (HRG.out _).mono ?_
       rintro e w4 ⟨rfl, hd⟩
       have HB4 := zh (HB1.out.trans (hd.below.mono HB1.out.size))
       have HRR4 := zh (HRR.out.below hd.below HRR.out.lt)
       obtain ⟨m0, m1, m2, m3, m4, _, _, _, _, _⟩ := row5 HRR4.out
       clear hd
       go_wp2_with fail
       refine (HG.out _ HB4.out).mono ?_
       rintro e w5 ⟨rfl, hd⟩
       have HB5 := zh (HB4.out.trans (hd.below.mono HB4.out.size))
       have HRR5 := zh (HRR4.out.below hd.below HRR4.out.lt)
       obtain ⟨m0, m1, m2, m3, m4, _, _, _, _, _⟩ := row5 HRR5.out
       clear hd
       go_wp2_with fail
       go_roundw
       case rel => exact ⟨i + 1, by omega, by go_num, HIN2, HB5⟩
       case measure => simp [intOf]; omega
      ·have qz : ((nz : Int) == 0) = false := by rw [beq_eq_false_iff_ne]; omega
       have HYS2 := zh (HYS.out (by simp; omega))
       clear HIN HYS
       go_wp2_with fail
       refine (HRG.out _).mono ?_
       rintro e w4 ⟨rfl, hd⟩
       have HB4 := zh (HB1.out.trans (hd.below.mono HB1.out.size))
       have HRR4 := zh (HRR.out.below hd.below HRR.out.lt)
       obtain ⟨m0, m1, m2, m3, m4, _, _, _, _, _⟩ := row5 HRR4.out
       clear hd
       go_wp2_with fail
       refine (HG.out _ HB4.out).mono ?_
       rintro e w5 ⟨rfl, hd⟩
       have HB5 := zh (HB4.out.trans (hd.below.mono HB4.out.size))
       have HRR5 := zh (HRR4.out.below hd.below HRR4.out.lt)
       obtain ⟨m0, m1, m2, m3, m4, _, _, _, _, _⟩ := row5 HRR5.out
       clear hd
       go_wp2_with fail
       go_ret
       exact ⟨ret_eq (bool_eq HYS2.out.symm), HB5.out⟩
   ·have q6 : (zk == 6) = false := by rw [beq_eq_false_iff_ne]; exact hk
    have HYS2 := zh (HYS.out (by simp [hk]))
    clear HIN HYS
    go_wp2_with fail
    go_ret
    exact ⟨ret_eq (bool_eq HYS2.out.symm), HB1.out⟩
  ·obtain rfl : i = n := by omega
   have HNO := zh (HMISS.out HB.out)
   go_wp2_with fail
   go_ret
   exact ⟨ret_eq (bool_eq HNO.out.symm), HW.out⟩
theorem all10_4 (A : Option Addr) (c : Nat) (zs : List Nd) (hn : zs.length ≤ 1099511627776) (w : World) (hnd : Nods w w.heap.size zs) (hA : Sl w w.heap.size A (ncs zs))
 (hF : ∀ z ∈ zs, ∀ x ∈ z.ks, ∀ W, Below w.heap.size w W → Calls Tryz.prog 44 #[.agg (nv x)] W fun e w' => e = .returned (.bool (fl x).l) ∧ Below W.heap.size W w') :
 Calls Tryz.prog 78 #[.int .i64 4, .slice A zs.length c] w fun e w' => e = .returned (.bool (zs.all fun y => (fl y).fi)) ∧ Below w.heap.size w w' := by
 have HA := zh hA; clear hA
 have HND := zh hnd; clear hnd
 have HFF : Hid (∀ i, i < zs.length → zs.getD i n0 ∈ zs) := fun i hi => by
  rw [List.getD_eq_getElem?_getD, List.getElem?_eq_getElem hi]
  exact List.getElem_mem hi
 have HF := zh hF; clear hF
 have HHIT : Hid (∀ i, i < zs.length → (fl (zs.getD i n0)).fi = false → (zs.all fun y => (fl y).fi) = false) := fun i hi h => by
  rw [List.all_eq_false]
  exact ⟨_, HFF.out i hi, by rw [h]; simp⟩
 have HMISS : Hid ((∀ j, j < zs.length → (fl (zs.getD j n0)).fi = true) → (zs.all fun y => (fl y).fi) = true) := fun h => by
  rw [List.all_eq_true]
  intro x hx
  obtain ⟨j, hj, rfl⟩ := List.mem_iff_getElem.1 hx
  have := h j hj
  rw [List.getD_eq_getElem?_getD, List.getElem?_eq_getElem hj, Option.getD_some] at this
  exact this
 generalize (zs.all fun y => (fl y).fi) = R at *
 generalize hm : zs.length = n at *
 have HN := zh hm; clear hm
 go_enter Tryz.func78, Tryz.ntmps78
 go_wp2_with fail
 go_loopw [5, 6, 7] (fun iv _ _ wr => ∃ i : Nat, i ≤ n ∧ iv = .int .i64 i ∧ Hid (∀ j, j < i → (fl (zs.getD j n0)).fi = true) ∧ Hid (Below w.heap.size w wr)) (fun iv _ _ _ => n - (intOf iv).toNat)
 case atStart => exact ⟨0, by omega, rfl, fun j hj => by omega, zB _ _⟩
 case round =>
  obtain ⟨i, hi, rfl, HB, HW⟩ := hrel
  by_cases hlt : i < n
  ·obtain ⟨bb, o, rfl, hbb, hc⟩ := sl_at (z := n0) ncells_length (HA.out.below HW.out) (k := i) (by rw [HN.out]; exact hlt) (by omega)
   have q0 := hc i 0 _ (by rw [HN.out]; exact hlt) (by omega) rfl
   have q1 := hc i 1 _ (by rw [HN.out]; exact hlt) (by omega) rfl
   have q2 := hc i 2 _ (by rw [HN.out]; exact hlt) (by omega) rfl
   have q3 := hc i 3 _ (by rw [HN.out]; exact hlt) (by omega) rfl
   have q4 := hc i 4 _ (by rw [HN.out]; exact hlt) (by omega) rfl
   rw [Nat.add_zero] at q0
   rw [← Nat.add_assoc] at q1 q2 q3 q4
   have HIN : Hid ((fl (zs.getD i n0)).fi = true → ∀ j, j < i + 1 → (fl (zs.getD j n0)).fi = true) := fun h j hj => by
        by_cases e : j = i
        ·rw [e]; exact h
        ·exact HB.out j (by omega)
   have HYS := zh (HHIT.out i hlt)
   have hin : (i : Int) < (n : Int) := by omega
   have HMM := zh (HFF.out i hlt)
   clear hc HB
   have HS := zh (HND.out _ (mem_all HMM.out))
   generalize zs.getD i n0 = z at *
   obtain ⟨zk, zp, zs9, zA, zc, zw, zBq, zd, zz⟩ := z
   simp only [Nd.k, Nd.p, Nd.s, Nd.A, Nd.c, Nd.ws, Nd.B, Nd.d, Nd.ks] at q0 q1 q2 q3 q4 HS
   have HSW := zh (fun W (h : Below w.heap.size w W) => (HS.out.1.1.below h).mono h.size)
   have HSK := zh (fun W (h : Below w.heap.size w W) => (HS.out.2.1.below h).mono h.size)
   have hn := RowAt.new wr 28 #[.int .i64 zk, .int .i64 zp, .string zs9, .slice zA zw.length zc, .slice zBq zz.length zd]
   have HB1 : Hid (Below w.heap.size w (wr.alloc (.cells #[.int .i64 zk, .int .i64 zp, .string zs9, .slice zA zw.length zc, .slice zBq zz.length zd] 28))) := HW.out.alloc HW.out.size _
   have HRR := zh hn
   obtain ⟨m0, m1, m2, m3, m4, _, _, _, _, _⟩ := row5 hn
   clear hn
   have HRG := zh (refRight_any zs9)
   have HX : Hid ((fl (.mk zk zp zs9 zA zc zw zBq zd zz)).fi = (decide (zk = 11) && (NM.right zs9 && (decide (zw.length = 0) && (decide (zz.length = 1) && ((fls zz).headD fl0).at'))))) := by
        show fiB zk zs9 zw (fls zz) = _
        unfold fiB
        rw [fls_length]
   rw [HX.out] at HYS HIN
   clear HX
   have HF2 : Hid (∀ x ∈ zz, ∀ W, Below w.heap.size w W → Calls Tryz.prog 44 #[.agg (nv x)] W fun e w' => e = .returned (.bool (fl x).l) ∧ Below W.heap.size W w') := fun x hx => HF.out _ HMM.out x hx
   generalize NM.right zs9 = r at *
   by_cases hk : zk = 11
   ·subst hk
    cases r
    ·generalize zw.length = nw at *
     generalize ((fls zz).headD fl0).at' = q at *
     generalize zz.length = nz at *
     have HYS2 := zh (HYS.out (by simp))
     clear HIN HYS
     go_wp2_with fail
     refine (HRG.out _).mono ?_
     rintro e w4 ⟨rfl, hd⟩
     have HB4 := zh (HB1.out.trans (hd.below.mono HB1.out.size))
     have HRR4 := zh (HRR.out.below hd.below HRR.out.lt)
     obtain ⟨m0, m1, m2, m3, m4, _, _, _, _, _⟩ := row5 HRR4.out
     clear hd
     go_wp2_with fail
     go_ret
     exact ⟨ret_eq (bool_eq HYS2.out.symm), HB4.out⟩
    ·by_cases hnw : zw.length ≤ 0
     ·by_cases hnz : zz.length = 1
      ·obtain ⟨x, rfl⟩ := List.length_eq_one_iff.1 hnz
       have HE : Hid (((fls [x]).headD fl0).at' = ((fl x).l && (decide (x.k ≠ 8) && decide (x.k ≠ 9)))) := by rw [fls_cons]; exact fl_at x
       rw [HE.out] at HYS HIN
       have HC := zh (HF2.out x (by simp))
       clear HE HF2
       generalize (fl x).l = q at *
       obtain ⟨xk, xp, xs, xA, xc, xw, xB, xd, xx⟩ := x
       unfold nv at HC
       simp only [Nd.k, Nd.p, Nd.s, Nd.A, Nd.c, Nd.ws, Nd.B, Nd.d, Nd.ks] at HC HYS HIN
       simp only [zA8, zA9, Nat.zero_add] at *
       generalize zw.length = nw at *
       cases q
       ·have HYS2 := zh (HYS.out (by simp))
        clear HIN HYS
        go_wp2_with fail
        refine (HRG.out _).mono ?_
        rintro e w4 ⟨rfl, hd⟩
        have HB4 := zh (HB1.out.trans (hd.below.mono HB1.out.size))
        have HRR4 := zh (HRR.out.below hd.below HRR.out.lt)
        obtain ⟨m0, m1, m2, m3, m4, _, _, _, _, _⟩ := row5 HRR4.out
        clear hd
        obtain ⟨b3, o3, hzB, _, hc⟩ := sl_at (z := n0) ncells_length (HSK.out w4 HB4.out) (k := 0) (by simp) (by omega)
        subst hzB
        have p0 := hc 0 0 _ (by simp) (by omega) rfl
        have p1 := hc 0 1 _ (by simp) (by omega) rfl
        have p2 := hc 0 2 _ (by simp) (by omega) rfl
        have p3 := hc 0 3 _ (by simp) (by omega) rfl
        have p4 := hc 0 4 _ (by simp) (by omega) rfl
        simp only [Nat.zero_mul, Nat.add_zero, Nat.zero_add, List.getD_cons_zero, Nd.k, Nd.p, Nd.s, Nd.A, Nd.c, Nd.ws, Nd.B, Nd.d, Nd.ks] at p0 p1 p2 p3 p4
        clear hc
        go_wp2_with fail
        refine (HC.out _ HB4.out).mono ?_
        rintro e w5 ⟨rfl, hd⟩
        have HB5 := zh (HB4.out.trans (hd.mono HB4.out.size))
        have HRR5 := zh (HRR4.out.below hd HRR4.out.lt)
        obtain ⟨m0, m1, m2, m3, m4, _, _, _, _, _⟩ := row5 HRR5.out
        clear hd
        go_wp2_with fail
        go_ret
        exact ⟨ret_eq (bool_eq HYS2.out.symm), HB5.out⟩
       ·by_cases h8 : xk = 8
        ·subst h8
         have HYS2 := zh (HYS.out (by simp))
         clear HIN HYS
         go_wp2_with fail
         refine (HRG.out _).mono ?_
         rintro e w4 ⟨rfl, hd⟩
         have HB4 := zh (HB1.out.trans (hd.below.mono HB1.out.size))
         have HRR4 := zh (HRR.out.below hd.below HRR.out.lt)
         obtain ⟨m0, m1, m2, m3, m4, _, _, _, _, _⟩ := row5 HRR4.out
         clear hd
         obtain ⟨b3, o3, hzB, _, hc⟩ := sl_at (z := n0) ncells_length (HSK.out w4 HB4.out) (k := 0) (by simp) (by omega)
         subst hzB
         have p0 := hc 0 0 _ (by simp) (by omega) rfl
         have p1 := hc 0 1 _ (by simp) (by omega) rfl
         have p2 := hc 0 2 _ (by simp) (by omega) rfl
         have p3 := hc 0 3 _ (by simp) (by omega) rfl
         have p4 := hc 0 4 _ (by simp) (by omega) rfl
         simp only [Nat.zero_mul, Nat.add_zero, Nat.zero_add, List.getD_cons_zero, Nd.k, Nd.p, Nd.s, Nd.A, Nd.c, Nd.ws, Nd.B, Nd.d, Nd.ks] at p0 p1 p2 p3 p4
         clear hc
         go_wp2_with fail
         refine (HC.out _ HB4.out).mono ?_
         rintro e w5 ⟨rfl, hd⟩
         have HB5 := zh (HB4.out.trans (hd.mono HB4.out.size))
         have HRR5 := zh (HRR4.out.below hd HRR4.out.lt)
         obtain ⟨m0, m1, m2, m3, m4, _, _, _, _, _⟩ := row5 HRR5.out
         clear hd
         obtain ⟨b4, o4, hzB, _, hc⟩ := sl_at (z := n0) ncells_length (HSK.out w5 HB5.out) (k := 0) (by simp) (by omega)
         cases hzB
         have p0 := hc 0 0 _ (by simp) (by omega) rfl
         have p1 := hc 0 1 _ (by simp) (by omega) rfl
         have p2 := hc 0 2 _ (by simp) (by omega) rfl
         have p3 := hc 0 3 _ (by simp) (by omega) rfl
         have p4 := hc 0 4 _ (by simp) (by omega) rfl
         simp only [Nat.zero_mul, Nat.add_zero, Nat.zero_add, List.getD_cons_zero, Nd.k, Nd.p, Nd.s, Nd.A, Nd.c, Nd.ws, Nd.B, Nd.d, Nd.ks] at p0 p1 p2 p3 p4
         clear hc
         go_wp2_with fail
         go_ret
         exact ⟨ret_eq (bool_eq HYS2.out.symm), HB5.out⟩
        ·have q8 : (xk != 8) = true := by rw [bne_iff_ne]; exact h8
         by_cases h9 : xk = 9
         ·subst h9
          have HYS2 := zh (HYS.out (by simp))
          clear HIN HYS
          go_wp2_with fail
          refine (HRG.out _).mono ?_
          rintro e w4 ⟨rfl, hd⟩
          have HB4 := zh (HB1.out.trans (hd.below.mono HB1.out.size))
          have HRR4 := zh (HRR.out.below hd.below HRR.out.lt)
          obtain ⟨m0, m1, m2, m3, m4, _, _, _, _, _⟩ := row5 HRR4.out
          clear hd
          obtain ⟨b3, o3, hzB, _, hc⟩ := sl_at (z := n0) ncells_length (HSK.out w4 HB4.out) (k := 0) (by simp) (by omega)
          subst hzB
          have p0 := hc 0 0 _ (by simp) (by omega) rfl
          have p1 := hc 0 1 _ (by simp) (by omega) rfl
          have p2 := hc 0 2 _ (by simp) (by omega) rfl
          have p3 := hc 0 3 _ (by simp) (by omega) rfl
          have p4 := hc 0 4 _ (by simp) (by omega) rfl
          simp only [Nat.zero_mul, Nat.add_zero, Nat.zero_add, List.getD_cons_zero, Nd.k, Nd.p, Nd.s, Nd.A, Nd.c, Nd.ws, Nd.B, Nd.d, Nd.ks] at p0 p1 p2 p3 p4
          clear hc
          go_wp2_with fail
          refine (HC.out _ HB4.out).mono ?_
          rintro e w5 ⟨rfl, hd⟩
          have HB5 := zh (HB4.out.trans (hd.mono HB4.out.size))
          have HRR5 := zh (HRR4.out.below hd HRR4.out.lt)
          obtain ⟨m0, m1, m2, m3, m4, _, _, _, _, _⟩ := row5 HRR5.out
          clear hd
          obtain ⟨b4, o4, hzB, _, hc⟩ := sl_at (z := n0) ncells_length (HSK.out w5 HB5.out) (k := 0) (by simp) (by omega)
          cases hzB
          have p0 := hc 0 0 _ (by simp) (by omega) rfl
          have p1 := hc 0 1 _ (by simp) (by omega) rfl
          have p2 := hc 0 2 _ (by simp) (by omega) rfl
          have p3 := hc 0 3 _ (by simp) (by omega) rfl
          have p4 := hc 0 4 _ (by simp) (by omega) rfl
          simp only [Nat.zero_mul, Nat.add_zero, Nat.zero_add, List.getD_cons_zero, Nd.k, Nd.p, Nd.s, Nd.A, Nd.c, Nd.ws, Nd.B, Nd.d, Nd.ks] at p0 p1 p2 p3 p4
          clear hc
          go_wp2_with fail
          go_ret
          exact ⟨ret_eq (bool_eq HYS2.out.symm), HB5.out⟩
         ·have q9 : (xk != 9) = true := by rw [bne_iff_ne]; exact h9
          have HIN2 := zh (HIN.out (by simp [h8, h9]; omega))
          clear HIN HYS
          go_wp2_with fail
          refine (HRG.out _).mono ?_
          rintro e w4 ⟨rfl, hd⟩
          have HB4 := zh (HB1.out.trans (hd.below.mono HB1.out.size))
          have HRR4 := zh (HRR.out.below hd.below HRR.out.lt)
          obtain ⟨m0, m1, m2, m3, m4, _, _, _, _, _⟩ := row5 HRR4.out
          clear hd
          obtain ⟨b3, o3, hzB, _, hc⟩ := sl_at (z := n0) ncells_length (HSK.out w4 HB4.out) (k := 0) (by simp) (by omega)
          subst hzB
          have p0 := hc 0 0 _ (by simp) (by omega) rfl
          have p1 := hc 0 1 _ (by simp) (by omega) rfl
          have p2 := hc 0 2 _ (by simp) (by omega) rfl
          have p3 := hc 0 3 _ (by simp) (by omega) rfl
          have p4 := hc 0 4 _ (by simp) (by omega) rfl
          simp only [Nat.zero_mul, Nat.add_zero, Nat.zero_add, List.getD_cons_zero, Nd.k, Nd.p, Nd.s, Nd.A, Nd.c, Nd.ws, Nd.B, Nd.d, Nd.ks] at p0 p1 p2 p3 p4
          clear hc
          go_wp2_with fail
          refine (HC.out _ HB4.out).mono ?_
          rintro e w5 ⟨rfl, hd⟩
          have HB5 := zh (HB4.out.trans (hd.mono HB4.out.size))
          have HRR5 := zh (HRR4.out.below hd HRR4.out.lt)
          obtain ⟨m0, m1, m2, m3, m4, _, _, _, _, _⟩ := row5 HRR5.out
          clear hd
          obtain ⟨b4, o4, hzB, _, hc⟩ := sl_at (z := n0) ncells_length (HSK.out w5 HB5.out) (k := 0) (by simp) (by omega)
          cases hzB
          have p0 := hc 0 0 _ (by simp) (by omega) rfl
          have p1 := hc 0 1 _ (by simp) (by omega) rfl
          have p2 := hc 0 2 _ (by simp) (by omega) rfl
          have p3 := hc 0 3 _ (by simp) (by omega) rfl
          have p4 := hc 0 4 _ (by simp) (by omega) rfl
          simp only [Nat.zero_mul, Nat.add_zero, Nat.zero_add, List.getD_cons_zero, Nd.k, Nd.p, Nd.s, Nd.A, Nd.c, Nd.ws, Nd.B, Nd.d, Nd.ks] at p0 p1 p2 p3 p4
          clear hc
          go_wp2_with fail
          go_roundw
          case rel => exact ⟨i + 1, by omega, by go_num, HIN2, HB5⟩
          case measure => simp [intOf]; omega
      ·generalize zw.length = nw at *
       generalize ((fls zz).headD fl0).at' = q at *
       generalize zz.length = nz at *
       have HYS2 := zh (HYS.out (by simp [hnz]))
       clear HIN HYS
       go_wp2_with fail
       refine (HRG.out _).mono ?_
       rintro e w4 ⟨rfl, hd⟩
       have HB4 := zh (HB1.out.trans (hd.below.mono HB1.out.size))
       have HRR4 := zh (HRR.out.below hd.below HRR.out.lt)
       obtain ⟨m0, m1, m2, m3, m4, _, _, _, _, _⟩ := row5 HRR4.out
       clear hd
       go_wp2_with fail
       go_ret
       exact ⟨ret_eq (bool_eq HYS2.out.symm), HB4.out⟩
     ·generalize zw.length = nw at *
      generalize ((fls zz).headD fl0).at' = q at *
      generalize zz.length = nz at *
      have HYS2 := zh (HYS.out (by simp; omega))
      clear HIN HYS
      go_wp2_with fail
      refine (HRG.out _).mono ?_
      rintro e w4 ⟨rfl, hd⟩
      have HB4 := zh (HB1.out.trans (hd.below.mono HB1.out.size))
      have HRR4 := zh (HRR.out.below hd.below HRR.out.lt)
      obtain ⟨m0, m1, m2, m3, m4, _, _, _, _, _⟩ := row5 HRR4.out
      clear hd
      go_wp2_with fail
      go_ret
      exact ⟨ret_eq (bool_eq HYS2.out.symm), HB4.out⟩
   ·have q6 : (zk == 11) = false := by rw [beq_eq_false_iff_ne]; exact hk
    generalize zw.length = nw at *
    generalize ((fls zz).headD fl0).at' = q at *
    generalize zz.length = nz at *
    have HYS2 := zh (HYS.out (by simp [hk]))
    clear HIN HYS
    go_wp2_with fail
    go_ret
    exact ⟨ret_eq (bool_eq HYS2.out.symm), HB1.out⟩
  ·obtain rfl : i = n := by omega
   have HNO := zh (HMISS.out HB.out)
   go_wp2_with fail
   go_ret
   exact ⟨ret_eq (bool_eq HNO.out.symm), HW.out⟩
end
section
open Go.RowKit LX TR TM
theorem at7 (s : ByteArray) (ws : List Wd) (zz : List Nd) : lB 7 s ws (fls zz) = (decide (s = ⟨#[]⟩) && (decide (ws.length = 0) && (decide (zz.length = 1) && (fls zz).all (fun y => y.c)))) := by
 have h := fls_length zz
 by_cases h1 : zz.length = 1
 ·obtain ⟨x, rfl⟩ := List.length_eq_one_iff.1 h1
  rw [fls_cons]
  simp [lB, atB, brB, fls, Bool.and_assoc]
 ·simp [lB, atB, h, h1]
theorem isConst10_step (N : Nat) (hN : N < 4294967296) (ih : ∀ y, cnt [y] ≤ N → ∀ w, Nods w w.heap.size [y] → (Calls Tryz.prog 108 #[.agg (nv y)] w fun e w' => e = .returned (.bool (fl y).c) ∧ Below w.heap.size w w') ∧ Calls Tryz.prog 44 #[.agg (nv y)] w fun e w' => e = .returned (.bool (fl y).l) ∧ Below w.heap.size w w') (z : Nd) (hz : cnt [z] ≤ N + 1) (w : World) (hnd : Nods w w.heap.size [z]) :
 Calls Tryz.prog 108 #[.agg (nv z)] w fun e w' => e = .returned (.bool (fl z).c) ∧ Below w.heap.size w w' := by
 obtain ⟨zk, zp, zs, zA, zc, zw, zBq, zd, zz⟩ := z
 have hn := RowAt.new w 28 #[.int .i64 zk, .int .i64 zp, .string zs, .slice zA zw.length zc, .slice zBq zz.length zd]
 have hB : Below w.heap.size w (w.alloc (.cells #[.int .i64 zk, .int .i64 zp, .string zs, .slice zA zw.length zc, .slice zBq zz.length zd] 28)) := (zB _ _).alloc (zL _) _
 have HB := zh hB
 have HR := zh hn
 obtain ⟨m0, m1, m2, m3, m4, _, _, _, _, _⟩ := row5 hn
 have hcz : 1 + zw.length + cnt zz ≤ N + 1 := by rw [cnt_cons] at hz; simp only [cnt, Nat.add_zero] at hz; exact hz
 have hzl := length_cnt zz
 have HSW := zh (fun W (h : Below w.heap.size w W) => (hnd.at.1.1.below h).mono h.size)
 have HSK := zh (fun W (h : Below w.heap.size w W) => (hnd.at.2.1.below h).mono h.size)
 have HNK : Hid (∀ W, Below w.heap.size w W → Nods W W.heap.size zz) := fun W h => (hnd.kids.below h).mono h.size
 have HMM : Hid (∀ y ∈ zz, cnt [y] ≤ N) := fun y hy => by
  have h1 := cnt_mem hy
  rw [cnt_cons]
  simp only [cnt, Nat.add_zero]
  omega
 simp only [Nd.A, Nd.ws, Nd.B, Nd.ks] at HSW HSK
 have HRG := zh (refRight_any zs)
 have HRN := zh (fun W (h : Below w.heap.size w W) => right10_any zA zc zw (by omega) W (HSW.out W h))
 unfold nv
 simp only [Nd.k, Nd.p, Nd.s, Nd.A, Nd.c, Nd.ws, Nd.B, Nd.d, Nd.ks]
 have hfl := fls_length zz
 clear hn hB
 have HK1 := zh (fun W (h : Below w.heap.size w W) => all10_1 zBq zd zz (by omega) W (HNK.out W h) (HSK.out W h) (fun y hy W' h' => (ih y (HMM.out y hy) W' (((HNK.out W h).mem hy).below h' |>.mono h'.size)).1))
 rw [← fls_all zz (fun y => y.c)] at HK1
 have HK2 := zh (fun W (h : Below w.heap.size w W) => all10_2 zBq zd zz (by omega) W (HNK.out W h) (HSK.out W h) (fun y hy => by have h1 := cnt_mem hy; omega))
 rw [← fls_all zz (fun y => y.ru)] at HK2
 show Calls _ _ _ _ fun e w' => e = .returned (.bool (cB zk zs zw (fls zz))) ∧ _
 clear hnd ih hz
 by_cases h2 : zk = 2
 ·subst h2
  rw [show cB 2 zs zw (fls zz) = leafB zs zw zz.length by rw [← hfl]; simp [cB, lB, atB]]
  rw [show leafB zs zw zz.length = (NM.right zs && (decide (zw.length = 0) && decide (zz.length = 0))) from rfl]
  generalize NM.right zs = r at *
  generalize zw.length = nw at *
  generalize zz.length = nz at *
  cases r
  ·go_enter Tryz.func108, Tryz.ntmps108
   go_wp2_with fail
   refine (HRG.out _).mono ?_
   rintro e' w2 ⟨rfl, hb⟩
   have HB2 := zh (HB.out.trans (hb.below.mono HB.out.size))
   have HR2 := zh (HR.out.below hb.below HR.out.lt)
   obtain ⟨m0, m1, m2, m3, m4, _, _, _, _, _⟩ := row5 HR2.out
   clear hb
   go_wp2_with fail
   go_ret
   exact ⟨ret_eq (bool_eq (by rfl)), HB2.out⟩
  ·have hsum : IntKind.i64.wrap ((nw : Int) + (nz : Int)) = ((nw + nz : Nat) : Int) := by rw [IntWalk.i64_in _ ⟨by omega, by omega⟩]; omega
   by_cases hs0 : nw + nz ≤ 0
   ·have qz : (IntKind.i64.wrap ((nw : Int) + (nz : Int)) == 0) = true := by rw [beq_iff_eq, hsum]; omega
    have H0 := zh hs0
    clear hs0 hsum
    go_enter Tryz.func108, Tryz.ntmps108
    go_wp2_with fail
    refine (HRG.out _).mono ?_
    rintro e' w2 ⟨rfl, hb⟩
    have HB2 := zh (HB.out.trans (hb.below.mono HB.out.size))
    have HR2 := zh (HR.out.below hb.below HR.out.lt)
    obtain ⟨m0, m1, m2, m3, m4, _, _, _, _, _⟩ := row5 HR2.out
    clear hb
    go_wp2_with fail
    go_ret
    exact ⟨ret_eq (bool_eq (by have h9 := H0.out; have e9 : (decide (nw = 0) && decide (nz = 0)) = true := (by rw [Bool.and_eq_true]; simp only [decide_eq_true_eq]; omega); rw [Bool.true_and, e9]; first | rfl | exact qz | (simp; omega))), HB2.out⟩
   ·have qz : (IntKind.i64.wrap ((nw : Int) + (nz : Int)) == 0) = false := by rw [beq_eq_false_iff_ne, hsum]; omega
    clear hsum
    go_enter Tryz.func108, Tryz.ntmps108
    go_wp2_with fail
    refine (HRG.out _).mono ?_
    rintro e' w2 ⟨rfl, hb⟩
    have HB2 := zh (HB.out.trans (hb.below.mono HB.out.size))
    have HR2 := zh (HR.out.below hb.below HR.out.lt)
    obtain ⟨m0, m1, m2, m3, m4, _, _, _, _, _⟩ := row5 HR2.out
    clear hb
    go_wp2_with fail
    go_ret
    exact ⟨ret_eq (bool_eq (by have e9 : (decide (nw = 0) && decide (nz = 0)) = false := (by rw [Bool.and_eq_false_iff]; simp only [decide_eq_false_iff_not]; omega); rw [Bool.true_and, e9]; first | rfl | exact qz | (simp; omega))), HB2.out⟩
 ·by_cases h3 : zk = 3
  ·subst h3
   rw [show cB 3 zs zw (fls zz) = (decide (zs = ⟨#[]⟩) && (decide (zz.length = 0) && wrB zw)) by rw [← hfl]; simp [cB]]
   generalize wrB zw = rr at *
   generalize zw.length = nw at *
   generalize zz.length = nz at *
   by_cases hs : zs = ⟨#[]⟩
   ·subst hs
    cases rr
    ·go_enter Tryz.func108, Tryz.ntmps108
     go_wp2_with fail
     refine (HRN.out _ HB.out).mono ?_
     rintro e' w2 ⟨rfl, hb⟩
     have HB2 := zh (HB.out.trans (hb.below.mono HB.out.size))
     have HR2 := zh (HR.out.below hb.below HR.out.lt)
     obtain ⟨m0, m1, m2, m3, m4, _, _, _, _, _⟩ := row5 HR2.out
     clear hb
     go_wp2_with fail
     go_ret
     exact ⟨ret_eq (bool_eq (by simp)), HB2.out⟩
    ·by_cases hnz : nz ≤ 0
     ·have qz : ((nz : Int) == 0) = true := by rw [beq_iff_eq]; omega
      have HZ0 := zh hnz
      clear hnz
      go_enter Tryz.func108, Tryz.ntmps108
      go_wp2_with fail
      refine (HRN.out _ HB.out).mono ?_
      rintro e' w2 ⟨rfl, hb⟩
      have HB2 := zh (HB.out.trans (hb.below.mono HB.out.size))
      have HR2 := zh (HR.out.below hb.below HR.out.lt)
      obtain ⟨m0, m1, m2, m3, m4, _, _, _, _, _⟩ := row5 HR2.out
      clear hb
      go_wp2_with fail
      go_ret
      exact ⟨ret_eq (bool_eq (by have := HZ0.out; simp; omega)), HB2.out⟩
     ·have qz : ((nz : Int) == 0) = false := by rw [beq_eq_false_iff_ne]; omega
      go_enter Tryz.func108, Tryz.ntmps108
      go_wp2_with fail
      refine (HRN.out _ HB.out).mono ?_
      rintro e' w2 ⟨rfl, hb⟩
      have HB2 := zh (HB.out.trans (hb.below.mono HB.out.size))
      have HR2 := zh (HR.out.below hb.below HR.out.lt)
      obtain ⟨m0, m1, m2, m3, m4, _, _, _, _, _⟩ := row5 HR2.out
      clear hb
      go_wp2_with fail
      go_ret
      exact ⟨ret_eq (bool_eq (by simp; omega)), HB2.out⟩
   ·have p2 := empty_no hs
    have p3 := empty_no2 hs
    go_enter Tryz.func108, Tryz.ntmps108
    go_wp2_with fail
    go_ret
    exact ⟨ret_eq (bool_eq (by simp [hs])), HB.out⟩
  ·by_cases h4 : zk = 4
   ·subst h4
    rw [show cB 4 zs zw (fls zz) = (decide (zs = ⟨#[]⟩) && (decide (zw.length = 0) && (decide (0 < zz.length) && (fls zz).all (fun y => y.c)))) by rw [← hfl]; simp [cB, lB, brB, Bool.and_assoc]]
    generalize (fls zz).all (fun y => y.c) = rr at *
    generalize zw.length = nw at *
    generalize zz.length = nz at *
    by_cases hs : zs = ⟨#[]⟩
    ·subst hs
     by_cases hnw : nw ≤ 0
     ·have qw : ((nw : Int) == 0) = true := by rw [beq_iff_eq]; omega
      have HW0 : Hid (nw = 0) := (show nw = 0 by omega)
      clear hnw
      by_cases hnz : 0 < nz
      ·go_enter Tryz.func108, Tryz.ntmps108
       go_wp2_with fail
       refine (HK1.out _ HB.out).mono ?_
       rintro e' w2 ⟨rfl, hb⟩
       have HB2 := zh (HB.out.trans (hb.mono HB.out.size))
       have HR2 := zh (HR.out.below hb HR.out.lt)
       obtain ⟨m0, m1, m2, m3, m4, _, _, _, _, _⟩ := row5 HR2.out
       clear hb
       go_wp2_with fail
       go_ret
       exact ⟨ret_eq (bool_eq (by simp [HW0.out, hnz])), HB2.out⟩
      ·go_enter Tryz.func108, Tryz.ntmps108
       go_wp2_with fail
       go_ret
       exact ⟨ret_eq (bool_eq (by simp [hnz])), HB.out⟩
     ·have qw : ((nw : Int) == 0) = false := by rw [beq_eq_false_iff_ne]; omega
      have HW1 : Hid (¬ nw = 0) := (show ¬ nw = 0 by omega)
      go_enter Tryz.func108, Tryz.ntmps108
      go_wp2_with fail
      go_ret
      exact ⟨ret_eq (bool_eq (by simp [HW1.out])), HB.out⟩
    ·have p2 := empty_no hs
     have p3 := empty_no2 hs
     go_enter Tryz.func108, Tryz.ntmps108
     go_wp2_with fail
     go_ret
     exact ⟨ret_eq (bool_eq (by simp [hs])), HB.out⟩
   ·by_cases h5 : zk = 5
    ·subst h5
     rw [show cB 5 zs zw (fls zz) = (decide (zs = ⟨#[]⟩) && (decide (zw.length = 0) && (true && (fls zz).all (fun y => y.ru)))) by simp [cB, lB, brB, Bool.and_assoc]]
     generalize (fls zz).all (fun y => y.ru) = rr at *
     generalize zw.length = nw at *
     generalize zz.length = nz at *
     by_cases hs : zs = ⟨#[]⟩
     ·subst hs
      by_cases hnw : nw ≤ 0
      ·have qw : ((nw : Int) == 0) = true := by rw [beq_iff_eq]; omega
       have HW0 : Hid (nw = 0) := (show nw = 0 by omega)
       clear hnw
       go_enter Tryz.func108, Tryz.ntmps108
       go_wp2_with fail
       refine (HK2.out _ HB.out).mono ?_
       rintro e' w2 ⟨rfl, hb⟩
       have HB2 := zh (HB.out.trans (hb.mono HB.out.size))
       have HR2 := zh (HR.out.below hb HR.out.lt)
       obtain ⟨m0, m1, m2, m3, m4, _, _, _, _, _⟩ := row5 HR2.out
       clear hb
       go_wp2_with fail
       go_ret
       exact ⟨ret_eq (bool_eq (by simp [HW0.out])), HB2.out⟩
      ·have qw : ((nw : Int) == 0) = false := by rw [beq_eq_false_iff_ne]; omega
       have HW1 : Hid (¬ nw = 0) := (show ¬ nw = 0 by omega)
       go_enter Tryz.func108, Tryz.ntmps108
       go_wp2_with fail
       go_ret
       exact ⟨ret_eq (bool_eq (by simp [HW1.out])), HB.out⟩
     ·have p2 := empty_no hs
      have p3 := empty_no2 hs
      go_enter Tryz.func108, Tryz.ntmps108
      go_wp2_with fail
      go_ret
      exact ⟨ret_eq (bool_eq (by simp [hs])), HB.out⟩
    ·rw [show cB zk zs zw (fls zz) = false by simp [cB, lB, atB, h2, h3, h4, h5]]
     have q2 : (zk == 2) = false := by rw [beq_eq_false_iff_ne]; exact h2
     have q3 : (zk == 3) = false := by rw [beq_eq_false_iff_ne]; exact h3
     have q4 : (zk == 4) = false := by rw [beq_eq_false_iff_ne]; exact h4
     have q5 : (zk == 5) = false := by rw [beq_eq_false_iff_ne]; exact h5
     generalize zw.length = nw at *
     generalize zz.length = nz at *
     go_enter Tryz.func108, Tryz.ntmps108
     go_wp2_with fail
     go_ret
     exact ⟨ret_eq (bool_eq (by rfl)), HB.out⟩
theorem isLabel10_step (N : Nat) (hN : N < 4294967296) (ih : ∀ y, cnt [y] ≤ N → ∀ w, Nods w w.heap.size [y] → (Calls Tryz.prog 108 #[.agg (nv y)] w fun e w' => e = .returned (.bool (fl y).c) ∧ Below w.heap.size w w') ∧ Calls Tryz.prog 44 #[.agg (nv y)] w fun e w' => e = .returned (.bool (fl y).l) ∧ Below w.heap.size w w') (z : Nd) (hz : cnt [z] ≤ N + 1) (w : World) (hnd : Nods w w.heap.size [z]) :
 Calls Tryz.prog 44 #[.agg (nv z)] w fun e w' => e = .returned (.bool (fl z).l) ∧ Below w.heap.size w w' := by
 obtain ⟨zk, zp, zs, zA, zc, zw, zBq, zd, zz⟩ := z
 have hn := RowAt.new w 28 #[.int .i64 zk, .int .i64 zp, .string zs, .slice zA zw.length zc, .slice zBq zz.length zd]
 have hB : Below w.heap.size w (w.alloc (.cells #[.int .i64 zk, .int .i64 zp, .string zs, .slice zA zw.length zc, .slice zBq zz.length zd] 28)) := (zB _ _).alloc (zL _) _
 have HB := zh hB
 have HR := zh hn
 obtain ⟨m0, m1, m2, m3, m4, _, _, _, _, _⟩ := row5 hn
 have hcz : 1 + zw.length + cnt zz ≤ N + 1 := by rw [cnt_cons] at hz; simp only [cnt, Nat.add_zero] at hz; exact hz
 have hzl := length_cnt zz
 have HSW := zh (fun W (h : Below w.heap.size w W) => (hnd.at.1.1.below h).mono h.size)
 have HSK := zh (fun W (h : Below w.heap.size w W) => (hnd.at.2.1.below h).mono h.size)
 have HNK : Hid (∀ W, Below w.heap.size w W → Nods W W.heap.size zz) := fun W h => (hnd.kids.below h).mono h.size
 have HMM : Hid (∀ y ∈ zz, cnt [y] ≤ N) := fun y hy => by
  have h1 := cnt_mem hy
  rw [cnt_cons]
  simp only [cnt, Nat.add_zero]
  omega
 simp only [Nd.A, Nd.ws, Nd.B, Nd.ks] at HSW HSK
 have HRG := zh (refRight_any zs)
 have HRN := zh (fun W (h : Below w.heap.size w W) => right10_any zA zc zw (by omega) W (HSW.out W h))
 unfold nv
 simp only [Nd.k, Nd.p, Nd.s, Nd.A, Nd.c, Nd.ws, Nd.B, Nd.d, Nd.ks]
 have hfl := fls_length zz
 clear hn hB
 have HK1 := zh (fun W (h : Below w.heap.size w W) => all10_1 zBq zd zz (by omega) W (HNK.out W h) (HSK.out W h) (fun y hy W' h' => (ih y (HMM.out y hy) W' (((HNK.out W h).mem hy).below h' |>.mono h'.size)).1))
 rw [← fls_all zz (fun y => y.c)] at HK1
 have HK3 := zh (fun W (h : Below w.heap.size w W) => all10_3 zBq zd zz (by omega) W (HNK.out W h) (HSK.out W h) (fun y hy W' h' => (ih y (HMM.out y hy) W' (((HNK.out W h).mem hy).below h' |>.mono h'.size)).2))
 rw [← fls_all zz (fun y => y.l)] at HK3
 show Calls _ _ _ _ fun e w' => e = .returned (.bool (lB zk zs zw (fls zz))) ∧ _
 clear hnd ih hz
 by_cases h1 : zk = 1
 ·subst h1
  rw [show lB 1 zs zw (fls zz) = leafB zs zw zz.length by rw [← hfl]; simp [cB, lB, atB]]
  rw [show leafB zs zw zz.length = (NM.right zs && (decide (zw.length = 0) && decide (zz.length = 0))) from rfl]
  generalize NM.right zs = r at *
  generalize zw.length = nw at *
  generalize zz.length = nz at *
  cases r
  ·go_enter Tryz.func44, Tryz.ntmps44
   go_wp2_with fail
   refine (HRG.out _).mono ?_
   rintro e' w2 ⟨rfl, hb⟩
   have HB2 := zh (HB.out.trans (hb.below.mono HB.out.size))
   have HR2 := zh (HR.out.below hb.below HR.out.lt)
   obtain ⟨m0, m1, m2, m3, m4, _, _, _, _, _⟩ := row5 HR2.out
   clear hb
   go_wp2_with fail
   go_ret
   exact ⟨ret_eq (bool_eq (by rfl)), HB2.out⟩
  ·have hsum : IntKind.i64.wrap ((nw : Int) + (nz : Int)) = ((nw + nz : Nat) : Int) := by rw [IntWalk.i64_in _ ⟨by omega, by omega⟩]; omega
   by_cases hs0 : nw + nz ≤ 0
   ·have qz : (IntKind.i64.wrap ((nw : Int) + (nz : Int)) == 0) = true := by rw [beq_iff_eq, hsum]; omega
    have H0 := zh hs0
    clear hs0 hsum
    go_enter Tryz.func44, Tryz.ntmps44
    go_wp2_with fail
    refine (HRG.out _).mono ?_
    rintro e' w2 ⟨rfl, hb⟩
    have HB2 := zh (HB.out.trans (hb.below.mono HB.out.size))
    have HR2 := zh (HR.out.below hb.below HR.out.lt)
    obtain ⟨m0, m1, m2, m3, m4, _, _, _, _, _⟩ := row5 HR2.out
    clear hb
    go_wp2_with fail
    go_ret
    exact ⟨ret_eq (bool_eq (by have h9 := H0.out; have e9 : (decide (nw = 0) && decide (nz = 0)) = true := (by rw [Bool.and_eq_true]; simp only [decide_eq_true_eq]; omega); rw [Bool.true_and, e9]; first | rfl | exact qz | (simp; omega))), HB2.out⟩
   ·have qz : (IntKind.i64.wrap ((nw : Int) + (nz : Int)) == 0) = false := by rw [beq_eq_false_iff_ne, hsum]; omega
    clear hsum
    go_enter Tryz.func44, Tryz.ntmps44
    go_wp2_with fail
    refine (HRG.out _).mono ?_
    rintro e' w2 ⟨rfl, hb⟩
    have HB2 := zh (HB.out.trans (hb.below.mono HB.out.size))
    have HR2 := zh (HR.out.below hb.below HR.out.lt)
    obtain ⟨m0, m1, m2, m3, m4, _, _, _, _, _⟩ := row5 HR2.out
    clear hb
    go_wp2_with fail
    go_ret
    exact ⟨ret_eq (bool_eq (by have e9 : (decide (nw = 0) && decide (nz = 0)) = false := (by rw [Bool.and_eq_false_iff]; simp only [decide_eq_false_iff_not]; omega); rw [Bool.true_and, e9]; first | rfl | exact qz | (simp; omega))), HB2.out⟩
 ·by_cases h7 : zk = 7
  ·subst h7
   rw [show lB 7 zs zw (fls zz) = (decide (zs = ⟨#[]⟩) && (decide (zw.length = 0) && (decide (zz.length = 1) && (fls zz).all (fun y => y.c)))) from at7 zs zw zz]
   generalize (fls zz).all (fun y => y.c) = rr at *
   generalize zw.length = nw at *
   generalize zz.length = nz at *
   by_cases hs : zs = ⟨#[]⟩
   ·subst hs
    by_cases hnw : nw ≤ 0
    ·have qw : ((nw : Int) == 0) = true := by rw [beq_iff_eq]; omega
     have HW0 : Hid (nw = 0) := (show nw = 0 by omega)
     clear hnw
     by_cases hnz : nz = 1
     ·have qz : ((nz : Int) == 1) = true := by rw [beq_iff_eq]; omega
      have HZ1 := zh hnz
      clear hnz
      go_enter Tryz.func44, Tryz.ntmps44
      go_wp2_with fail
      refine (HK1.out _ HB.out).mono ?_
      rintro e' w2 ⟨rfl, hb⟩
      have HB2 := zh (HB.out.trans (hb.mono HB.out.size))
      have HR2 := zh (HR.out.below hb HR.out.lt)
      obtain ⟨m0, m1, m2, m3, m4, _, _, _, _, _⟩ := row5 HR2.out
      clear hb
      go_wp2_with fail
      go_ret
      exact ⟨ret_eq (bool_eq (by simp [HW0.out, HZ1.out])), HB2.out⟩
     ·have qz : ((nz : Int) == 1) = false := by rw [beq_eq_false_iff_ne]; omega
      go_enter Tryz.func44, Tryz.ntmps44
      go_wp2_with fail
      go_ret
      exact ⟨ret_eq (bool_eq (by simp [hnz])), HB.out⟩
    ·have qw : ((nw : Int) == 0) = false := by rw [beq_eq_false_iff_ne]; omega
     have HW1 : Hid (¬ nw = 0) := (show ¬ nw = 0 by omega)
     go_enter Tryz.func44, Tryz.ntmps44
     go_wp2_with fail
     go_ret
     exact ⟨ret_eq (bool_eq (by simp [HW1.out])), HB.out⟩
   ·have p2 := empty_no hs
    have p3 := empty_no2 hs
    go_enter Tryz.func44, Tryz.ntmps44
    go_wp2_with fail
    go_ret
    exact ⟨ret_eq (bool_eq (by simp [hs])), HB.out⟩
  ·by_cases h8 : zk = 8
   ·subst h8
    rw [show lB 8 zs zw (fls zz) = (decide (zs = ⟨#[]⟩) && (decide (zw.length = 0) && (decide (0 < zz.length) && (fls zz).all (fun y => y.l)))) by rw [← hfl]; simp [cB, lB, brB, Bool.and_assoc]]
    generalize (fls zz).all (fun y => y.l) = rr at *
    generalize zw.length = nw at *
    generalize zz.length = nz at *
    by_cases hs : zs = ⟨#[]⟩
    ·subst hs
     by_cases hnw : nw ≤ 0
     ·have qw : ((nw : Int) == 0) = true := by rw [beq_iff_eq]; omega
      have HW0 : Hid (nw = 0) := (show nw = 0 by omega)
      clear hnw
      by_cases hnz : 0 < nz
      ·go_enter Tryz.func44, Tryz.ntmps44
       go_wp2_with fail
       refine (HK3.out _ HB.out).mono ?_
       rintro e' w2 ⟨rfl, hb⟩
       have HB2 := zh (HB.out.trans (hb.mono HB.out.size))
       have HR2 := zh (HR.out.below hb HR.out.lt)
       obtain ⟨m0, m1, m2, m3, m4, _, _, _, _, _⟩ := row5 HR2.out
       clear hb
       go_wp2_with fail
       go_ret
       exact ⟨ret_eq (bool_eq (by simp [HW0.out, hnz])), HB2.out⟩
      ·go_enter Tryz.func44, Tryz.ntmps44
       go_wp2_with fail
       go_ret
       exact ⟨ret_eq (bool_eq (by simp [hnz])), HB.out⟩
     ·have qw : ((nw : Int) == 0) = false := by rw [beq_eq_false_iff_ne]; omega
      have HW1 : Hid (¬ nw = 0) := (show ¬ nw = 0 by omega)
      go_enter Tryz.func44, Tryz.ntmps44
      go_wp2_with fail
      go_ret
      exact ⟨ret_eq (bool_eq (by simp [HW1.out])), HB.out⟩
    ·have p2 := empty_no hs
     have p3 := empty_no2 hs
     go_enter Tryz.func44, Tryz.ntmps44
     go_wp2_with fail
     go_ret
     exact ⟨ret_eq (bool_eq (by simp [hs])), HB.out⟩
   ·by_cases h9 : zk = 9
    ·subst h9
     rw [show lB 9 zs zw (fls zz) = (decide (zs = ⟨#[]⟩) && (decide (zw.length = 0) && (decide (0 < zz.length) && (fls zz).all (fun y => y.l)))) by rw [← hfl]; simp [cB, lB, brB, Bool.and_assoc]]
     generalize (fls zz).all (fun y => y.l) = rr at *
     generalize zw.length = nw at *
     generalize zz.length = nz at *
     by_cases hs : zs = ⟨#[]⟩
     ·subst hs
      by_cases hnw : nw ≤ 0
      ·have qw : ((nw : Int) == 0) = true := by rw [beq_iff_eq]; omega
       have HW0 : Hid (nw = 0) := (show nw = 0 by omega)
       clear hnw
       by_cases hnz : 0 < nz
       ·go_enter Tryz.func44, Tryz.ntmps44
        go_wp2_with fail
        refine (HK3.out _ HB.out).mono ?_
        rintro e' w2 ⟨rfl, hb⟩
        have HB2 := zh (HB.out.trans (hb.mono HB.out.size))
        have HR2 := zh (HR.out.below hb HR.out.lt)
        obtain ⟨m0, m1, m2, m3, m4, _, _, _, _, _⟩ := row5 HR2.out
        clear hb
        go_wp2_with fail
        go_ret
        exact ⟨ret_eq (bool_eq (by simp [HW0.out, hnz])), HB2.out⟩
       ·go_enter Tryz.func44, Tryz.ntmps44
        go_wp2_with fail
        go_ret
        exact ⟨ret_eq (bool_eq (by simp [hnz])), HB.out⟩
      ·have qw : ((nw : Int) == 0) = false := by rw [beq_eq_false_iff_ne]; omega
       have HW1 : Hid (¬ nw = 0) := (show ¬ nw = 0 by omega)
       go_enter Tryz.func44, Tryz.ntmps44
       go_wp2_with fail
       go_ret
       exact ⟨ret_eq (bool_eq (by simp [HW1.out])), HB.out⟩
     ·have p2 := empty_no hs
      have p3 := empty_no2 hs
      go_enter Tryz.func44, Tryz.ntmps44
      go_wp2_with fail
      go_ret
      exact ⟨ret_eq (bool_eq (by simp [hs])), HB.out⟩
    ·rw [show lB zk zs zw (fls zz) = false by simp [cB, lB, atB, h1, h7, h8, h9]]
     have q1 : (zk == 1) = false := by rw [beq_eq_false_iff_ne]; exact h1
     have q7 : (zk == 7) = false := by rw [beq_eq_false_iff_ne]; exact h7
     have q8 : (zk == 8) = false := by rw [beq_eq_false_iff_ne]; exact h8
     have q9 : (zk == 9) = false := by rw [beq_eq_false_iff_ne]; exact h9
     generalize zw.length = nw at *
     generalize zz.length = nz at *
     go_enter Tryz.func44, Tryz.ntmps44
     go_wp2_with fail
     go_ret
     exact ⟨ret_eq (bool_eq (by rfl)), HB.out⟩
theorem is10_any : ∀ N, N ≤ 4294967296 → ∀ y, cnt [y] ≤ N → ∀ w, Nods w w.heap.size [y] → (Calls Tryz.prog 108 #[.agg (nv y)] w fun e w' => e = .returned (.bool (fl y).c) ∧ Below w.heap.size w w') ∧ Calls Tryz.prog 44 #[.agg (nv y)] w fun e w' => e = .returned (.bool (fl y).l) ∧ Below w.heap.size w w' := by
 intro N
 induction N with
 | zero => intro _ z hz; rw [cnt_cons] at hz; omega
 | succ N ih => intro h z hz w hw; exact ⟨isConst10_step N (by omega) (ih (by omega)) z hz w hw, isLabel10_step N (by omega) (ih (by omega)) z hz w hw⟩
end
section
open Go.RowKit LX TR TM
theorem isRow10_any (z : Nd) (hz : cnt [z] ≤ 4294967296) (w : World) (hnd : Nods w w.heap.size [z]) :
 Calls Tryz.prog 45 #[.agg (nv z)] w fun e w' => e = .returned (.bool (fl z).r) ∧ Below w.heap.size w w' := by
 obtain ⟨zk, zp, zs, zA, zc, zw, zBq, zd, zz⟩ := z
 have hn := RowAt.new w 28 #[.int .i64 zk, .int .i64 zp, .string zs, .slice zA zw.length zc, .slice zBq zz.length zd]
 have hB : Below w.heap.size w (w.alloc (.cells #[.int .i64 zk, .int .i64 zp, .string zs, .slice zA zw.length zc, .slice zBq zz.length zd] 28)) := (zB _ _).alloc (zL _) _
 have HB := zh hB
 have HR := zh hn
 obtain ⟨m0, m1, m2, m3, m4, _, _, _, _, _⟩ := row5 hn
 have hcz : 1 + zw.length + cnt zz ≤ 4294967296 := by rw [cnt_cons] at hz; simp only [cnt, Nat.add_zero] at hz; exact hz
 have hzl := length_cnt zz
 have HSW := zh (fun W (h : Below w.heap.size w W) => (hnd.at.1.1.below h).mono h.size)
 have HSK := zh (fun W (h : Below w.heap.size w W) => (hnd.at.2.1.below h).mono h.size)
 have HNK : Hid (∀ W, Below w.heap.size w W → Nods W W.heap.size zz) := fun W h => (hnd.kids.below h).mono h.size
 have HMM : Hid (∀ y ∈ zz, cnt [y] ≤ 4294967295) := fun y hy => by
  have h1 := cnt_mem hy
  rw [cnt_cons]
  simp only [cnt, Nat.add_zero]
  omega
 simp only [Nd.A, Nd.ws, Nd.B, Nd.ks] at HSW HSK
 have HRG := zh (refRight_any zs)
 have HRN := zh (fun W (h : Below w.heap.size w W) => right10_any zA zc zw (by omega) W (HSW.out W h))
 unfold nv
 simp only [Nd.k, Nd.p, Nd.s, Nd.A, Nd.c, Nd.ws, Nd.B, Nd.d, Nd.ks]
 have hfl := fls_length zz
 clear hn hB
 have HK4 := zh (fun W (h : Below w.heap.size w W) => all10_4 zBq zd zz (by omega) W (HNK.out W h) (HSK.out W h) (fun y hy x hx W' h' => (is10_any 4294967296 (zL _) x (by
  have h1 := HMM.out y hy
  have h2 := cnt_mem hx
  rw [cnt_cons] at h1 ⊢
  simp only [cnt, Nat.add_zero] at h1 ⊢
  omega) W' ((((HNK.out W h).mem hy).kids.mem hx).below h' |>.mono h'.size)).2))
 rw [← fls_all zz (fun y => y.fi)] at HK4
 have HL : Hid (∀ W, Below w.heap.size w W → Calls Tryz.prog 44 #[.agg #[.int .i64 zk, .int .i64 zp, .string zs, .slice zA zw.length zc, .slice zBq zz.length zd]] W fun e w' => e = .returned (.bool (lB zk zs zw (fls zz))) ∧ Below W.heap.size W w') := fun W h => (is10_any 4294967296 (zL _) (.mk zk zp zs zA zc zw zBq zd zz) hz W ((hnd.below h).mono h.size)).2
 show Calls _ _ _ _ fun e w' => e = .returned (.bool (rB zk zs zw (fls zz))) ∧ _
 clear hnd hz
 by_cases h10 : zk = 10
 ·subst h10
  rw [show rB 10 zs zw (fls zz) = (decide (zs = ⟨#[]⟩) && (decide (zw.length ≤ 1) && (wrB zw && (fls zz).all (fun y => y.fi)))) by simp [rB]]
  generalize wrB zw = rr at *
  generalize (fls zz).all (fun y => y.fi) = ff at *
  generalize zw.length = nw at *
  generalize zz.length = nz at *
  by_cases hs : zs = ⟨#[]⟩
  ·subst hs
   by_cases hnw : nw ≤ 1
   ·cases rr
    ·go_enter Tryz.func45, Tryz.ntmps45
     go_wp2_with fail
     refine (HRN.out _ HB.out).mono ?_
     rintro e' w2 ⟨rfl, hb⟩
     have HB2 := zh (HB.out.trans (hb.below.mono HB.out.size))
     have HR2 := zh (HR.out.below hb.below HR.out.lt)
     obtain ⟨m0, m1, m2, m3, m4, _, _, _, _, _⟩ := row5 HR2.out
     clear hb
     go_wp2_with fail
     go_ret
     exact ⟨ret_eq (bool_eq (by simp [hnw])), HB2.out⟩
    ·go_enter Tryz.func45, Tryz.ntmps45
     go_wp2_with fail
     refine (HRN.out _ HB.out).mono ?_
     rintro e' w2 ⟨rfl, hb⟩
     have HB2 := zh (HB.out.trans (hb.below.mono HB.out.size))
     have HR2 := zh (HR.out.below hb.below HR.out.lt)
     obtain ⟨m0, m1, m2, m3, m4, _, _, _, _, _⟩ := row5 HR2.out
     clear hb
     go_wp2_with fail
     refine (HK4.out _ HB2.out).mono ?_
     rintro e' w3 ⟨rfl, hb⟩
     have HB3 := zh (HB2.out.trans (hb.mono HB2.out.size))
     have HR3 := zh (HR2.out.below hb HR2.out.lt)
     obtain ⟨m0, m1, m2, m3, m4, _, _, _, _, _⟩ := row5 HR3.out
     clear hb
     go_wp2_with fail
     go_ret
     exact ⟨ret_eq (bool_eq (by simp [hnw])), HB3.out⟩
   ·go_enter Tryz.func45, Tryz.ntmps45
    go_wp2_with fail
    go_ret
    exact ⟨ret_eq (bool_eq (by simp [hnw])), HB.out⟩
  ·have p2 := empty_no hs
   have p3 := empty_no2 hs
   go_enter Tryz.func45, Tryz.ntmps45
   go_wp2_with fail
   go_ret
   exact ⟨ret_eq (bool_eq (by simp [hs])), HB.out⟩
 ·have q10 : (zk == 10) = false := by rw [beq_eq_false_iff_ne]; exact h10
  by_cases h1 : zk = 1
  ·subst h1
   rw [show rB 1 zs zw (fls zz) = lB 1 zs zw (fls zz) by simp [rB, lB, atB]]
   generalize lB 1 zs zw (fls zz) = q at *
   generalize zw.length = nw at *
   generalize zz.length = nz at *
   go_enter Tryz.func45, Tryz.ntmps45
   go_wp2_with fail
   refine (HL.out _ HB.out).mono ?_
   rintro e' w2 ⟨rfl, hb⟩
   have HB2 := zh (HB.out.trans (hb.mono HB.out.size))
   have HR2 := zh (HR.out.below hb HR.out.lt)
   obtain ⟨m0, m1, m2, m3, m4, _, _, _, _, _⟩ := row5 HR2.out
   clear hb
   go_wp2_with fail
   go_ret
   exact ⟨ret_eq (bool_eq (by rfl)), HB2.out⟩
  ·rw [show rB zk zs zw (fls zz) = false by simp [rB, h1, h10]]
   have q1 : (zk == 1) = false := by rw [beq_eq_false_iff_ne]; exact h1
   generalize zw.length = nw at *
   generalize zz.length = nz at *
   go_enter Tryz.func45, Tryz.ntmps45
   go_wp2_with fail
   go_ret
   exact ⟨ret_eq (bool_eq (by rfl)), HB.out⟩
end
section
open Go.RowKit LX TR TM
theorem cnt_take (zz : List Nd) (i : Nat) (h : i < zz.length) : cnt (zz.take i) + cnt [zz.getD i n0] = cnt (zz.take (i + 1)) := by
 rw [List.take_add_one, cnt_append, List.getD_eq_getElem?_getD, List.getElem?_eq_getElem h]
 rfl
theorem cnt_take_le (zz : List Nd) (i : Nat) : cnt (zz.take i) ≤ cnt zz := by
 have h := cnt_append (zz.take i) (zz.drop i)
 rw [List.take_append_drop] at h
 omega
theorem many10_step (N : Nat) (hN : N < 4294967296) (ih : ∀ y, cnt [y] ≤ N → ∀ w, Nods w w.heap.size [y] → Calls Tryz.prog 54 #[.agg (nv y)] w fun e w' => e = .returned (.int .i64 (cnt [y] : Int)) ∧ Below w.heap.size w w') (z : Nd) (hz : cnt [z] ≤ N + 1) (w : World) (hnd : Nods w w.heap.size [z]) :
 Calls Tryz.prog 54 #[.agg (nv z)] w fun e w' => e = .returned (.int .i64 (cnt [z] : Int)) ∧ Below w.heap.size w w' := by
 obtain ⟨zk, zp, zs, zA, zc, zw, zBq, zd, zz⟩ := z
 have hcz : cnt [Nd.mk zk zp zs zA zc zw zBq zd zz] = 1 + zw.length + cnt zz := by rw [cnt_cons]; simp only [cnt, Nat.add_zero]; rfl
 rw [hcz] at hz ⊢
 have hn := RowAt.new w 28 #[.int .i64 zk, .int .i64 zp, .string zs, .slice zA zw.length zc, .slice zBq zz.length zd]
 have hB : Below w.heap.size w (w.alloc (.cells #[.int .i64 zk, .int .i64 zp, .string zs, .slice zA zw.length zc, .slice zBq zz.length zd] 28)) := (zB _ _).alloc (zL _) _
 have HNK : Hid (∀ W, Below w.heap.size w W → Nods W W.heap.size zz) := fun W h => (hnd.kids.below h).mono h.size
 have HSK : Hid (∀ W, Below w.heap.size w W → Sl W W.heap.size zBq (ncs zz)) := fun W h => (hnd.at.2.1.below h).mono h.size
 have HC : Hid (∀ i, i < zz.length → ∀ W, Below w.heap.size w W → Calls Tryz.prog 54 #[.agg (nv (zz.getD i n0))] W fun e w' => e = .returned (.int .i64 (cnt [zz.getD i n0] : Int)) ∧ Below W.heap.size W w') := fun i hi W h => by
  have hm : zz.getD i n0 ∈ zz := by
   rw [List.getD_eq_getElem?_getD, List.getElem?_eq_getElem hi]
   exact List.getElem_mem hi
  refine ih _ ?_ W ((HNK.out W h).mem hm)
  have h1 := cnt_mem hm
  rw [cnt_cons]
  simp only [cnt, Nat.add_zero]
  omega
 have HT : Hid (∀ i, i < zz.length → (1 + zw.length + cnt (zz.take i)) + cnt [zz.getD i n0] = 1 + zw.length + cnt (zz.take (i + 1)) ∧ 1 + zw.length + cnt (zz.take (i + 1)) ≤ 1 + zw.length + cnt zz) := fun i hi => by
  have h1 := cnt_take zz i hi
  have h2 := cnt_take_le zz (i + 1)
  omega
 have HE : Hid (1 + zw.length + cnt (zz.take zz.length) = 1 + zw.length + cnt zz) := by show _ = _; rw [List.take_length]
 have H0 : Hid (1 + zw.length = 1 + zw.length + cnt (zz.take 0)) := by show _ = _; simp [cnt]
 have hzl := length_cnt zz
 have hn32 : zz.length ≤ 4294967296 := by omega
 have hw32 : zw.length ≤ 4294967296 := by omega
 unfold nv
 simp only [Nd.k, Nd.p, Nd.s, Nd.A, Nd.c, Nd.ws, Nd.B, Nd.d, Nd.ks]
 generalize hm : zz.length = n at *
 have HN := zh hm
 clear hm
 generalize ht : 1 + zw.length + cnt zz = T at *
 clear ht hcz hnd ih
 have hw1 : w.heap.size < (w.alloc (.cells #[.int .i64 zk, .int .i64 zp, .string zs, .slice zA zw.length zc, .slice zBq n zd] 28)).heap.size := hn.lt
 generalize hW1 : (w.alloc (.cells #[.int .i64 zk, .int .i64 zp, .string zs, .slice zA zw.length zc, .slice zBq n zd] 28)) = w1 at *
 have HW1 := zh hW1
 clear hW1
 have HR := zh hn
 have HB := zh hB
 obtain ⟨m0, m1, m2, m3, m4, _, _, _, _, _⟩ := row5 hn
 clear hn hB
 go_enter Tryz.func54, Tryz.ntmps54
 go_wp2_with fail
 try rw [HW1.out]
 go_wp2_with fail
 go_loopw [3, 4] (fun kv iv wr => ∃ i : Nat, i ≤ n ∧ iv = .int .i64 i ∧ kv = .int .i64 ((1 + zw.length + cnt (zz.take i) : Nat) : Int) ∧ Hid (Below w1.heap.size w1 wr)) (fun _ iv _ => n - (intOf iv).toNat)
 case atStart => exact ⟨0, by omega, rfl, by rw [← H0.out]; go_num, zB _ _⟩
 case round =>
  obtain ⟨i, hi, rfl, rfl, HW⟩ := hrel
  have HBW := zh (HB.out.trans (HW.out.mono HB.out.size))
  obtain ⟨m0, m1, m2, m3, m4, _, _, _, _, _⟩ := row5 (HR.out.below HW.out hw1)
  by_cases hlt : i < n
  ·obtain ⟨bb, o, rfl, hbb, hc⟩ := sl_at (z := n0) ncells_length (HSK.out wr HBW.out) (k := i) (by rw [HN.out]; exact hlt) (by omega)
   have q0 := hc i 0 _ (by rw [HN.out]; exact hlt) (by omega) rfl
   have q1 := hc i 1 _ (by rw [HN.out]; exact hlt) (by omega) rfl
   have q2 := hc i 2 _ (by rw [HN.out]; exact hlt) (by omega) rfl
   have q3 := hc i 3 _ (by rw [HN.out]; exact hlt) (by omega) rfl
   have q4 := hc i 4 _ (by rw [HN.out]; exact hlt) (by omega) rfl
   rw [Nat.add_zero] at q0
   rw [← Nat.add_assoc] at q1 q2 q3 q4
   have hin : (i : Int) < (n : Int) := by omega
   have HD := zh (HC.out i hlt wr HBW.out)
   obtain ⟨ha, hb2⟩ := HT.out i hlt
   have HA := zh ha
   have hs : (1 + zw.length + cnt (zz.take i)) + cnt [zz.getD i n0] ≤ 4294967296 := by omega
   clear hc ha hb2
   generalize 1 + zw.length + cnt (zz.take i) = a at *
   generalize cnt [zz.getD i n0] = d at *
   generalize zz.getD i n0 = x at *
   obtain ⟨xk, xp, xs, xA, xc, xw, xB, xd, xx⟩ := x
   unfold nv at HD
   simp only [Nd.k, Nd.p, Nd.s, Nd.A, Nd.c, Nd.ws, Nd.B, Nd.d, Nd.ks] at q0 q1 q2 q3 q4 HD
   go_wp2_with fail
   refine HD.out.mono ?_
   rintro e w4 ⟨rfl, hb⟩
   have HW4 : Hid (Below w1.heap.size w1 w4) := HW.out.trans (hb.mono HW.out.size)
   clear hb
   go_wp2_with fail
   go_roundw
   case rel => exact ⟨i + 1, by omega, by go_num, by rw [← HA.out]; go_num, HW4⟩
   case measure => simp [intOf]; omega
  ·obtain rfl : i = n := by omega
   rw [HE.out]
   go_wp2_with fail
   go_ret
   exact ⟨rfl, HBW.out⟩
theorem many10_any : ∀ N, N ≤ 4294967296 → ∀ y, cnt [y] ≤ N → ∀ w, Nods w w.heap.size [y] → Calls Tryz.prog 54 #[.agg (nv y)] w fun e w' => e = .returned (.int .i64 (cnt [y] : Int)) ∧ Below w.heap.size w w' := by
 intro N
 induction N with
 | zero => intro _ z hz; rw [cnt_cons] at hz; omega
 | succ N ih => intro h z hz; exact many10_step N (by omega) (ih (by omega)) z hz
end
section
namespace TM
def eqL {α : Type} (g : α → α → Bool) : List α → List α → Bool
 | [], [] => true
 | [], _ :: _ => false
 | _ :: _, [] => false
 | x :: a, y :: b => g x y && eqL g a b
theorem eqL_len {α : Type} {g : α → α → Bool} : ∀ {a b : List α}, ¬ a.length = b.length → eqL g a b = false
 | [], [], h => absurd rfl h
 | [], _ :: _, _ => rfl
 | _ :: _, [], _ => rfl
 | x :: a, y :: b, h => by
   rw [eqL, eqL_len (fun e => h (by simp [e]))]
   exact Bool.and_false _
theorem eqL_hit {α : Type} {g : α → α → Bool} {z : α} : ∀ {a b : List α}, a.length = b.length → ∀ i, i < a.length → g (a.getD i z) (b.getD i z) = false → eqL g a b = false
 | [], [], _, i, hi, _ => by simp at hi
 | x :: a, y :: b, h, 0, _, hg => by
   rw [List.getD_cons_zero, List.getD_cons_zero] at hg
   rw [eqL, hg]; rfl
 | x :: a, y :: b, h, i + 1, hi, hg => by
   rw [List.getD_cons_succ, List.getD_cons_succ] at hg
   rw [eqL, eqL_hit (z := z) (by simpa using h) i (by simpa using hi) hg]
   exact Bool.and_false _
theorem eqL_all {α : Type} {g : α → α → Bool} {z : α} : ∀ {a b : List α}, a.length = b.length → (∀ i, i < a.length → g (a.getD i z) (b.getD i z) = true) → eqL g a b = true
 | [], [], _, _ => rfl
 | x :: a, y :: b, h, hg => by
   have h0 := hg 0 (by simp)
   rw [List.getD_cons_zero, List.getD_cons_zero] at h0
   rw [eqL, h0, eqL_all (z := z) (by simpa using h) fun i hi => by
     have h1 := hg (i + 1) (by simpa using hi)
     rw [List.getD_cons_succ, List.getD_cons_succ] at h1
     exact h1]
   rfl
theorem getD_memL {α : Type} {l : List α} {i : Nat} {z : α} (h : i < l.length) : l.getD i z ∈ l := by
 rw [List.getD_eq_getElem?_getD, List.getElem?_eq_getElem h]
 exact List.getElem_mem h
end TM
open Go.RowKit LX TR TM
theorem equalW_any {F : FuncId} {g : Wd → Wd → Bool} (hf : ∀ args w, (callFunc F args).run Tryz.prog w = .ok (.enter F args) w) (A B : Option Addr) (c d : Nat) (a b : List Wd) (hn : a.length ≤ 1099511627776) (w : World)
 (hA : Sl w w.heap.size A (wcs a)) (hB : Sl w w.heap.size B (wcs b))
 (hC : ∀ x ∈ a, ∀ y ∈ b, ∀ W, Below w.heap.size w W → Calls Tryz.prog F #[.agg (wv x), .agg (wv y)] W fun e w' => e = .returned (.bool (g x y)) ∧ Below W.heap.size W w') :
 Calls Tryz.prog 59 #[.slice A a.length c, .slice B b.length d, .func (.func F) #[] #[]] w fun e w' => e = .returned (.bool (eqL g a b)) ∧ Below w.heap.size w w' := by
 have HA := zh hA; clear hA
 have HB := zh hB; clear hB
 have HC : Hid (∀ i, i < a.length → a.length = b.length → ∀ W, Below w.heap.size w W → Calls Tryz.prog F #[.agg (wv (a.getD i w0)), .agg (wv (b.getD i w0))] W fun e w' => e = .returned (.bool (g (a.getD i w0) (b.getD i w0))) ∧ Below W.heap.size W w') := fun i hi he W h => hC _ (getD_memL hi) _ (getD_memL (l := b) (i := i) (z := w0) (by rw [← he]; exact hi)) W h
 clear hC
 by_cases hab : a.length = b.length
 ·have HIT := zh (fun i (hi : i < a.length) => @eqL_hit _ g w0 a b hab i hi)
  have MISS := zh (@eqL_all _ g w0 a b hab)
  have HCC := zh (fun i (hi : i < a.length) => HC.out i hi hab)
  clear HC
  generalize eqL g a b = r at *
  have HM := zh hab.symm
  rw [← hab]
  clear hab
  generalize hn' : a.length = n at *
  have HN := zh hn'; clear hn'
  go_enter Tryz.func59, Tryz.ntmps59
  go_wp2_with fail
  go_loopw [17] (fun iv wr => ∃ i : Nat, i ≤ n ∧ iv = .int .i64 i ∧ Hid (∀ j, j < i → g (a.getD j w0) (b.getD j w0) = true) ∧ Hid (Below w.heap.size w wr)) (fun iv _ => n - (intOf iv).toNat)
  case atStart => exact ⟨0, by omega, rfl, fun j hj => by omega, zB _ _⟩
  case round =>
   obtain ⟨i, hi, rfl, HF, HW⟩ := hrel
   by_cases hlt : i < n
   ·obtain ⟨ba, oa, rfl, hla, hca⟩ := sl_at (z := w0) wcells_length (HA.out.below HW.out) (k := i) (by rw [HN.out]; exact hlt) (by omega)
    have p0 := hca i 0 _ (by rw [HN.out]; exact hlt) (by omega) rfl
    have p1 := hca i 1 _ (by rw [HN.out]; exact hlt) (by omega) rfl
    rw [Nat.add_zero] at p0
    rw [← Nat.add_assoc] at p1
    have HIN : Hid (g (a.getD i w0) (b.getD i w0) = true → ∀ j, j < i + 1 → g (a.getD j w0) (b.getD j w0) = true) := fun h j hj => by
     by_cases hji : j = i
     ·rw [hji]; exact h
     ·exact HF.out j (by omega)
    have HNO : Hid (g (a.getD i w0) (b.getD i w0) = false → r = false) := fun h => HIT.out i hlt h
    have HD := zh (HCC.out i hlt)
    have hin : (i : Int) < (n : Int) := by omega
    clear hca HF
    generalize g (a.getD i w0) (b.getD i w0) = q at *
    generalize a.getD i w0 = x at *
    obtain ⟨s1, f1⟩ := x
    unfold wv at HD
    simp only at p0 p1 HD
    obtain ⟨bb, ob, rfl, hlb, hcb⟩ := sl_at (z := w0) wcells_length (HB.out.below (HW.out.alloc HW.out.size (.cells #[.string s1, .int .i64 f1] 23))) (k := i) (by rw [HM.out]; exact hlt) (by omega)
    have q0 := hcb i 0 _ (by rw [HM.out]; exact hlt) (by omega) rfl
    have q1 := hcb i 1 _ (by rw [HM.out]; exact hlt) (by omega) rfl
    rw [Nat.add_zero] at q0
    rw [← Nat.add_assoc] at q1
    clear hcb
    generalize b.getD i w0 = y at *
    obtain ⟨s2, f2⟩ := y
    simp only at q0 q1 HD
    have HB2 : Hid (Below w.heap.size w ((wr.alloc (.cells #[.string s1, .int .i64 f1] 23)).alloc (.cells #[.string s2, .int .i64 f2] 23))) :=
     (HW.out.alloc HW.out.size _).alloc (by have := HW.out.size; simp; omega) _
    cases q
    ·have HT := zh (HNO.out rfl)
     clear HNO HIN
     go_wp2_with fail
     refine (HD.out _ HB2.out).mono ?_
     rintro e w1 ⟨rfl, hb⟩
     have HW1 := zh (HB2.out.trans (hb.mono HB2.out.size)); clear hb
     go_wp2_with fail
     go_ret
     exact ⟨ret_eq (bool_eq HT.out.symm), HW1.out⟩
    ·have HT := zh (HIN.out rfl)
     clear HNO HIN
     go_wp2_with fail
     refine (HD.out _ HB2.out).mono ?_
     rintro e w1 ⟨rfl, hb⟩
     have HW1 := zh (HB2.out.trans (hb.mono HB2.out.size)); clear hb
     go_wp2_with fail
     go_roundw
     case rel => exact ⟨i + 1, by omega, by go_num, HT, HW1⟩
     case measure => simp [intOf]; omega
   ·obtain rfl : i = n := by omega
    have HR := zh (MISS.out HF.out)
    go_wp2_with fail
    go_ret
    exact ⟨ret_eq (bool_eq HR.out.symm), HW.out⟩
 ·rw [eqL_len hab]
  have hne : ((a.length : Int) != (b.length : Int)) = true := by simp; omega
  clear hab HC
  generalize a.length = n at *
  generalize b.length = m at *
  go_enter Tryz.func59, Tryz.ntmps59
  go_wp2_with fail
  go_ret
  exact ⟨rfl, zB _ _⟩
theorem equalN_any {F : FuncId} {g : Nd → Nd → Bool} (hf : ∀ args w, (callFunc F args).run Tryz.prog w = .ok (.enter F args) w) (A B : Option Addr) (c d : Nat) (a b : List Nd) (hn : a.length ≤ 1099511627776) (w : World)
 (hA : Sl w w.heap.size A (ncs a)) (hB : Sl w w.heap.size B (ncs b))
 (hC : ∀ x ∈ a, ∀ y ∈ b, ∀ W, Below w.heap.size w W → Calls Tryz.prog F #[.agg (nv x), .agg (nv y)] W fun e w' => e = .returned (.bool (g x y)) ∧ Below W.heap.size W w') :
 Calls Tryz.prog 62 #[.slice A a.length c, .slice B b.length d, .func (.func F) #[] #[]] w fun e w' => e = .returned (.bool (eqL g a b)) ∧ Below w.heap.size w w' := by
 have HA := zh hA; clear hA
 have HB := zh hB; clear hB
 have HC : Hid (∀ i, i < a.length → a.length = b.length → ∀ W, Below w.heap.size w W → Calls Tryz.prog F #[.agg (nv (a.getD i n0)), .agg (nv (b.getD i n0))] W fun e w' => e = .returned (.bool (g (a.getD i n0) (b.getD i n0))) ∧ Below W.heap.size W w') := fun i hi he W h => hC _ (getD_memL hi) _ (getD_memL (l := b) (i := i) (z := n0) (by rw [← he]; exact hi)) W h
 clear hC
 by_cases hab : a.length = b.length
 ·have HIT := zh (fun i (hi : i < a.length) => @eqL_hit _ g n0 a b hab i hi)
  have MISS := zh (@eqL_all _ g n0 a b hab)
  have HCC := zh (fun i (hi : i < a.length) => HC.out i hi hab)
  clear HC
  generalize eqL g a b = r at *
  have HM := zh hab.symm
  rw [← hab]
  clear hab
  generalize hn' : a.length = n at *
  have HN := zh hn'; clear hn'
  go_enter Tryz.func62, Tryz.ntmps62
  go_wp2_with fail
  go_loopw [17] (fun iv wr => ∃ i : Nat, i ≤ n ∧ iv = .int .i64 i ∧ Hid (∀ j, j < i → g (a.getD j n0) (b.getD j n0) = true) ∧ Hid (Below w.heap.size w wr)) (fun iv _ => n - (intOf iv).toNat)
  case atStart => exact ⟨0, by omega, rfl, fun j hj => by omega, zB _ _⟩
  case round =>
   obtain ⟨i, hi, rfl, HF, HW⟩ := hrel
   by_cases hlt : i < n
   ·obtain ⟨ba, oa, rfl, hla, hca⟩ := sl_at (z := n0) ncells_length (HA.out.below HW.out) (k := i) (by rw [HN.out]; exact hlt) (by omega)
    have p0 := hca i 0 _ (by rw [HN.out]; exact hlt) (by omega) rfl
    have p1 := hca i 1 _ (by rw [HN.out]; exact hlt) (by omega) rfl
    have p2 := hca i 2 _ (by rw [HN.out]; exact hlt) (by omega) rfl
    have p3 := hca i 3 _ (by rw [HN.out]; exact hlt) (by omega) rfl
    have p4 := hca i 4 _ (by rw [HN.out]; exact hlt) (by omega) rfl
    rw [Nat.add_zero] at p0
    rw [← Nat.add_assoc] at p1 p2 p3 p4
    have HIN : Hid (g (a.getD i n0) (b.getD i n0) = true → ∀ j, j < i + 1 → g (a.getD j n0) (b.getD j n0) = true) := fun h j hj => by
     by_cases hji : j = i
     ·rw [hji]; exact h
     ·exact HF.out j (by omega)
    have HNO : Hid (g (a.getD i n0) (b.getD i n0) = false → r = false) := fun h => HIT.out i hlt h
    have HD := zh (HCC.out i hlt)
    have hin : (i : Int) < (n : Int) := by omega
    clear hca HF
    generalize g (a.getD i n0) (b.getD i n0) = q at *
    generalize a.getD i n0 = x at *
    obtain ⟨xk, xp, xs, xA, xc, xw, xB, xd, xx⟩ := x
    unfold nv at HD
    simp only [Nd.k, Nd.p, Nd.s, Nd.A, Nd.c, Nd.ws, Nd.B, Nd.d, Nd.ks] at p0 p1 p2 p3 p4 HD
    obtain ⟨bb, ob, rfl, hlb, hcb⟩ := sl_at (z := n0) ncells_length (HB.out.below (HW.out.alloc HW.out.size (.cells #[.int .i64 xk, .int .i64 xp, .string xs, .slice xA xw.length xc, .slice xB xx.length xd] 28))) (k := i) (by rw [HM.out]; exact hlt) (by omega)
    have q0 := hcb i 0 _ (by rw [HM.out]; exact hlt) (by omega) rfl
    have q1 := hcb i 1 _ (by rw [HM.out]; exact hlt) (by omega) rfl
    have q2 := hcb i 2 _ (by rw [HM.out]; exact hlt) (by omega) rfl
    have q3 := hcb i 3 _ (by rw [HM.out]; exact hlt) (by omega) rfl
    have q4 := hcb i 4 _ (by rw [HM.out]; exact hlt) (by omega) rfl
    rw [Nat.add_zero] at q0
    rw [← Nat.add_assoc] at q1 q2 q3 q4
    clear hcb
    generalize b.getD i n0 = y at *
    obtain ⟨yk, yp, ys, yA, yc, yw, yB, yd, yy⟩ := y
    simp only [Nd.k, Nd.p, Nd.s, Nd.A, Nd.c, Nd.ws, Nd.B, Nd.d, Nd.ks] at q0 q1 q2 q3 q4 HD
    have HB2 : Hid (Below w.heap.size w ((wr.alloc (.cells #[.int .i64 xk, .int .i64 xp, .string xs, .slice xA xw.length xc, .slice xB xx.length xd] 28)).alloc (.cells #[.int .i64 yk, .int .i64 yp, .string ys, .slice yA yw.length yc, .slice yB yy.length yd] 28))) :=
     (HW.out.alloc HW.out.size _).alloc (by have := HW.out.size; simp; omega) _
    cases q
    ·have HT := zh (HNO.out rfl)
     clear HNO HIN
     go_wp2_with fail
     refine (HD.out _ HB2.out).mono ?_
     rintro e w1 ⟨rfl, hb⟩
     have HW1 := zh (HB2.out.trans (hb.mono HB2.out.size)); clear hb
     go_wp2_with fail
     go_ret
     exact ⟨ret_eq (bool_eq HT.out.symm), HW1.out⟩
    ·have HT := zh (HIN.out rfl)
     clear HNO HIN
     go_wp2_with fail
     refine (HD.out _ HB2.out).mono ?_
     rintro e w1 ⟨rfl, hb⟩
     have HW1 := zh (HB2.out.trans (hb.mono HB2.out.size)); clear hb
     go_wp2_with fail
     go_roundw
     case rel => exact ⟨i + 1, by omega, by go_num, HT, HW1⟩
     case measure => simp [intOf]; omega
   ·obtain rfl : i = n := by omega
    have HR := zh (MISS.out HF.out)
    go_wp2_with fail
    go_ret
    exact ⟨ret_eq (bool_eq HR.out.symm), HW.out⟩
 ·rw [eqL_len hab]
  have hne : ((a.length : Int) != (b.length : Int)) = true := by simp; omega
  clear hab HC
  generalize a.length = n at *
  generalize b.length = m at *
  go_enter Tryz.func62, Tryz.ntmps62
  go_wp2_with fail
  go_ret
  exact ⟨rfl, zB _ _⟩
end
section
namespace TM
def sw (a b : Wd) : Bool := decide (a.s = b.s)
def sms : List Nd → List Nd → Bool
 | [], [] => true
 | [], _ :: _ => false
 | _ :: _, [] => false
 | .mk k _ s _ _ ws _ _ ks :: r, y :: b => (decide (k = y.k) && (decide (s = y.s) && (eqL sw ws y.ws && sms ks y.ks))) && sms r b
def sm (x y : Nd) : Bool := decide (x.k = y.k) && (decide (x.s = y.s) && (eqL sw x.ws y.ws && sms x.ks y.ks))
theorem sms_eqL : ∀ a b : List Nd, sms a b = eqL sm a b
 | [], [] => by rw [sms, eqL]
 | [], _ :: _ => by rw [sms, eqL]
 | _ :: _, [] => by rw [sms, eqL]
 | .mk k p s A c ws B d ks :: r, y :: b => by rw [sms, eqL, sms_eqL r b]; rfl
theorem sm_mk {xk xp xs xA xc xw xB xd xx yk yp ys yA yc yw yB yd yy} : sm (.mk xk xp xs xA xc xw xB xd xx) (.mk yk yp ys yA yc yw yB yd yy) = (decide (xk = yk) && (decide (xs = ys) && (eqL sw xw yw && eqL sm xx yy))) := by
 rw [← sms_eqL]; rfl
end TM
open Go.RowKit LX TR TM
theorem sameW1_any (x y : Wd) (w : World) : Calls Tryz.prog 61 #[.agg (wv x), .agg (wv y)] w fun e w' => e = .returned (.bool (sw x y)) ∧ Below w.heap.size w w' := by
 obtain ⟨s, p⟩ := x
 obtain ⟨t, q⟩ := y
 have hB : Below w.heap.size w ((w.alloc (.cells #[.string s, .int .i64 p] 23)).alloc (.cells #[.string t, .int .i64 q] 23)) := ((zB _ _).alloc (zL _) _).alloc (by simp) _
 have HB := zh hB
 have q1 := NM.str_eq s t
 have HX : Hid (sw ⟨s, p⟩ ⟨t, q⟩ = decide (s = t)) := rfl
 rw [HX.out]
 clear hB HX
 unfold wv
 simp only
 generalize decide (s = t) = r at *
 go_enter Tryz.func61, Tryz.ntmps61
 go_wp2_with fail
 go_ret
 exact ⟨rfl, HB.out⟩
theorem same_step (N : Nat) (hN : N < 4294967296) (ih : ∀ x y, cnt [x] ≤ N → ∀ w, Nods w w.heap.size [x] → Nods w w.heap.size [y] → Calls Tryz.prog 34 #[.agg (nv x), .agg (nv y)] w fun e w' => e = .returned (.bool (sm x y)) ∧ Below w.heap.size w w') (x y : Nd) (hz : cnt [x] ≤ N + 1) (w : World) (hx : Nods w w.heap.size [x]) (hy : Nods w w.heap.size [y]) :
 Calls Tryz.prog 34 #[.agg (nv x), .agg (nv y)] w fun e w' => e = .returned (.bool (sm x y)) ∧ Below w.heap.size w w' := by
 obtain ⟨xk, xp, xs, xA, xc, xw, xB, xd, xx⟩ := x
 obtain ⟨yk, yp, ys, yA, yc, yw, yB, yd, yy⟩ := y
 have hcz : 1 + xw.length + cnt xx ≤ N + 1 := by rw [cnt_cons] at hz; simp only [cnt, Nat.add_zero] at hz; exact hz
 have hzl := length_cnt xx
 have hn := RowAt.new w 28 #[.int .i64 xk, .int .i64 xp, .string xs, .slice xA xw.length xc, .slice xB xx.length xd]
 have hrx := hn.alloc (.cells #[.int .i64 yk, .int .i64 yp, .string ys, .slice yA yw.length yc, .slice yB yy.length yd] 28)
 have hry := RowAt.new (w.alloc (.cells #[.int .i64 xk, .int .i64 xp, .string xs, .slice xA xw.length xc, .slice xB xx.length xd] 28)) 28 #[.int .i64 yk, .int .i64 yp, .string ys, .slice yA yw.length yc, .slice yB yy.length yd]
 rw [show ((w.alloc (.cells #[.int .i64 xk, .int .i64 xp, .string xs, .slice xA xw.length xc, .slice xB xx.length xd] 28))).heap.size = w.heap.size + 1 by simp] at hry
 have hB : Below w.heap.size w ((w.alloc (.cells #[.int .i64 xk, .int .i64 xp, .string xs, .slice xA xw.length xc, .slice xB xx.length xd] 28)).alloc (.cells #[.int .i64 yk, .int .i64 yp, .string ys, .slice yA yw.length yc, .slice yB yy.length yd] 28)) := ((zB _ _).alloc (zL _) _).alloc (by simp) _
 have HXK : Hid (∀ W, Below w.heap.size w W → Nods W W.heap.size xx) := fun W h => (hx.kids.below h).mono h.size
 have HYK : Hid (∀ W, Below w.heap.size w W → Nods W W.heap.size yy) := fun W h => (hy.kids.below h).mono h.size
 have HE1 := zh (fun W (h : Below w.heap.size w W) => equalW_any (F := 61) (g := sw) (fun _ _ => by kernel_rfl) xA yA xc yc xw yw (by omega) W ((hx.at.1.1.below h).mono h.size) ((hy.at.1.1.below h).mono h.size) (fun a _ b _ W' _ => sameW1_any a b W'))
 have HE2 := zh (fun W (h : Below w.heap.size w W) => equalN_any (F := 34) (g := sm) (fun _ _ => by kernel_rfl) xB yB xd yd xx yy (by omega) W ((hx.at.2.1.below h).mono h.size) ((hy.at.2.1.below h).mono h.size) (fun a ha b hb W' h' => ih a b (by
  have h1 := cnt_mem ha
  rw [cnt_cons]
  simp only [cnt, Nat.add_zero]
  omega) W' (((HXK.out W h).mem ha).below h' |>.mono h'.size) (((HYK.out W h).mem hb).below h' |>.mono h'.size)))
 have HSM : Hid (sm (.mk xk xp xs xA xc xw xB xd xx) (.mk yk yp ys yA yc yw yB yd yy) = (decide (xk = yk) && (decide (xs = ys) && (eqL sw xw yw && eqL sm xx yy)))) := sm_mk
 unfold nv
 simp only [Nd.k, Nd.p, Nd.s, Nd.A, Nd.c, Nd.ws, Nd.B, Nd.d, Nd.ks]
 rw [HSM.out]
 clear hx hy ih HXK HYK HSM
 generalize eqL sw xw yw = rw' at *
 generalize eqL sm xx yy = rk at *
 have HB := zh hB
 have HRX := zh hrx
 have HRY := zh hry
 generalize xw.length = nw at *
 generalize yw.length = mw at *
 generalize xx.length = nx at *
 generalize yy.length = my at *
 obtain ⟨m0, m1, m2, m3, m4, _, _, _, _, _⟩ := row5 hrx
 obtain ⟨n0', n1', n2', n3', n4', _, _, _, _, _⟩ := row5 hry
 clear hn hrx hry hB
 by_cases hk : xk = yk
 ·subst hk
  by_cases hs : xs = ys
  ·subst hs
   cases rw'
   ·go_enter Tryz.func34, Tryz.ntmps34
    go_wp2_with fail
    refine (HE1.out _ HB.out).mono ?_
    rintro e w2 ⟨rfl, hb⟩
    have HB2 := zh (HB.out.trans (hb.mono HB.out.size))
    have r1 := HRX.out.below hb HRX.out.lt
    have r2 := HRY.out.below hb HRY.out.lt
    obtain ⟨m0, m1, m2, m3, m4, _, _, _, _, _⟩ := row5 r1
    obtain ⟨n0', n1', n2', n3', n4', _, _, _, _, _⟩ := row5 r2
    clear hb r1 r2
    go_wp2_with fail
    go_ret
    exact ⟨ret_eq (bool_eq (by simp)), HB2.out⟩
   ·go_enter Tryz.func34, Tryz.ntmps34
    go_wp2_with fail
    refine (HE1.out _ HB.out).mono ?_
    rintro e w2 ⟨rfl, hb⟩
    have HB2 := zh (HB.out.trans (hb.mono HB.out.size))
    have r1 := HRX.out.below hb HRX.out.lt
    have r2 := HRY.out.below hb HRY.out.lt
    obtain ⟨m0, m1, m2, m3, m4, _, _, _, _, _⟩ := row5 r1
    obtain ⟨n0', n1', n2', n3', n4', _, _, _, _, _⟩ := row5 r2
    clear hb r1 r2
    go_wp2_with fail
    refine (HE2.out _ HB2.out).mono ?_
    rintro e w3 ⟨rfl, hb⟩
    have HB3 := zh (HB2.out.trans (hb.mono HB2.out.size))
    clear hb
    go_wp2_with fail
    go_ret
    exact ⟨ret_eq (bool_eq (by simp)), HB3.out⟩
  ·have q1 : (xs.toList == ys.toList) = false := (NM.str_eq xs ys).trans (zF hs)
   have q2 : (xs.toList != ys.toList) = true := by rw [bne, q1]; rfl
   go_enter Tryz.func34, Tryz.ntmps34
   go_wp2_with fail
   go_ret
   exact ⟨ret_eq (bool_eq (by simp [hs])), HB.out⟩
 ·have q1 : (xk == yk) = false := by rw [beq_eq_false_iff_ne]; exact hk
  have q2 : (xk != yk) = true := by rw [bne_iff_ne]; exact hk
  go_enter Tryz.func34, Tryz.ntmps34
  go_wp2_with fail
  go_ret
  exact ⟨ret_eq (bool_eq (by simp [hk])), HB.out⟩
theorem same10_any : ∀ N, N ≤ 4294967296 → ∀ x y, cnt [x] ≤ N → ∀ w, Nods w w.heap.size [x] → Nods w w.heap.size [y] → Calls Tryz.prog 34 #[.agg (nv x), .agg (nv y)] w fun e w' => e = .returned (.bool (sm x y)) ∧ Below w.heap.size w w' := by
 intro N
 induction N with
 | zero => intro _ x y hz; rw [cnt_cons] at hz; omega
 | succ N ih => intro h x y hz; exact same_step N (by omega) (ih (by omega)) x y hz
end
section
open Go.RowKit LX TR TM
theorem below_cell {B : Nat} {w w' : World} (h : Below B w w') {b o : Nat} (hb : b < B) : w'.cell? ⟨b, o, none⟩ = w.cell? ⟨b, o, none⟩ := by
 simp only [World.cell?]
 rw [h.block b hb]
theorem refSame10_step (N : Nat) (hN : N < 4294967296) (ih : ∀ x y, cnt [x] ≤ N → ∀ w, Nods w w.heap.size [x] → Nods w w.heap.size [y] → Calls Tryz.prog 35 #[.agg (nv x), .agg (nv y)] w fun e w' => e = .returned (.bool (sm x y)) ∧ Below w.heap.size w w') (x y : Nd) (hz : cnt [x] ≤ N + 1) (w : World) (hx : Nods w w.heap.size [x]) (hy : Nods w w.heap.size [y]) :
 Calls Tryz.prog 35 #[.agg (nv x), .agg (nv y)] w fun e w' => e = .returned (.bool (sm x y)) ∧ Below w.heap.size w w' := by
 obtain ⟨xk, xp, xs, xA, xc, xw, xB, xd, xx⟩ := x
 obtain ⟨yk, yp, ys, yA, yc, yw, yB, yd, yy⟩ := y
 have hcz : 1 + xw.length + cnt xx ≤ N + 1 := by rw [cnt_cons] at hz; simp only [cnt, Nat.add_zero] at hz; exact hz
 have hzl := length_cnt xx
 have hxw : xw.length ≤ 4294967296 := by omega
 have hxx : xx.length ≤ 4294967296 := by omega
 have hn := RowAt.new w 28 #[.int .i64 xk, .int .i64 xp, .string xs, .slice xA xw.length xc, .slice xB xx.length xd]
 have hrx := hn.alloc (.cells #[.int .i64 yk, .int .i64 yp, .string ys, .slice yA yw.length yc, .slice yB yy.length yd] 28)
 have hry := RowAt.new (w.alloc (.cells #[.int .i64 xk, .int .i64 xp, .string xs, .slice xA xw.length xc, .slice xB xx.length xd] 28)) 28 #[.int .i64 yk, .int .i64 yp, .string ys, .slice yA yw.length yc, .slice yB yy.length yd]
 rw [show ((w.alloc (.cells #[.int .i64 xk, .int .i64 xp, .string xs, .slice xA xw.length xc, .slice xB xx.length xd] 28))).heap.size = w.heap.size + 1 by simp] at hry
 have hB : Below w.heap.size w ((w.alloc (.cells #[.int .i64 xk, .int .i64 xp, .string xs, .slice xA xw.length xc, .slice xB xx.length xd] 28)).alloc (.cells #[.int .i64 yk, .int .i64 yp, .string ys, .slice yA yw.length yc, .slice yB yy.length yd] 28)) := ((zB _ _).alloc (zL _) _).alloc (by simp) _
 have HXK : Hid (∀ W, Below w.heap.size w W → Nods W W.heap.size xx) := fun W h => (hx.kids.below h).mono h.size
 have HYK : Hid (∀ W, Below w.heap.size w W → Nods W W.heap.size yy) := fun W h => (hy.kids.below h).mono h.size
 have HXW : Hid (∀ W, Below w.heap.size w W → Sl W w.heap.size xA (wcs xw)) := fun W h => hx.at.1.1.below h
 have HYW : Hid (∀ W, Below w.heap.size w W → Sl W w.heap.size yA (wcs yw)) := fun W h => hy.at.1.1.below h
 have HXS : Hid (∀ W, Below w.heap.size w W → Sl W w.heap.size xB (ncs xx)) := fun W h => hx.at.2.1.below h
 have HYS : Hid (∀ W, Below w.heap.size w W → Sl W w.heap.size yB (ncs yy)) := fun W h => hy.at.2.1.below h
 have HD : Hid (∀ i, i < xx.length → xx.length = yy.length → ∀ W, Below w.heap.size w W → Calls Tryz.prog 35 #[.agg (nv (xx.getD i n0)), .agg (nv (yy.getD i n0))] W fun e w' => e = .returned (.bool (sm (xx.getD i n0) (yy.getD i n0))) ∧ Below W.heap.size W w') := fun i hi he W h => ih _ _ (by
  have h1 := cnt_mem (getD_memL (z := n0) hi)
  rw [cnt_cons]
  simp only [cnt, Nat.add_zero]
  omega) W ((HXK.out W h).mem (getD_memL hi)) ((HYK.out W h).mem (getD_memL (by rw [← he]; exact hi)))
 have HSM : Hid (sm (.mk xk xp xs xA xc xw xB xd xx) (.mk yk yp ys yA yc yw yB yd yy) = (decide (xk = yk) && (decide (xs = ys) && (eqL sw xw yw && eqL sm xx yy)))) := sm_mk
 have H1L : Hid (¬ xw.length = yw.length → eqL sw xw yw = false) := eqL_len
 have H2L : Hid (¬ xx.length = yy.length → eqL sm xx yy = false) := eqL_len
 have H1H : Hid (xw.length = yw.length → ∀ i, i < xw.length → sw (xw.getD i w0) (yw.getD i w0) = false → eqL sw xw yw = false) := fun h i => eqL_hit h i
 have H2H : Hid (xx.length = yy.length → ∀ i, i < xx.length → sm (xx.getD i n0) (yy.getD i n0) = false → eqL sm xx yy = false) := fun h i => eqL_hit h i
 have H1A : Hid (xw.length = yw.length → (∀ i, i < xw.length → sw (xw.getD i w0) (yw.getD i w0) = true) → eqL sw xw yw = true) := fun h => eqL_all h
 have H2A : Hid (xx.length = yy.length → (∀ i, i < xx.length → sm (xx.getD i n0) (yy.getD i n0) = true) → eqL sm xx yy = true) := fun h => eqL_all h
 unfold nv at HD ⊢
 simp only [Nd.k, Nd.p, Nd.s, Nd.A, Nd.c, Nd.ws, Nd.B, Nd.d, Nd.ks]
 rw [HSM.out]
 clear hx hy ih HXK HYK HSM hz hcz hzl
 have HWW : Hid (w.heap.size + 2 ≤ ((w.alloc (.cells #[.int .i64 xk, .int .i64 xp, .string xs, .slice xA xw.length xc, .slice xB xx.length xd] 28)).alloc (.cells #[.int .i64 yk, .int .i64 yp, .string ys, .slice yA yw.length yc, .slice yB yy.length yd] 28)).heap.size) := by show _ ≤ _; simp
 generalize eqL sw xw yw = r1 at *
 generalize eqL sm xx yy = r2 at *
 have HB := zh hB
 have HRX := zh hrx
 have HRY := zh hry
 generalize hnw : xw.length = nw at *
 generalize hmw : yw.length = mw at *
 generalize hnx : xx.length = nx at *
 generalize hmy : yy.length = my at *
 have HNW := zh hnw
 have HMW := zh hmw
 have HNX := zh hnx
 have HMY := zh hmy
 obtain ⟨m0, m1, m2, m3, m4, _, _, _, _, _⟩ := row5 hrx
 obtain ⟨n0', n1', n2', n3', n4', _, _, _, _, _⟩ := row5 hry
 clear hn hrx hry hB hnw hmw hnx hmy
 by_cases hk : xk = yk
 ·subst hk
  by_cases hs : xs = ys
  ·subst hs
   by_cases hw : nw = mw
   ·subst hw
    by_cases hkk : nx = my
    ·subst hkk
     go_enter Tryz.func35, Tryz.ntmps35
     go_wp2_with fail
     generalize ((w.alloc (.cells #[.int .i64 xk, .int .i64 xp, .string xs, .slice xA nw xc, .slice xB nx xd] 28)).alloc (.cells #[.int .i64 xk, .int .i64 yp, .string xs, .slice yA nw yc, .slice yB nx yd] 28)) = w2 at *
     go_loopw [5] (fun iv wr => ∃ i : Nat, i ≤ nw ∧ iv = .int .i64 i ∧ Hid (∀ j, j < i → sw (xw.getD j w0) (yw.getD j w0) = true) ∧ Hid (Below w2.heap.size w2 wr)) (fun iv _ => nw - (intOf iv).toNat)
     case atStart => exact ⟨0, by omega, rfl, fun j hj => by omega, zB _ _⟩
     case round =>
         obtain ⟨i, hi, rfl, HF, HW⟩ := hrel
         have HBW := zh (HB.out.trans (HW.out.mono HB.out.size))
         obtain ⟨m0, m1, m2, m3, m4, _, _, _, _, _⟩ := row5 (HRX.out.below HW.out HRX.out.lt)
         obtain ⟨n0', n1', n2', n3', n4', _, _, _, _, _⟩ := row5 (HRY.out.below HW.out HRY.out.lt)
         by_cases hlt : i < nw
         ·obtain ⟨b1, o1, rfl, _, hc1⟩ := sl_at (z := w0) wcells_length (HXW.out wr HBW.out) (k := i) (by rw [HNW.out]; exact hlt) (by omega)
          obtain ⟨b2, o2, rfl, _, hc2⟩ := sl_at (z := w0) wcells_length (HYW.out wr HBW.out) (k := i) (by rw [HMW.out]; exact hlt) (by omega)
          have p0 := hc1 i 0 _ (by rw [HNW.out]; exact hlt) (by omega) rfl
          rw [Nat.add_zero] at p0
          have q0 := hc2 i 0 _ (by rw [HMW.out]; exact hlt) (by omega) rfl
          rw [Nat.add_zero] at q0
          have hin : (i : Int) < (nw : Int) := by omega
          have HIN : Hid (sw (xw.getD i w0) (yw.getD i w0) = true → ∀ j, j < i + 1 → sw (xw.getD j w0) (yw.getD j w0) = true) := fun h j hj => by
           by_cases hji : j = i
           ·rw [hji]; exact h
           ·exact HF.out j (by omega)
          have HNO : Hid (sw (xw.getD i w0) (yw.getD i w0) = false → r1 = false) := fun h => H1H.out (by first | rfl | trivial) i hlt h
          clear hc1 hc2 HF
          unfold sw at HIN HNO
          have HIN : Hid (decide ((xw.getD i w0).s = (yw.getD i w0).s) = true → ∀ j, j < i + 1 → sw (xw.getD j w0) (yw.getD j w0) = true) := HIN
          have qe := NM.str_eq (xw.getD i w0).s (yw.getD i w0).s
          generalize (xw.getD i w0) = x at *
          generalize (yw.getD i w0) = y at *
          obtain ⟨s1, f1⟩ := x
          obtain ⟨s2, f2⟩ := y
          simp only at p0 q0 HIN HNO qe
          generalize decide (s1 = s2) = q at *
          have qn : (s1.toList != s2.toList) = !q := by rw [bne, qe]
          cases q
          ·have HT := zh (HNO.out rfl)
           clear HNO HIN
           go_wp2_with fail
           go_quiet (fail)
           go_wp2_with fail
           go_ret
           exact ⟨ret_eq (bool_eq (by rw [HT.out]; simp)), HBW.out.trans (((Dr.refl wr).more _).below.mono HBW.out.size)⟩
          ·have HT := zh (HIN.out rfl)
           clear HNO HIN
           go_wp2_with fail
           go_quiet (fail)
           go_wp2_with fail
           go_roundw
           case rel => exact ⟨i + 1, by omega, by go_num, HT, HW.out.trans (((Dr.refl wr).more _).below.mono HW.out.size)⟩
           case measure => simp [intOf]; omega
         ·obtain rfl : i = nw := by omega
          have HR1 : Hid (r1 = true) := H1A.out (by first | rfl | trivial) HF.out
          go_wp2_with fail
          obtain ⟨wo, hwo⟩ : ∃ wo : World, wo = wr := ⟨_, rfl⟩
          subst hwo
          go_loopw [6] (fun iv wr => ∃ k : Nat, k ≤ nx ∧ iv = .int .i64 k ∧ Hid (∀ j, j < k → sm (xx.getD j n0) (yy.getD j n0) = true) ∧ Hid (Below w2.heap.size w2 wr)) (fun iv _ => nx - (intOf iv).toNat)
          case atStart => exact ⟨0, by omega, rfl, fun j hj => by omega, HW.out⟩
          case round =>
           obtain ⟨i, hi, rfl, HF, HW⟩ := hrel
           have HBW := zh (HB.out.trans (HW.out.mono HB.out.size))
           obtain ⟨m0, m1, m2, m3, m4, _, _, _, _, _⟩ := row5 (HRX.out.below HW.out HRX.out.lt)
           obtain ⟨n0', n1', n2', n3', n4', _, _, _, _, _⟩ := row5 (HRY.out.below HW.out HRY.out.lt)
           by_cases hlt : i < nx
           ·obtain ⟨b1, o1, rfl, hl1, hc1⟩ := sl_at (z := n0) ncells_length (HXS.out wr HBW.out) (k := i) (by rw [HNX.out]; exact hlt) (by omega)
            obtain ⟨b2, o2, rfl, hl2, hc2⟩ := sl_at (z := n0) ncells_length (HYS.out wr HBW.out) (k := i) (by rw [HMY.out]; exact hlt) (by omega)
            have p0 := hc1 i 0 _ (by rw [HNX.out]; exact hlt) (by omega) rfl
            have p1 := hc1 i 1 _ (by rw [HNX.out]; exact hlt) (by omega) rfl
            have p2 := hc1 i 2 _ (by rw [HNX.out]; exact hlt) (by omega) rfl
            have p3 := hc1 i 3 _ (by rw [HNX.out]; exact hlt) (by omega) rfl
            have p4 := hc1 i 4 _ (by rw [HNX.out]; exact hlt) (by omega) rfl
            rw [Nat.add_zero] at p0
            rw [← Nat.add_assoc] at p1 p2 p3 p4
            have q0 := hc2 i 0 _ (by rw [HMY.out]; exact hlt) (by omega) rfl
            have q1 := hc2 i 1 _ (by rw [HMY.out]; exact hlt) (by omega) rfl
            have q2 := hc2 i 2 _ (by rw [HMY.out]; exact hlt) (by omega) rfl
            have q3 := hc2 i 3 _ (by rw [HMY.out]; exact hlt) (by omega) rfl
            have q4 := hc2 i 4 _ (by rw [HMY.out]; exact hlt) (by omega) rfl
            rw [Nat.add_zero] at q0
            rw [← Nat.add_assoc] at q1 q2 q3 q4
            have hin : (i : Int) < (nx : Int) := by omega
            have HIN : Hid (sm (xx.getD i n0) (yy.getD i n0) = true → ∀ j, j < i + 1 → sm (xx.getD j n0) (yy.getD j n0) = true) := fun h j hj => by
             by_cases hji : j = i
             ·rw [hji]; exact h
             ·exact HF.out j (by omega)
            have HNO : Hid (sm (xx.getD i n0) (yy.getD i n0) = false → r2 = false) := fun h => H2H.out (by first | rfl | trivial) i hlt h
            have HDD := zh (HD.out i hlt (by first | rfl | trivial))
            clear hc1 hc2 HF
            generalize sm (xx.getD i n0) (yy.getD i n0) = q at *
            generalize (xx.getD i n0) = x at *
            generalize (yy.getD i n0) = y at *
            obtain ⟨ak, ap, as', aA, ac, aw, aB, ad, ax⟩ := x
            obtain ⟨ck, cp, cs', cA, cc, cw, cB', cd, cx⟩ := y
            simp only [Nd.k, Nd.p, Nd.s, Nd.A, Nd.c, Nd.ws, Nd.B, Nd.d, Nd.ks] at p0 p1 p2 p3 p4 q0 q1 q2 q3 q4 HDD
            obtain ⟨S, hSe⟩ : ∃ S : World → Prop, S = fun w' => Below w2.heap.size w2 w' ∧ Below wr.heap.size wr w' := ⟨_, rfl⟩
            have keepS : ∀ wa wb, S wa → Below wa.heap.size wa wb → S wb := fun wa wb h hb => by
             rw [hSe] at h ⊢
             exact ⟨h.1.trans (hb.mono h.1.size), h.2.trans (hb.mono h.2.size)⟩
            have HSB : Hid (∀ W, S W → Below w.heap.size w W) := fun W h => by
             rw [hSe] at h
             exact HB.out.trans (h.1.mono HB.out.size)
            have hl3 : b1 < wr.heap.size := zT hl1 HBW.out.size
            have hl4 : b2 < wr.heap.size := zT hl2 HBW.out.size
            have C0 : ∀ W, S W → W.cell? ⟨w.heap.size, 4, none⟩ = some (.slice (some ⟨b1, o1, none⟩) nx xd) := fun W h => by
             rw [hSe] at h
             exact (RowAt.cell (HRX.out.below h.1 HRX.out.lt) 4).trans rfl
            have C1 : ∀ W, S W → W.cell? ⟨w.heap.size + 1, 4, none⟩ = some (.slice (some ⟨b2, o2, none⟩) nx yd) := fun W h => by
             rw [hSe] at h
             exact (RowAt.cell (HRY.out.below h.1 HRY.out.lt) 4).trans rfl
            have P0 : ∀ W, S W → W.cell? ⟨b1, o1 + i * 5, none⟩ = some (.int .i64 ak) := fun W h => by
             rw [hSe] at h
             exact (below_cell h.2 hl3).trans p0
            have P1 : ∀ W, S W → W.cell? ⟨b1, o1 + i * 5 + 1, none⟩ = some (.int .i64 ap) := fun W h => by
             rw [hSe] at h
             exact (below_cell h.2 hl3).trans p1
            have P2 : ∀ W, S W → W.cell? ⟨b1, o1 + i * 5 + 2, none⟩ = some (.string as') := fun W h => by
             rw [hSe] at h
             exact (below_cell h.2 hl3).trans p2
            have P3 : ∀ W, S W → W.cell? ⟨b1, o1 + i * 5 + 3, none⟩ = some (.slice aA aw.length ac) := fun W h => by
             rw [hSe] at h
             exact (below_cell h.2 hl3).trans p3
            have P4 : ∀ W, S W → W.cell? ⟨b1, o1 + i * 5 + 4, none⟩ = some (.slice aB ax.length ad) := fun W h => by
             rw [hSe] at h
             exact (below_cell h.2 hl3).trans p4
            have Q0 : ∀ W, S W → W.cell? ⟨b2, o2 + i * 5, none⟩ = some (.int .i64 ck) := fun W h => by
             rw [hSe] at h
             exact (below_cell h.2 hl4).trans q0
            have Q1 : ∀ W, S W → W.cell? ⟨b2, o2 + i * 5 + 1, none⟩ = some (.int .i64 cp) := fun W h => by
             rw [hSe] at h
             exact (below_cell h.2 hl4).trans q1
            have Q2 : ∀ W, S W → W.cell? ⟨b2, o2 + i * 5 + 2, none⟩ = some (.string cs') := fun W h => by
             rw [hSe] at h
             exact (below_cell h.2 hl4).trans q2
            have Q3 : ∀ W, S W → W.cell? ⟨b2, o2 + i * 5 + 3, none⟩ = some (.slice cA cw.length cc) := fun W h => by
             rw [hSe] at h
             exact (below_cell h.2 hl4).trans q3
            have Q4 : ∀ W, S W → W.cell? ⟨b2, o2 + i * 5 + 4, none⟩ = some (.slice cB' cx.length cd) := fun W h => by
             rw [hSe] at h
             exact (below_cell h.2 hl4).trans q4
            have HS : Hid (S wr.drew) := by
             show S wr.drew
             rw [hSe]
             exact ⟨HW.out.drew, (zB _ _).drew⟩
            go_upto_region 11 with fail
            refine wp_region_ord S [(0, true), (1, true), (2, true), (3, true), (4, true), (5, true), (6, true), (7, true), (8, true), (9, true), (10, false), (11, true)] (by kernel_rfl) (by kernel_rfl) rfl (by kernel_rfl) HS.out ?_
            iterate 10
             (refine wpOrd_step (zO rfl) ?_)
             (first
                        | (refine wpOrd_skip (by rfl) ?_)
                        | (refine wpOrd_take (v := ?_) (by rfl) ?_ ?_; rotate_left 1; (intro wx hSx; have hc_0 := C0 wx hSx; have hc_1 := C1 wx hSx; have hc_2 := P0 wx hSx; have hc_3 := P1 wx hSx; have hc_4 := P2 wx hSx; have hc_5 := P3 wx hSx; have hc_6 := P4 wx hSx; have hc_7 := Q0 wx hSx; have hc_8 := Q1 wx hSx; have hc_9 := Q2 wx hSx; have hc_10 := Q3 wx hSx; have hc_11 := Q4 wx hSx; go_simp; try with_reducible rfl)))
             (try simp only [Act.put, zA4, zA5, zA6])
            (refine wpOrd_solo (zO rfl) ?_)
            intro K hK
            go_simp
            go_at_call 35
            refine (HDD.out _ (HSB.out _ HS.out)).mono ?_
            rintro e w4 ⟨rfl, hb⟩
            have hS := keepS _ _ HS.out hb
            clear HS
            have HS := zh hS; clear hS hb
            refine hK.out _ _ HS.out ?_
            clear hK K
            (try simp only [Act.put, zA4, zA5, zA6])
            iterate 1
             (refine wpOrd_step (zO rfl) ?_)
             (first
                        | (refine wpOrd_skip (by rfl) ?_)
                        | (refine wpOrd_take (v := ?_) (by rfl) ?_ ?_; rotate_left 1; (intro wx hSx; go_simp; try with_reducible rfl)))
             (try simp only [Act.put, zA4, zA5, zA6])
            refine wpOrd_done ?_
            have hS4 := HS.out
            rw [hSe] at hS4
            have HW4 := zh hS4.1
            have HB4 := zh (HB.out.trans (HW4.out.mono HB.out.size))
            clear hS4
            cases q
            ·have HT := zh (HNO.out rfl)
             clear HNO HIN
             go_wp2_with fail
             go_ret
             exact ⟨ret_eq (bool_eq (by rw [HT.out]; simp)), HB4.out⟩
            ·have HT := zh (HIN.out rfl)
             clear HNO HIN
             go_wp2_with fail
             go_roundw
             case rel => exact ⟨i + 1, by omega, by go_num, HT, HW4⟩
             case measure => simp [intOf]; omega
           ·obtain rfl : i = nx := by omega
            have HR2 : Hid (r2 = true) := H2A.out (by first | rfl | trivial) HF.out
            go_wp2_with fail
            go_ret
            exact ⟨ret_eq (bool_eq (by rw [HR1.out, HR2.out]; simp)), HBW.out⟩
    ·have q4 : ((nx : Int) != (my : Int)) = true := by simp; omega
     have HR2 := zh (H2L.out hkk)
     go_enter Tryz.func35, Tryz.ntmps35
     go_wp2_with fail
     go_ret
     exact ⟨ret_eq (bool_eq (by rw [HR2.out]; simp)), HB.out⟩
   ·have q3 : ((nw : Int) != (mw : Int)) = true := by simp; omega
    have HR1 := zh (H1L.out hw)
    go_enter Tryz.func35, Tryz.ntmps35
    go_wp2_with fail
    go_ret
    exact ⟨ret_eq (bool_eq (by rw [HR1.out]; simp)), HB.out⟩
  ·have q1 : (xs.toList == ys.toList) = false := (NM.str_eq xs ys).trans (zF hs)
   have q2 : (xs.toList != ys.toList) = true := by rw [bne, q1]; rfl
   go_enter Tryz.func35, Tryz.ntmps35
   go_wp2_with fail
   go_ret
   exact ⟨ret_eq (bool_eq (by simp [hs])), HB.out⟩
 ·have q2 : (xk != yk) = true := by rw [bne_iff_ne]; exact hk
  go_enter Tryz.func35, Tryz.ntmps35
  go_wp2_with fail
  go_ret
  exact ⟨ret_eq (bool_eq (by simp [hk])), HB.out⟩
theorem refSame10_any : ∀ N, N ≤ 4294967296 → ∀ x y, cnt [x] ≤ N → ∀ w, Nods w w.heap.size [x] → Nods w w.heap.size [y] → Calls Tryz.prog 35 #[.agg (nv x), .agg (nv y)] w fun e w' => e = .returned (.bool (sm x y)) ∧ Below w.heap.size w w' := by
 intro N
 induction N with
 | zero => intro _ x y hz; rw [cnt_cons] at hz; omega
 | succ N ih => intro h x y hz; exact refSame10_step N (by omega) (ih (by omega)) x y hz
end
section
namespace TM
open LX TR
inductive W : Nat → Nd → Prop
 | point {p : Int} {s : ByteArray} {A : Option Addr} {c : Nat} {B : Option Addr} {d : Nat} (hs : NM.right s = true) : W 1 (.mk 2 p s A c [] B d [])
 | set {p : Int} {A : Option Addr} {c : Nat} {ws : List Wd} {B : Option Addr} {d : Nat} (hw : ∀ w ∈ ws, NM.right w.s = true) : W 1 (.mk 3 p e0 A c ws B d [])
 | tuple {p : Int} {A : Option Addr} {c : Nat} {B : Option Addr} {d : Nat} {ks : List Nd} (hne : ks ≠ []) (h : ∀ y ∈ ks, W 1 y) : W 1 (.mk 4 p e0 A c [] B d ks)
 | grid {p : Int} {A : Option Addr} {c : Nat} {B : Option Addr} {d : Nat} {ks : List Nd} (h : ∀ y ∈ ks, W 2 y) : W 1 (.mk 5 p e0 A c [] B d ks)
 | rule {p : Int} {s : ByteArray} {A : Option Addr} {c : Nat} {ws : List Wd} {B : Option Addr} {d : Nat} (hs : NM.right s = true) (hw : ∀ w ∈ ws, NM.right w.s = true) : W 2 (.mk 6 p s A c ws B d [])
 | var {p : Int} {s : ByteArray} {A : Option Addr} {c : Nat} {B : Option Addr} {d : Nat} (hs : NM.right s = true) : W 5 (.mk 1 p s A c [] B d [])
 | const {p : Int} {A : Option Addr} {c : Nat} {B : Option Addr} {d : Nat} {y : Nd} (h : W 1 y) : W 5 (.mk 7 p e0 A c [] B d [y])
 | atom {x : Nd} (h : W 5 x) : W 3 x
 | join {p : Int} {A : Option Addr} {c : Nat} {B : Option Addr} {d : Nat} {ks : List Nd} (hne : ks ≠ []) (h : ∀ y ∈ ks, W 3 y) : W 3 (.mk 8 p e0 A c [] B d ks)
 | meet {p : Int} {A : Option Addr} {c : Nat} {B : Option Addr} {d : Nat} {ks : List Nd} (hne : ks ≠ []) (h : ∀ y ∈ ks, W 3 y) : W 3 (.mk 9 p e0 A c [] B d ks)
 | field {p : Int} {s : ByteArray} {A : Option Addr} {c : Nat} {B : Option Addr} {d : Nat} {y : Nd} (hs : NM.right s = true) (h : W 5 y) : W 4 (.mk 11 p s A c [] B d [y])
 | rvar {p : Int} {s : ByteArray} {A : Option Addr} {c : Nat} {B : Option Addr} {d : Nat} (hs : NM.right s = true) : W 6 (.mk 1 p s A c [] B d [])
 | row {p : Int} {A : Option Addr} {c : Nat} {ws : List Wd} {B : Option Addr} {d : Nat} {ks : List Nd} (h1 : ws.length ≤ 1) (hw : ∀ w ∈ ws, NM.right w.s = true) (h : ∀ y ∈ ks, W 4 y) : W 6 (.mk 10 p e0 A c ws B d ks)
theorem of_wrB {ws : List Wd} (h : wrB ws = true) : ∀ w ∈ ws, NM.right w.s = true := by
 unfold wrB at h; rw [List.all_eq_true] at h; exact h
abbrev Ky := Nat × ByteArray
def txk : Bool → List Ky → List UInt8
 | _, [] => []
 | b, t :: l => (if b && decide (t.1 = 97) then [32] else []) ++ (lst t.2 ++ txk (decide (t.1 = 97)) l)
def nn : List Ky → Prop
 | [] => True
 | u :: _ => u.1 ≠ 97
def Ts (a : List Ky) (s : List UInt8) : Prop := ∀ l, txk false (a ++ l) = s ++ txk false l
def Tx (a : List Ky) (s : List UInt8) : Prop := ∀ l, nn l → txk false (a ++ l) = s ++ txk false l
theorem Ts.tx {a s} (h : Ts a s) : Tx a s := fun l _ => h l
end TM
end
section
namespace TM
open LX TR
def Good (ts : List Tr) : Prop := ∀ y ∈ nodes ts, rightT y.t = true
theorem nodes_cons (x : Tr) (r : List Tr) : nodes (x :: r) = x :: (nodes x.ks ++ nodes r) := by cases x; rw [nodes]; rfl
theorem Good.cons {x : Tr} {r : List Tr} (h : Good (x :: r)) : rightT x.t = true ∧ Good x.ks ∧ Good r := by
 unfold Good at h
 rw [nodes_cons] at h
 exact ⟨h x (by simp), fun y hy => h y (by simp [hy]), fun y hy => h y (by simp [hy])⟩
theorem Good.right {a b : List Tr} (h : Good (a ++ b)) : Good b := fun y hy => h y (by rw [nodes_append]; exact List.mem_append_right _ hy)
theorem take_inv {k : Nat} {ts : List Tr} {e : Int} {t : Tk} {r : List Tr} (h : takeR k ts e = .ok (t, r)) : ∃ x, ts = x :: r ∧ x.t = t ∧ x.t.k = k := by
 cases ts with
 | nil => cases h
 | cons x q =>
   simp only [takeR] at h
   split at h
   ·rename_i hk
    injection h with h
    injection h with h1 h2
    subst h2
    exact ⟨x, rfl, h1, hk⟩
   ·cases h
theorem bnd_ok {α β : Type} {x : Res α} {f : α → List Tr → Res β} {b : β × List Tr} (h : bnd x f = .ok b) : ∃ a r, x = .ok (a, r) ∧ f a r = .ok b := by
 unfold bnd at h
 split at h
 ·cases h
 ·exact ⟨_, _, rfl, h⟩
theorem ok_inj {α : Type} {a b : α} {r s : List Tr} (h : (Except.ok (a, r) : Res α) = .ok (b, s)) : a = b ∧ r = s := by
 injection h with h
 injection h with h1 h2
 exact ⟨h1, h2⟩
section
variable {α : Type} {el : Rdr α} {ok : α → Prop} {g : α → List Ky}
end
end TM
end
section
namespace CM
open LX TR TM
theorem ei_pair : EI pairR := by
 have h1 : ∀ a : Wd, EI (fun ts e => bnd (takeR 60 ts e) fun _ r2 => bnd (nameR r2 e) fun b r3 => .ok ((⟨a, b⟩ : Pw), r3)) := fun a =>
  EI.bind (rd2 := fun _ ts e => bnd (nameR ts e) fun b r3 => .ok ((⟨a, b⟩ : Pw), r3)) (TM.ei_take 60) fun _ => EI.map (fun b => (⟨a, b⟩ : Pw)) ei_name
 exact EI.bind (rd2 := fun a ts e => bnd (takeR 60 ts e) fun _ r2 => bnd (nameR r2 e) fun b r3 => .ok ((⟨a, b⟩ : Pw), r3)) ei_name h1
theorem ei_prs : EI prsR := ei_within 123 (ei_opt ei_pair)
theorem off_er (ts : List Tr) (e : Int) : offOf (TR.er ts) e = offOf ts e := by
 cases ts with
 | nil => rw [ter_nil]
 | cons x r => rw [ter_cons]; rfl
theorem ei_part (D k : Nat) (s : Cs) : EI (partR D k s) := fun ts e => by
 unfold partR
 split
 ·exact (EI.map (fun w => (⟨w, s.ws, s.ps, s.pp, s.ts⟩ : Cs)) ei_name) ts e
 ·split
  ·exact (EI.map (fun w => (⟨s.n, [w], s.ps, s.pp, s.ts⟩ : Cs)) ei_name) ts e
  ·split
   ·exact (EI.map (fun l => (⟨s.n, l, s.ps, s.pp, s.ts⟩ : Cs)) ei_names) ts e
   ·split
    ·rw [off_er]
     exact (EI.map (fun l => (⟨s.n, s.ws, l, offOf ts e, s.ts⟩ : Cs)) ei_prs) ts e
    ·split
     ·exact (EI.map (fun z => (⟨s.n, s.ws, s.ps, s.pp, s.ts ++ [z]⟩ : Cs)) (ei_row D)) ts e
     ·exact (EI.map (fun z => (⟨s.n, s.ws, s.ps, s.pp, s.ts ++ [z]⟩ : Cs)) (ei_label D)) ts e
theorem ei_parts (D : Nat) : ∀ ks s, EI (partsR D ks s)
 | [], s => EI.pure s
 | k :: ks, s => EI.bind (rd2 := fun s2 ts e => partsR D ks s2 ts e) (ei_part D k s) fun s2 => ei_parts D ks s2
theorem cmd_er (D : Nat) (ts : List Tr) (e : Int) : cmdR D (TR.er ts) e = cmdR D ts e := by
 cases ts with
 | nil => rw [ter_nil]
 | cons x r =>
   rw [ter_cons]
   have hp := ei_parts D (ltl (numOf x.t.s)) s0 r e
   unfold cmdR
   simp only [show (Tr.mk x.t none 0 (TR.er x.ks) x.e).t = x.t from rfl]
   rw [hp]
   split
   ·cases partsR D (ltl (numOf x.t.s)) s0 r e with
    | error p => rfl
    | ok sr =>
      obtain ⟨s, r2⟩ := sr
      cases r2 with
      | nil => simp only [mapR, ter_nil]
      | cons y r3 => simp only [mapR, ter_cons]; rfl
   ·rfl
theorem ltl_forms (k : Nat) (h : k < 16) : ltl k = [] ∨ ltl k = [110] ∨ ltl k = [110, 119] ∨ ltl k = [110, 119, 112] ∨ ltl k = [110, 116, 116] ∨ ltl k = [110, 114, 114] ∨ ltl k = [110, 102] := by
 have : ∀ k : Fin 16, ltl (k.val : Int) = [] ∨ ltl (k.val : Int) = [110] ∨ ltl (k.val : Int) = [110, 119] ∨ ltl (k.val : Int) = [110, 119, 112] ∨ ltl (k.val : Int) = [110, 116, 116] ∨ ltl (k.val : Int) = [110, 114, 114] ∨ ltl (k.val : Int) = [110, 102] := by decide
 exact this ⟨k, h⟩
def prB (ps : List Pw) : Bool := ps.all fun p => NM.right p.a.s && NM.right p.b.s
def riL (L : List Nat) (x : Cm) : Bool :=
 (if L.contains 110 then NM.right x.n.s else decide (x.n.s = ⟨#[]⟩)) &&
 ((if L.contains 102 then decide (x.ws.length = 1) else if L.contains 119 then decide (0 < x.ws.length) else decide (x.ws.length = 0)) &&
 ((if L.contains 112 then true else decide (x.ps.length = 0)) &&
 (if L.contains 116 then (fl x.l).l && (fl x.r).l else if L.contains 114 then (fl x.l).r && (fl x.r).r else sm x.l n0 && sm x.r n0)))
def riC (x : Cm) : Bool := decide (0 ≤ x.op ∧ x.op < 16) && (wrB x.ws && (prB x.ps && riL (ltl x.op) x))
section
variable {D : Nat} {s s2 : Cs} {ts r : List Tr} {e : Int}
end
theorem parts_cons {D k : Nat} {ks : List Nat} {s s2 : Cs} {ts r : List Tr} {e : Int} (h : partsR D (k :: ks) s ts e = .ok (s2, r)) : ∃ s1 r1, partR D k s ts e = .ok (s1, r1) ∧ partsR D ks s1 r1 e = .ok (s2, r) := by
 unfold partsR at h
 obtain ⟨s1, r1, h1, h2⟩ := bnd_ok h
 exact ⟨s1, r1, h1, h2⟩
theorem parts_nil {D : Nat} {s s2 : Cs} {ts r : List Tr} {e : Int} (h : partsR D [] s ts e = .ok (s2, r)) : s = s2 ∧ ts = r := by
 unfold partsR at h
 exact ok_inj h
end CM
end
end Go.Proofs.YtmffnkfohmbbeaaGreatDoor
