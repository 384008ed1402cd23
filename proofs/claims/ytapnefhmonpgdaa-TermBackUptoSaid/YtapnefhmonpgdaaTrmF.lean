/-
  The document's test of words. Conditions: at most 2^40 words.
-/
import Derived.Test.YtapnefhmonpgdaaTrmE
set_option linter.unusedSimpArgs false
set_option linter.unusedVariables false
namespace Go.Proofs.Ytapnefhmonpgdaa
open Go.RowKit LX TR TM
set_option maxRecDepth 100000 in
set_option maxHeartbeats 800000 in
theorem right10_any (A : Option Addr) (c : Nat) (ws : List Wd) (hn : ws.length ≤ 1099511627776) (w : World) (hA : Sl w w.heap.size A (wcs ws)) :
    Calls Try.prog 50 #[.slice A ws.length c] w fun e w' => e = .returned (.bool (wrB ws)) ∧ Dr w w' := by
  have HA := Lib.hid hA; clear hA
  have HHIT : Hid (∀ i, i < ws.length → NM.right (ws.getD i w0).s = false → wrB ws = false) := fun i hi h => by
    unfold wrB
    rw [List.all_eq_false]
    refine ⟨_, ?_, by rw [h]; simp⟩
    rw [List.getD_eq_getElem?_getD, List.getElem?_eq_getElem hi]
    exact List.getElem_mem hi
  have HMISS : Hid ((∀ j, j < ws.length → NM.right (ws.getD j w0).s = true) → wrB ws = true) := fun h => by
    unfold wrB
    rw [List.all_eq_true]
    intro x hx
    obtain ⟨j, hj, rfl⟩ := List.mem_iff_getElem.1 hx
    have := h j hj
    rw [List.getD_eq_getElem?_getD, List.getElem?_eq_getElem hj, Option.getD_some] at this
    exact this
  generalize wrB ws = R at *
  generalize hm : ws.length = n at *
  have HN := Lib.hid hm; clear hm
  go_enter Try.func50, Try.ntmps50
  go_wp2_with fail
  go_loopw [3] (fun iv wr => ∃ i : Nat, i ≤ n ∧ iv = .int .i64 i ∧ Hid (∀ j, j < i → NM.right (ws.getD j w0).s = true) ∧ Hid (Dr w wr)) (fun iv _ => n - (intOf iv).toNat)
  case atStart => exact ⟨0, by omega, rfl, fun j hj => by omega, Dr.refl _⟩
  case round =>
    obtain ⟨i, hi, rfl, HB, HW⟩ := hrel
    by_cases hlt : i < n
    · obtain ⟨b1, o1, rfl, _, hc1⟩ := sl_at (z := w0) wcells_length (HA.out.below HW.out.below) (k := i) (by rw [HN.out]; exact hlt) (by omega)
      have p0 := hc1 i 0 _ (by rw [HN.out]; exact hlt) (by omega) rfl
      rw [Nat.add_zero] at p0
      have hin : (i : Int) < (n : Int) := by omega
      have HIN : Hid (NM.right (ws.getD i w0).s = true → ∀ j, j < i + 1 → NM.right (ws.getD j w0).s = true) := fun h j hj => by
        by_cases e : j = i
        · rw [e]; exact h
        · exact HB.out j (by omega)
      have HYS := Lib.hid (HHIT.out i hlt)
      clear hc1 HB
      have HC := Lib.hid (refRight_any (ws.getD i w0).s wr)
      generalize (NM.right (ws.getD i w0).s) = q at *
      generalize (ws.getD i w0) = x at *
      obtain ⟨s, p⟩ := x
      simp only at p0 HC
      cases q
      · have HYS2 := Lib.hid (HYS.out rfl)
        clear HIN HYS
        go_wp2_with fail
        refine HC.out.mono ?_
        rintro e' w4 ⟨rfl, hb⟩
        have HW4 := Lib.hid (HW.out.trans hb)
        clear hb
        go_wp2_with fail
        go_ret
        exact ⟨ret_eq (bool_eq HYS2.out.symm), HW4.out⟩
      · have HIN2 := Lib.hid (HIN.out rfl)
        clear HIN HYS
        go_wp2_with fail
        refine HC.out.mono ?_
        rintro e' w4 ⟨rfl, hb⟩
        have HW4 := Lib.hid (HW.out.trans hb)
        clear hb
        go_wp2_with fail
        go_roundw
        case rel => exact ⟨i + 1, by omega, by go_num, HIN2, HW4⟩
        case measure => simp [intOf]; omega
    · obtain rfl : i = n := by omega
      have HNO := Lib.hid (HMISS.out HB.out)
      go_wp2_with fail
      go_ret
      exact ⟨ret_eq (bool_eq HNO.out.symm), HW.out⟩
end Go.Proofs.Ytapnefhmonpgdaa

/-
  The document's test of lists of nodes. Conditions: at most 2^40 nodes.
-/
namespace Go.Proofs.Ytapnefhmonpgdaa
open Go.RowKit LX TR TM

set_option maxRecDepth 100000 in
set_option maxHeartbeats 3200000 in
theorem all10_1 (A : Option Addr) (c : Nat) (zs : List Nd) (hn : zs.length ≤ 1099511627776) (w : World) (hnd : Nods w w.heap.size zs) (hA : Sl w w.heap.size A (ncs zs))
    (hF : ∀ z ∈ zs, ∀ W, Below w.heap.size w W → Calls Try.prog 18 #[.agg (nv z)] W fun e w' => e = .returned (.bool (fl z).c) ∧ Below W.heap.size W w') :
    Calls Try.prog 51 #[.int .i64 1, .slice A zs.length c] w fun e w' => e = .returned (.bool (zs.all fun y => (fl y).c)) ∧ Below w.heap.size w w' := by
  have HA := Lib.hid hA; clear hA
  have HND := Lib.hid hnd; clear hnd
  have HFF : Hid (∀ i, i < zs.length → zs.getD i n0 ∈ zs) := fun i hi => by
    rw [List.getD_eq_getElem?_getD, List.getElem?_eq_getElem hi]
    exact List.getElem_mem hi
  have HF := Lib.hid hF; clear hF
  have HHIT : Hid (∀ i, i < zs.length → (fl (zs.getD i n0)).c = false → (zs.all fun y => (fl y).c) = false) := fun i hi h => by
    rw [List.all_eq_false]
    exact ⟨_, HFF.out i hi, by rw [h]; simp⟩
  have HMISS : Hid ((∀ j, j < zs.length → (fl (zs.getD j n0)).c = true) → (zs.all fun y => (fl y).c) = true) := fun h => by
    rw [List.all_eq_true]
    intro x hx
    obtain ⟨j, hj, rfl⟩ := List.mem_iff_getElem.1 hx
    have := h j hj
    rw [List.getD_eq_getElem?_getD, List.getElem?_eq_getElem hj, Option.getD_some] at this
    exact this
  generalize (zs.all fun y => (fl y).c) = R at *
  generalize hm : zs.length = n at *
  have HN := Lib.hid hm; clear hm
  go_enter Try.func51, Try.ntmps51
  go_wp2_with fail
  go_loopw [5, 6, 7] (fun iv _ _ wr => ∃ i : Nat, i ≤ n ∧ iv = .int .i64 i ∧ Hid (∀ j, j < i → (fl (zs.getD j n0)).c = true) ∧ Hid (Below w.heap.size w wr)) (fun iv _ _ _ => n - (intOf iv).toNat)
  case atStart => exact ⟨0, by omega, rfl, fun j hj => by omega, Below.refl _ _⟩
  case round =>
    obtain ⟨i, hi, rfl, HB, HW⟩ := hrel
    by_cases hlt : i < n
    · obtain ⟨bb, o, rfl, hbb, hc⟩ := sl_at (z := n0) ncells_length (HA.out.below HW.out) (k := i) (by rw [HN.out]; exact hlt) (by omega)
      have q0 := hc i 0 _ (by rw [HN.out]; exact hlt) (by omega) rfl
      have q1 := hc i 1 _ (by rw [HN.out]; exact hlt) (by omega) rfl
      have q2 := hc i 2 _ (by rw [HN.out]; exact hlt) (by omega) rfl
      have q3 := hc i 3 _ (by rw [HN.out]; exact hlt) (by omega) rfl
      have q4 := hc i 4 _ (by rw [HN.out]; exact hlt) (by omega) rfl
      rw [Nat.add_zero] at q0
      rw [← Nat.add_assoc] at q1 q2 q3 q4
      have HIN : Hid ((fl (zs.getD i n0)).c = true → ∀ j, j < i + 1 → (fl (zs.getD j n0)).c = true) := fun h j hj => by
        by_cases e : j = i
        · rw [e]; exact h
        · exact HB.out j (by omega)
      have HYS := Lib.hid (HHIT.out i hlt)
      have hin : (i : Int) < (n : Int) := by omega
      have HMM := Lib.hid (HFF.out i hlt)
      clear hc HB
      have HC := Lib.hid (fun W (h : Below w.heap.size w W) => HF.out _ HMM.out W h)
      generalize zs.getD i n0 = z at *
      obtain ⟨zk, zp, zs9, zA, zc, zw, zB, zd, zz⟩ := z
      unfold nv at HC
      simp only [Nd.k, Nd.p, Nd.s, Nd.A, Nd.c, Nd.ws, Nd.B, Nd.d, Nd.ks] at q0 q1 q2 q3 q4 HC
      have hn := RowAt.new wr 32 #[.int .i64 zk, .int .i64 zp, .string zs9, .slice zA zw.length zc, .slice zB zz.length zd]
      have HB1 : Hid (Below w.heap.size w (wr.alloc (.cells #[.int .i64 zk, .int .i64 zp, .string zs9, .slice zA zw.length zc, .slice zB zz.length zd] 32))) := HW.out.alloc HW.out.size _
      obtain ⟨m0, m1, m2, m3, m4, _, _, _, _, _⟩ := row5 hn
      clear hn
      generalize (fl (.mk zk zp zs9 zA zc zw zB zd zz)).c = q at *
      cases q
      · have HYS2 := Lib.hid (HYS.out rfl)
        clear HIN HYS
        go_wp2_with fail
        refine (HC.out _ HB1.out).mono ?_
        rintro e w4 ⟨rfl, hb⟩
        have HW4 := Lib.hid (HB1.out.trans (hb.mono HB1.out.size))
        clear hb
        go_wp2_with fail
        go_ret
        exact ⟨ret_eq (bool_eq HYS2.out.symm), HW4.out⟩
      · have HIN2 := Lib.hid (HIN.out rfl)
        clear HIN HYS
        go_wp2_with fail
        refine (HC.out _ HB1.out).mono ?_
        rintro e w4 ⟨rfl, hb⟩
        have HW4 := Lib.hid (HB1.out.trans (hb.mono HB1.out.size))
        clear hb
        go_wp2_with fail
        go_roundw
        case rel => exact ⟨i + 1, by omega, by go_num, HIN2, HW4⟩
        case measure => simp [intOf]; omega
    · obtain rfl : i = n := by omega
      have HNO := Lib.hid (HMISS.out HB.out)
      go_wp2_with fail
      go_ret
      exact ⟨ret_eq (bool_eq HNO.out.symm), HW.out⟩

set_option maxRecDepth 100000 in
set_option maxHeartbeats 3200000 in
theorem all10_3 (A : Option Addr) (c : Nat) (zs : List Nd) (hn : zs.length ≤ 1099511627776) (w : World) (hnd : Nods w w.heap.size zs) (hA : Sl w w.heap.size A (ncs zs))
    (hF : ∀ z ∈ zs, ∀ W, Below w.heap.size w W → Calls Try.prog 20 #[.agg (nv z)] W fun e w' => e = .returned (.bool (fl z).l) ∧ Below W.heap.size W w') :
    Calls Try.prog 51 #[.int .i64 3, .slice A zs.length c] w fun e w' => e = .returned (.bool (zs.all fun y => (fl y).l)) ∧ Below w.heap.size w w' := by
  have HA := Lib.hid hA; clear hA
  have HND := Lib.hid hnd; clear hnd
  have HFF : Hid (∀ i, i < zs.length → zs.getD i n0 ∈ zs) := fun i hi => by
    rw [List.getD_eq_getElem?_getD, List.getElem?_eq_getElem hi]
    exact List.getElem_mem hi
  have HF := Lib.hid hF; clear hF
  have HHIT : Hid (∀ i, i < zs.length → (fl (zs.getD i n0)).l = false → (zs.all fun y => (fl y).l) = false) := fun i hi h => by
    rw [List.all_eq_false]
    exact ⟨_, HFF.out i hi, by rw [h]; simp⟩
  have HMISS : Hid ((∀ j, j < zs.length → (fl (zs.getD j n0)).l = true) → (zs.all fun y => (fl y).l) = true) := fun h => by
    rw [List.all_eq_true]
    intro x hx
    obtain ⟨j, hj, rfl⟩ := List.mem_iff_getElem.1 hx
    have := h j hj
    rw [List.getD_eq_getElem?_getD, List.getElem?_eq_getElem hj, Option.getD_some] at this
    exact this
  generalize (zs.all fun y => (fl y).l) = R at *
  generalize hm : zs.length = n at *
  have HN := Lib.hid hm; clear hm
  go_enter Try.func51, Try.ntmps51
  go_wp2_with fail
  go_loopw [5, 6, 7] (fun iv _ _ wr => ∃ i : Nat, i ≤ n ∧ iv = .int .i64 i ∧ Hid (∀ j, j < i → (fl (zs.getD j n0)).l = true) ∧ Hid (Below w.heap.size w wr)) (fun iv _ _ _ => n - (intOf iv).toNat)
  case atStart => exact ⟨0, by omega, rfl, fun j hj => by omega, Below.refl _ _⟩
  case round =>
    obtain ⟨i, hi, rfl, HB, HW⟩ := hrel
    by_cases hlt : i < n
    · obtain ⟨bb, o, rfl, hbb, hc⟩ := sl_at (z := n0) ncells_length (HA.out.below HW.out) (k := i) (by rw [HN.out]; exact hlt) (by omega)
      have q0 := hc i 0 _ (by rw [HN.out]; exact hlt) (by omega) rfl
      have q1 := hc i 1 _ (by rw [HN.out]; exact hlt) (by omega) rfl
      have q2 := hc i 2 _ (by rw [HN.out]; exact hlt) (by omega) rfl
      have q3 := hc i 3 _ (by rw [HN.out]; exact hlt) (by omega) rfl
      have q4 := hc i 4 _ (by rw [HN.out]; exact hlt) (by omega) rfl
      rw [Nat.add_zero] at q0
      rw [← Nat.add_assoc] at q1 q2 q3 q4
      have HIN : Hid ((fl (zs.getD i n0)).l = true → ∀ j, j < i + 1 → (fl (zs.getD j n0)).l = true) := fun h j hj => by
        by_cases e : j = i
        · rw [e]; exact h
        · exact HB.out j (by omega)
      have HYS := Lib.hid (HHIT.out i hlt)
      have hin : (i : Int) < (n : Int) := by omega
      have HMM := Lib.hid (HFF.out i hlt)
      clear hc HB
      have HC := Lib.hid (fun W (h : Below w.heap.size w W) => HF.out _ HMM.out W h)
      generalize zs.getD i n0 = z at *
      obtain ⟨zk, zp, zs9, zA, zc, zw, zB, zd, zz⟩ := z
      unfold nv at HC
      simp only [Nd.k, Nd.p, Nd.s, Nd.A, Nd.c, Nd.ws, Nd.B, Nd.d, Nd.ks] at q0 q1 q2 q3 q4 HC
      have hn := RowAt.new wr 32 #[.int .i64 zk, .int .i64 zp, .string zs9, .slice zA zw.length zc, .slice zB zz.length zd]
      have HB1 : Hid (Below w.heap.size w (wr.alloc (.cells #[.int .i64 zk, .int .i64 zp, .string zs9, .slice zA zw.length zc, .slice zB zz.length zd] 32))) := HW.out.alloc HW.out.size _
      obtain ⟨m0, m1, m2, m3, m4, _, _, _, _, _⟩ := row5 hn
      clear hn
      generalize (fl (.mk zk zp zs9 zA zc zw zB zd zz)).l = q at *
      cases q
      · have HYS2 := Lib.hid (HYS.out rfl)
        clear HIN HYS
        go_wp2_with fail
        refine (HC.out _ HB1.out).mono ?_
        rintro e w4 ⟨rfl, hb⟩
        have HW4 := Lib.hid (HB1.out.trans (hb.mono HB1.out.size))
        clear hb
        go_wp2_with fail
        go_ret
        exact ⟨ret_eq (bool_eq HYS2.out.symm), HW4.out⟩
      · have HIN2 := Lib.hid (HIN.out rfl)
        clear HIN HYS
        go_wp2_with fail
        refine (HC.out _ HB1.out).mono ?_
        rintro e w4 ⟨rfl, hb⟩
        have HW4 := Lib.hid (HB1.out.trans (hb.mono HB1.out.size))
        clear hb
        go_wp2_with fail
        go_roundw
        case rel => exact ⟨i + 1, by omega, by go_num, HIN2, HW4⟩
        case measure => simp [intOf]; omega
    · obtain rfl : i = n := by omega
      have HNO := Lib.hid (HMISS.out HB.out)
      go_wp2_with fail
      go_ret
      exact ⟨ret_eq (bool_eq HNO.out.symm), HW.out⟩
end Go.Proofs.Ytapnefhmonpgdaa

/-
  The document's test of lists of rules and of fields. Conditions: at most 2^40 nodes and words.
-/
namespace Go.Proofs.Ytapnefhmonpgdaa
open Go.RowKit LX TR TM
set_option maxRecDepth 8000 in
theorem fl_at (x : Nd) : (fl x).at' = ((fl x).l && (decide (x.k ≠ 8) && decide (x.k ≠ 9))) := by
  obtain ⟨k, p, s, A, c, ws, B, d, ks⟩ := x
  show atB k s ws (fls ks) = (lB k s ws (fls ks) && (decide (k ≠ 8) && decide (k ≠ 9)))
  by_cases h8 : k = 8
  · subst h8; simp [atB]
  · by_cases h9 : k = 9
    · subst h9; simp [atB]
    · simp [lB, h8, h9]

set_option maxRecDepth 100000 in
set_option maxHeartbeats 3200000 in
theorem all10_2 (A : Option Addr) (c : Nat) (zs : List Nd) (hn : zs.length ≤ 1099511627776) (w : World) (hnd : Nods w w.heap.size zs) (hA : Sl w w.heap.size A (ncs zs))
    (hF : ∀ z ∈ zs, z.ws.length ≤ 1099511627776) :
    Calls Try.prog 51 #[.int .i64 2, .slice A zs.length c] w fun e w' => e = .returned (.bool (zs.all fun y => (fl y).ru)) ∧ Below w.heap.size w w' := by
  have HA := Lib.hid hA; clear hA
  have HND := Lib.hid hnd; clear hnd
  have HFF : Hid (∀ i, i < zs.length → zs.getD i n0 ∈ zs) := fun i hi => by
    rw [List.getD_eq_getElem?_getD, List.getElem?_eq_getElem hi]
    exact List.getElem_mem hi
  have HF := Lib.hid hF; clear hF
  have HHIT : Hid (∀ i, i < zs.length → (fl (zs.getD i n0)).ru = false → (zs.all fun y => (fl y).ru) = false) := fun i hi h => by
    rw [List.all_eq_false]
    exact ⟨_, HFF.out i hi, by rw [h]; simp⟩
  have HMISS : Hid ((∀ j, j < zs.length → (fl (zs.getD j n0)).ru = true) → (zs.all fun y => (fl y).ru) = true) := fun h => by
    rw [List.all_eq_true]
    intro x hx
    obtain ⟨j, hj, rfl⟩ := List.mem_iff_getElem.1 hx
    have := h j hj
    rw [List.getD_eq_getElem?_getD, List.getElem?_eq_getElem hj, Option.getD_some] at this
    exact this
  generalize (zs.all fun y => (fl y).ru) = R at *
  generalize hm : zs.length = n at *
  have HN := Lib.hid hm; clear hm
  go_enter Try.func51, Try.ntmps51
  go_wp2_with fail
  go_loopw [5, 6, 7] (fun iv _ _ wr => ∃ i : Nat, i ≤ n ∧ iv = .int .i64 i ∧ Hid (∀ j, j < i → (fl (zs.getD j n0)).ru = true) ∧ Hid (Below w.heap.size w wr)) (fun iv _ _ _ => n - (intOf iv).toNat)
  case atStart => exact ⟨0, by omega, rfl, fun j hj => by omega, Below.refl _ _⟩
  case round =>
    obtain ⟨i, hi, rfl, HB, HW⟩ := hrel
    by_cases hlt : i < n
    · obtain ⟨bb, o, rfl, hbb, hc⟩ := sl_at (z := n0) ncells_length (HA.out.below HW.out) (k := i) (by rw [HN.out]; exact hlt) (by omega)
      have q0 := hc i 0 _ (by rw [HN.out]; exact hlt) (by omega) rfl
      have q1 := hc i 1 _ (by rw [HN.out]; exact hlt) (by omega) rfl
      have q2 := hc i 2 _ (by rw [HN.out]; exact hlt) (by omega) rfl
      have q3 := hc i 3 _ (by rw [HN.out]; exact hlt) (by omega) rfl
      have q4 := hc i 4 _ (by rw [HN.out]; exact hlt) (by omega) rfl
      rw [Nat.add_zero] at q0
      rw [← Nat.add_assoc] at q1 q2 q3 q4
      have HIN : Hid ((fl (zs.getD i n0)).ru = true → ∀ j, j < i + 1 → (fl (zs.getD j n0)).ru = true) := fun h j hj => by
        by_cases e : j = i
        · rw [e]; exact h
        · exact HB.out j (by omega)
      have HYS := Lib.hid (HHIT.out i hlt)
      have hin : (i : Int) < (n : Int) := by omega
      have HMM := Lib.hid (HFF.out i hlt)
      clear hc HB
      have HS := Lib.hid (HND.out _ (mem_all HMM.out))
      generalize zs.getD i n0 = z at *
      obtain ⟨zk, zp, zs9, zA, zc, zw, zB, zd, zz⟩ := z
      simp only [Nd.k, Nd.p, Nd.s, Nd.A, Nd.c, Nd.ws, Nd.B, Nd.d, Nd.ks] at q0 q1 q2 q3 q4 HS
      have HSW := Lib.hid (fun W (h : Below w.heap.size w W) => (HS.out.1.1.below h).mono h.size)
      have HSK := Lib.hid (fun W (h : Below w.heap.size w W) => (HS.out.2.1.below h).mono h.size)
      have hn := RowAt.new wr 32 #[.int .i64 zk, .int .i64 zp, .string zs9, .slice zA zw.length zc, .slice zB zz.length zd]
      have HB1 : Hid (Below w.heap.size w (wr.alloc (.cells #[.int .i64 zk, .int .i64 zp, .string zs9, .slice zA zw.length zc, .slice zB zz.length zd] 32))) := HW.out.alloc HW.out.size _
      have HRR := Lib.hid hn
      obtain ⟨m0, m1, m2, m3, m4, _, _, _, _, _⟩ := row5 hn
      clear hn
      have HRG := Lib.hid (refRight_any zs9)
      have hwl : zw.length ≤ 1099511627776 := HF.out _ HMM.out
      have HG := Lib.hid (fun W (h : Below w.heap.size w W) => right10_any zA zc zw hwl W (HSW.out W h))
      have HX : Hid ((fl (.mk zk zp zs9 zA zc zw zB zd zz)).ru = (decide (zk = 6) && (NM.right zs9 && (decide (zz.length = 0) && wrB zw)))) := by
        show ruB zk zs9 zw (fls zz).length = _
        rw [fls_length]; rfl
      rw [HX.out] at HYS HIN
      clear HX hwl
      generalize NM.right zs9 = r at *
      generalize wrB zw = rr at *
      generalize zw.length = nw at *
      generalize zz.length = nz at *
      by_cases hk : zk = 6
      · subst hk
        cases r
        · have HYS2 := Lib.hid (HYS.out (by simp))
          clear HIN HYS
          go_wp2_with fail
          refine (HRG.out _).mono ?_
          rintro e w4 ⟨rfl, hd⟩
          have HB4 := Lib.hid (HB1.out.trans (hd.below.mono HB1.out.size))
          have HRR4 := Lib.hid (HRR.out.below hd.below HRR.out.lt)
          obtain ⟨m0, m1, m2, m3, m4, _, _, _, _, _⟩ := row5 HRR4.out
          clear hd
          go_wp2_with fail
          go_ret
          exact ⟨ret_eq (bool_eq HYS2.out.symm), HB4.out⟩
        · cases rr
          · have HYS2 := Lib.hid (HYS.out (by simp))
            clear HIN HYS
            go_wp2_with fail
            refine (HRG.out _).mono ?_
            rintro e w4 ⟨rfl, hd⟩
            have HB4 := Lib.hid (HB1.out.trans (hd.below.mono HB1.out.size))
            have HRR4 := Lib.hid (HRR.out.below hd.below HRR.out.lt)
            obtain ⟨m0, m1, m2, m3, m4, _, _, _, _, _⟩ := row5 HRR4.out
            clear hd
            go_wp2_with fail
            refine (HG.out _ HB4.out).mono ?_
            rintro e w5 ⟨rfl, hd⟩
            have HB5 := Lib.hid (HB4.out.trans (hd.below.mono HB4.out.size))
            have HRR5 := Lib.hid (HRR4.out.below hd.below HRR4.out.lt)
            obtain ⟨m0, m1, m2, m3, m4, _, _, _, _, _⟩ := row5 HRR5.out
            clear hd
            go_wp2_with fail
            go_ret
            exact ⟨ret_eq (bool_eq HYS2.out.symm), HB5.out⟩
          · by_cases hz : nz ≤ 0
            · have qz : ((nz : Int) == 0) = true := by rw [beq_iff_eq]; omega
              have HIN2 := Lib.hid (HIN.out (by simp; omega))
              clear hz
              clear HIN HYS
              go_wp2_with fail
              refine (HRG.out _).mono ?_
              rintro e w4 ⟨rfl, hd⟩
              have HB4 := Lib.hid (HB1.out.trans (hd.below.mono HB1.out.size))
              have HRR4 := Lib.hid (HRR.out.below hd.below HRR.out.lt)
              obtain ⟨m0, m1, m2, m3, m4, _, _, _, _, _⟩ := row5 HRR4.out
              clear hd
              go_wp2_with fail
              refine (HG.out _ HB4.out).mono ?_
              rintro e w5 ⟨rfl, hd⟩
              have HB5 := Lib.hid (HB4.out.trans (hd.below.mono HB4.out.size))
              have HRR5 := Lib.hid (HRR4.out.below hd.below HRR4.out.lt)
              obtain ⟨m0, m1, m2, m3, m4, _, _, _, _, _⟩ := row5 HRR5.out
              clear hd
              go_wp2_with fail
              go_roundw
              case rel => exact ⟨i + 1, by omega, by go_num, HIN2, HB5⟩
              case measure => simp [intOf]; omega
            · have qz : ((nz : Int) == 0) = false := by rw [beq_eq_false_iff_ne]; omega
              have HYS2 := Lib.hid (HYS.out (by simp; omega))
              clear HIN HYS
              go_wp2_with fail
              refine (HRG.out _).mono ?_
              rintro e w4 ⟨rfl, hd⟩
              have HB4 := Lib.hid (HB1.out.trans (hd.below.mono HB1.out.size))
              have HRR4 := Lib.hid (HRR.out.below hd.below HRR.out.lt)
              obtain ⟨m0, m1, m2, m3, m4, _, _, _, _, _⟩ := row5 HRR4.out
              clear hd
              go_wp2_with fail
              refine (HG.out _ HB4.out).mono ?_
              rintro e w5 ⟨rfl, hd⟩
              have HB5 := Lib.hid (HB4.out.trans (hd.below.mono HB4.out.size))
              have HRR5 := Lib.hid (HRR4.out.below hd.below HRR4.out.lt)
              obtain ⟨m0, m1, m2, m3, m4, _, _, _, _, _⟩ := row5 HRR5.out
              clear hd
              go_wp2_with fail
              go_ret
              exact ⟨ret_eq (bool_eq HYS2.out.symm), HB5.out⟩
      · have q6 : (zk == 6) = false := by rw [beq_eq_false_iff_ne]; exact hk
        have HYS2 := Lib.hid (HYS.out (by simp [hk]))
        clear HIN HYS
        go_wp2_with fail
        go_ret
        exact ⟨ret_eq (bool_eq HYS2.out.symm), HB1.out⟩

    · obtain rfl : i = n := by omega
      have HNO := Lib.hid (HMISS.out HB.out)
      go_wp2_with fail
      go_ret
      exact ⟨ret_eq (bool_eq HNO.out.symm), HW.out⟩

set_option maxRecDepth 100000 in
set_option maxHeartbeats 3200000 in
theorem all10_4 (A : Option Addr) (c : Nat) (zs : List Nd) (hn : zs.length ≤ 1099511627776) (w : World) (hnd : Nods w w.heap.size zs) (hA : Sl w w.heap.size A (ncs zs))
    (hF : ∀ z ∈ zs, ∀ x ∈ z.ks, ∀ W, Below w.heap.size w W → Calls Try.prog 20 #[.agg (nv x)] W fun e w' => e = .returned (.bool (fl x).l) ∧ Below W.heap.size W w') :
    Calls Try.prog 51 #[.int .i64 4, .slice A zs.length c] w fun e w' => e = .returned (.bool (zs.all fun y => (fl y).fi)) ∧ Below w.heap.size w w' := by
  have HA := Lib.hid hA; clear hA
  have HND := Lib.hid hnd; clear hnd
  have HFF : Hid (∀ i, i < zs.length → zs.getD i n0 ∈ zs) := fun i hi => by
    rw [List.getD_eq_getElem?_getD, List.getElem?_eq_getElem hi]
    exact List.getElem_mem hi
  have HF := Lib.hid hF; clear hF
  have HHIT : Hid (∀ i, i < zs.length → (fl (zs.getD i n0)).fi = false → (zs.all fun y => (fl y).fi) = false) := fun i hi h => by
    rw [List.all_eq_false]
    exact ⟨_, HFF.out i hi, by rw [h]; simp⟩
  have HMISS : Hid ((∀ j, j < zs.length → (fl (zs.getD j n0)).fi = true) → (zs.all fun y => (fl y).fi) = true) := fun h => by
    rw [List.all_eq_true]
    intro x hx
    obtain ⟨j, hj, rfl⟩ := List.mem_iff_getElem.1 hx
    have := h j hj
    rw [List.getD_eq_getElem?_getD, List.getElem?_eq_getElem hj, Option.getD_some] at this
    exact this
  generalize (zs.all fun y => (fl y).fi) = R at *
  generalize hm : zs.length = n at *
  have HN := Lib.hid hm; clear hm
  go_enter Try.func51, Try.ntmps51
  go_wp2_with fail
  go_loopw [5, 6, 7] (fun iv _ _ wr => ∃ i : Nat, i ≤ n ∧ iv = .int .i64 i ∧ Hid (∀ j, j < i → (fl (zs.getD j n0)).fi = true) ∧ Hid (Below w.heap.size w wr)) (fun iv _ _ _ => n - (intOf iv).toNat)
  case atStart => exact ⟨0, by omega, rfl, fun j hj => by omega, Below.refl _ _⟩
  case round =>
    obtain ⟨i, hi, rfl, HB, HW⟩ := hrel
    by_cases hlt : i < n
    · obtain ⟨bb, o, rfl, hbb, hc⟩ := sl_at (z := n0) ncells_length (HA.out.below HW.out) (k := i) (by rw [HN.out]; exact hlt) (by omega)
      have q0 := hc i 0 _ (by rw [HN.out]; exact hlt) (by omega) rfl
      have q1 := hc i 1 _ (by rw [HN.out]; exact hlt) (by omega) rfl
      have q2 := hc i 2 _ (by rw [HN.out]; exact hlt) (by omega) rfl
      have q3 := hc i 3 _ (by rw [HN.out]; exact hlt) (by omega) rfl
      have q4 := hc i 4 _ (by rw [HN.out]; exact hlt) (by omega) rfl
      rw [Nat.add_zero] at q0
      rw [← Nat.add_assoc] at q1 q2 q3 q4
      have HIN : Hid ((fl (zs.getD i n0)).fi = true → ∀ j, j < i + 1 → (fl (zs.getD j n0)).fi = true) := fun h j hj => by
        by_cases e : j = i
        · rw [e]; exact h
        · exact HB.out j (by omega)
      have HYS := Lib.hid (HHIT.out i hlt)
      have hin : (i : Int) < (n : Int) := by omega
      have HMM := Lib.hid (HFF.out i hlt)
      clear hc HB
      have HS := Lib.hid (HND.out _ (mem_all HMM.out))
      generalize zs.getD i n0 = z at *
      obtain ⟨zk, zp, zs9, zA, zc, zw, zB, zd, zz⟩ := z
      simp only [Nd.k, Nd.p, Nd.s, Nd.A, Nd.c, Nd.ws, Nd.B, Nd.d, Nd.ks] at q0 q1 q2 q3 q4 HS
      have HSW := Lib.hid (fun W (h : Below w.heap.size w W) => (HS.out.1.1.below h).mono h.size)
      have HSK := Lib.hid (fun W (h : Below w.heap.size w W) => (HS.out.2.1.below h).mono h.size)
      have hn := RowAt.new wr 32 #[.int .i64 zk, .int .i64 zp, .string zs9, .slice zA zw.length zc, .slice zB zz.length zd]
      have HB1 : Hid (Below w.heap.size w (wr.alloc (.cells #[.int .i64 zk, .int .i64 zp, .string zs9, .slice zA zw.length zc, .slice zB zz.length zd] 32))) := HW.out.alloc HW.out.size _
      have HRR := Lib.hid hn
      obtain ⟨m0, m1, m2, m3, m4, _, _, _, _, _⟩ := row5 hn
      clear hn
      have HRG := Lib.hid (refRight_any zs9)
      have HX : Hid ((fl (.mk zk zp zs9 zA zc zw zB zd zz)).fi = (decide (zk = 11) && (NM.right zs9 && (decide (zw.length = 0) && (decide (zz.length = 1) && ((fls zz).headD fl0).at'))))) := by
        show fiB zk zs9 zw (fls zz) = _
        unfold fiB
        rw [fls_length]
      rw [HX.out] at HYS HIN
      clear HX
      have HF2 : Hid (∀ x ∈ zz, ∀ W, Below w.heap.size w W → Calls Try.prog 20 #[.agg (nv x)] W fun e w' => e = .returned (.bool (fl x).l) ∧ Below W.heap.size W w') := fun x hx => HF.out _ HMM.out x hx
      generalize NM.right zs9 = r at *
      by_cases hk : zk = 11
      · subst hk
        cases r
        · generalize zw.length = nw at *
          generalize ((fls zz).headD fl0).at' = q at *
          generalize zz.length = nz at *
          have HYS2 := Lib.hid (HYS.out (by simp))
          clear HIN HYS
          go_wp2_with fail
          refine (HRG.out _).mono ?_
          rintro e w4 ⟨rfl, hd⟩
          have HB4 := Lib.hid (HB1.out.trans (hd.below.mono HB1.out.size))
          have HRR4 := Lib.hid (HRR.out.below hd.below HRR.out.lt)
          obtain ⟨m0, m1, m2, m3, m4, _, _, _, _, _⟩ := row5 HRR4.out
          clear hd
          go_wp2_with fail
          go_ret
          exact ⟨ret_eq (bool_eq HYS2.out.symm), HB4.out⟩
        · by_cases hnw : zw.length ≤ 0
          · by_cases hnz : zz.length = 1
            · obtain ⟨x, rfl⟩ := List.length_eq_one_iff.1 hnz
              have HE : Hid (((fls [x]).headD fl0).at' = ((fl x).l && (decide (x.k ≠ 8) && decide (x.k ≠ 9)))) := by rw [fls_cons]; exact fl_at x
              rw [HE.out] at HYS HIN
              have HC := Lib.hid (HF2.out x (by simp))
              clear HE HF2
              generalize (fl x).l = q at *
              obtain ⟨xk, xp, xs, xA, xc, xw, xB, xd, xx⟩ := x
              unfold nv at HC
              simp only [Nd.k, Nd.p, Nd.s, Nd.A, Nd.c, Nd.ws, Nd.B, Nd.d, Nd.ks] at HC HYS HIN
              simp only [List.length_cons, List.length_nil, Nat.zero_add] at *
              generalize zw.length = nw at *
              cases q
              · have HYS2 := Lib.hid (HYS.out (by simp))
                clear HIN HYS
                go_wp2_with fail
                refine (HRG.out _).mono ?_
                rintro e w4 ⟨rfl, hd⟩
                have HB4 := Lib.hid (HB1.out.trans (hd.below.mono HB1.out.size))
                have HRR4 := Lib.hid (HRR.out.below hd.below HRR.out.lt)
                obtain ⟨m0, m1, m2, m3, m4, _, _, _, _, _⟩ := row5 HRR4.out
                clear hd
                obtain ⟨b3, o3, hzB, _, hc⟩ := sl_at (z := n0) ncells_length (HSK.out w4 HB4.out) (k := 0) (by simp) (by omega)
                subst hzB
                have p0 := hc 0 0 _ (by simp) (by omega) rfl
                have p1 := hc 0 1 _ (by simp) (by omega) rfl
                have p2 := hc 0 2 _ (by simp) (by omega) rfl
                have p3 := hc 0 3 _ (by simp) (by omega) rfl
                have p4 := hc 0 4 _ (by simp) (by omega) rfl
                simp only [Nat.zero_mul, Nat.add_zero, Nat.zero_add, List.getD_cons_zero, Nd.k, Nd.p, Nd.s, Nd.A, Nd.c, Nd.ws, Nd.B, Nd.d, Nd.ks] at p0 p1 p2 p3 p4
                clear hc
                go_wp2_with fail
                refine (HC.out _ HB4.out).mono ?_
                rintro e w5 ⟨rfl, hd⟩
                have HB5 := Lib.hid (HB4.out.trans (hd.mono HB4.out.size))
                have HRR5 := Lib.hid (HRR4.out.below hd HRR4.out.lt)
                obtain ⟨m0, m1, m2, m3, m4, _, _, _, _, _⟩ := row5 HRR5.out
                clear hd
                go_wp2_with fail
                go_ret
                exact ⟨ret_eq (bool_eq HYS2.out.symm), HB5.out⟩
              · by_cases h8 : xk = 8
                · subst h8
                  have HYS2 := Lib.hid (HYS.out (by simp))
                  clear HIN HYS
                  go_wp2_with fail
                  refine (HRG.out _).mono ?_
                  rintro e w4 ⟨rfl, hd⟩
                  have HB4 := Lib.hid (HB1.out.trans (hd.below.mono HB1.out.size))
                  have HRR4 := Lib.hid (HRR.out.below hd.below HRR.out.lt)
                  obtain ⟨m0, m1, m2, m3, m4, _, _, _, _, _⟩ := row5 HRR4.out
                  clear hd
                  obtain ⟨b3, o3, hzB, _, hc⟩ := sl_at (z := n0) ncells_length (HSK.out w4 HB4.out) (k := 0) (by simp) (by omega)
                  subst hzB
                  have p0 := hc 0 0 _ (by simp) (by omega) rfl
                  have p1 := hc 0 1 _ (by simp) (by omega) rfl
                  have p2 := hc 0 2 _ (by simp) (by omega) rfl
                  have p3 := hc 0 3 _ (by simp) (by omega) rfl
                  have p4 := hc 0 4 _ (by simp) (by omega) rfl
                  simp only [Nat.zero_mul, Nat.add_zero, Nat.zero_add, List.getD_cons_zero, Nd.k, Nd.p, Nd.s, Nd.A, Nd.c, Nd.ws, Nd.B, Nd.d, Nd.ks] at p0 p1 p2 p3 p4
                  clear hc
                  go_wp2_with fail
                  refine (HC.out _ HB4.out).mono ?_
                  rintro e w5 ⟨rfl, hd⟩
                  have HB5 := Lib.hid (HB4.out.trans (hd.mono HB4.out.size))
                  have HRR5 := Lib.hid (HRR4.out.below hd HRR4.out.lt)
                  obtain ⟨m0, m1, m2, m3, m4, _, _, _, _, _⟩ := row5 HRR5.out
                  clear hd
                  obtain ⟨b4, o4, hzB, _, hc⟩ := sl_at (z := n0) ncells_length (HSK.out w5 HB5.out) (k := 0) (by simp) (by omega)
                  cases hzB
                  have p0 := hc 0 0 _ (by simp) (by omega) rfl
                  have p1 := hc 0 1 _ (by simp) (by omega) rfl
                  have p2 := hc 0 2 _ (by simp) (by omega) rfl
                  have p3 := hc 0 3 _ (by simp) (by omega) rfl
                  have p4 := hc 0 4 _ (by simp) (by omega) rfl
                  simp only [Nat.zero_mul, Nat.add_zero, Nat.zero_add, List.getD_cons_zero, Nd.k, Nd.p, Nd.s, Nd.A, Nd.c, Nd.ws, Nd.B, Nd.d, Nd.ks] at p0 p1 p2 p3 p4
                  clear hc
                  go_wp2_with fail
                  go_ret
                  exact ⟨ret_eq (bool_eq HYS2.out.symm), HB5.out⟩
                · have q8 : (xk != 8) = true := by rw [bne_iff_ne]; exact h8
                  by_cases h9 : xk = 9
                  · subst h9
                    have HYS2 := Lib.hid (HYS.out (by simp))
                    clear HIN HYS
                    go_wp2_with fail
                    refine (HRG.out _).mono ?_
                    rintro e w4 ⟨rfl, hd⟩
                    have HB4 := Lib.hid (HB1.out.trans (hd.below.mono HB1.out.size))
                    have HRR4 := Lib.hid (HRR.out.below hd.below HRR.out.lt)
                    obtain ⟨m0, m1, m2, m3, m4, _, _, _, _, _⟩ := row5 HRR4.out
                    clear hd
                    obtain ⟨b3, o3, hzB, _, hc⟩ := sl_at (z := n0) ncells_length (HSK.out w4 HB4.out) (k := 0) (by simp) (by omega)
                    subst hzB
                    have p0 := hc 0 0 _ (by simp) (by omega) rfl
                    have p1 := hc 0 1 _ (by simp) (by omega) rfl
                    have p2 := hc 0 2 _ (by simp) (by omega) rfl
                    have p3 := hc 0 3 _ (by simp) (by omega) rfl
                    have p4 := hc 0 4 _ (by simp) (by omega) rfl
                    simp only [Nat.zero_mul, Nat.add_zero, Nat.zero_add, List.getD_cons_zero, Nd.k, Nd.p, Nd.s, Nd.A, Nd.c, Nd.ws, Nd.B, Nd.d, Nd.ks] at p0 p1 p2 p3 p4
                    clear hc
                    go_wp2_with fail
                    refine (HC.out _ HB4.out).mono ?_
                    rintro e w5 ⟨rfl, hd⟩
                    have HB5 := Lib.hid (HB4.out.trans (hd.mono HB4.out.size))
                    have HRR5 := Lib.hid (HRR4.out.below hd HRR4.out.lt)
                    obtain ⟨m0, m1, m2, m3, m4, _, _, _, _, _⟩ := row5 HRR5.out
                    clear hd
                    obtain ⟨b4, o4, hzB, _, hc⟩ := sl_at (z := n0) ncells_length (HSK.out w5 HB5.out) (k := 0) (by simp) (by omega)
                    cases hzB
                    have p0 := hc 0 0 _ (by simp) (by omega) rfl
                    have p1 := hc 0 1 _ (by simp) (by omega) rfl
                    have p2 := hc 0 2 _ (by simp) (by omega) rfl
                    have p3 := hc 0 3 _ (by simp) (by omega) rfl
                    have p4 := hc 0 4 _ (by simp) (by omega) rfl
                    simp only [Nat.zero_mul, Nat.add_zero, Nat.zero_add, List.getD_cons_zero, Nd.k, Nd.p, Nd.s, Nd.A, Nd.c, Nd.ws, Nd.B, Nd.d, Nd.ks] at p0 p1 p2 p3 p4
                    clear hc
                    go_wp2_with fail
                    go_ret
                    exact ⟨ret_eq (bool_eq HYS2.out.symm), HB5.out⟩
                  · have q9 : (xk != 9) = true := by rw [bne_iff_ne]; exact h9
                    have HIN2 := Lib.hid (HIN.out (by simp [h8, h9]; omega))
                    clear HIN HYS
                    go_wp2_with fail
                    refine (HRG.out _).mono ?_
                    rintro e w4 ⟨rfl, hd⟩
                    have HB4 := Lib.hid (HB1.out.trans (hd.below.mono HB1.out.size))
                    have HRR4 := Lib.hid (HRR.out.below hd.below HRR.out.lt)
                    obtain ⟨m0, m1, m2, m3, m4, _, _, _, _, _⟩ := row5 HRR4.out
                    clear hd
                    obtain ⟨b3, o3, hzB, _, hc⟩ := sl_at (z := n0) ncells_length (HSK.out w4 HB4.out) (k := 0) (by simp) (by omega)
                    subst hzB
                    have p0 := hc 0 0 _ (by simp) (by omega) rfl
                    have p1 := hc 0 1 _ (by simp) (by omega) rfl
                    have p2 := hc 0 2 _ (by simp) (by omega) rfl
                    have p3 := hc 0 3 _ (by simp) (by omega) rfl
                    have p4 := hc 0 4 _ (by simp) (by omega) rfl
                    simp only [Nat.zero_mul, Nat.add_zero, Nat.zero_add, List.getD_cons_zero, Nd.k, Nd.p, Nd.s, Nd.A, Nd.c, Nd.ws, Nd.B, Nd.d, Nd.ks] at p0 p1 p2 p3 p4
                    clear hc
                    go_wp2_with fail
                    refine (HC.out _ HB4.out).mono ?_
                    rintro e w5 ⟨rfl, hd⟩
                    have HB5 := Lib.hid (HB4.out.trans (hd.mono HB4.out.size))
                    have HRR5 := Lib.hid (HRR4.out.below hd HRR4.out.lt)
                    obtain ⟨m0, m1, m2, m3, m4, _, _, _, _, _⟩ := row5 HRR5.out
                    clear hd
                    obtain ⟨b4, o4, hzB, _, hc⟩ := sl_at (z := n0) ncells_length (HSK.out w5 HB5.out) (k := 0) (by simp) (by omega)
                    cases hzB
                    have p0 := hc 0 0 _ (by simp) (by omega) rfl
                    have p1 := hc 0 1 _ (by simp) (by omega) rfl
                    have p2 := hc 0 2 _ (by simp) (by omega) rfl
                    have p3 := hc 0 3 _ (by simp) (by omega) rfl
                    have p4 := hc 0 4 _ (by simp) (by omega) rfl
                    simp only [Nat.zero_mul, Nat.add_zero, Nat.zero_add, List.getD_cons_zero, Nd.k, Nd.p, Nd.s, Nd.A, Nd.c, Nd.ws, Nd.B, Nd.d, Nd.ks] at p0 p1 p2 p3 p4
                    clear hc
                    go_wp2_with fail
                    go_roundw
                    case rel => exact ⟨i + 1, by omega, by go_num, HIN2, HB5⟩
                    case measure => simp [intOf]; omega
            · generalize zw.length = nw at *
              generalize ((fls zz).headD fl0).at' = q at *
              generalize zz.length = nz at *
              have HYS2 := Lib.hid (HYS.out (by simp [hnz]))
              clear HIN HYS
              go_wp2_with fail
              refine (HRG.out _).mono ?_
              rintro e w4 ⟨rfl, hd⟩
              have HB4 := Lib.hid (HB1.out.trans (hd.below.mono HB1.out.size))
              have HRR4 := Lib.hid (HRR.out.below hd.below HRR.out.lt)
              obtain ⟨m0, m1, m2, m3, m4, _, _, _, _, _⟩ := row5 HRR4.out
              clear hd
              go_wp2_with fail
              go_ret
              exact ⟨ret_eq (bool_eq HYS2.out.symm), HB4.out⟩
          · generalize zw.length = nw at *
            generalize ((fls zz).headD fl0).at' = q at *
            generalize zz.length = nz at *
            have HYS2 := Lib.hid (HYS.out (by simp; omega))
            clear HIN HYS
            go_wp2_with fail
            refine (HRG.out _).mono ?_
            rintro e w4 ⟨rfl, hd⟩
            have HB4 := Lib.hid (HB1.out.trans (hd.below.mono HB1.out.size))
            have HRR4 := Lib.hid (HRR.out.below hd.below HRR.out.lt)
            obtain ⟨m0, m1, m2, m3, m4, _, _, _, _, _⟩ := row5 HRR4.out
            clear hd
            go_wp2_with fail
            go_ret
            exact ⟨ret_eq (bool_eq HYS2.out.symm), HB4.out⟩
      · have q6 : (zk == 11) = false := by rw [beq_eq_false_iff_ne]; exact hk
        generalize zw.length = nw at *
        generalize ((fls zz).headD fl0).at' = q at *
        generalize zz.length = nz at *
        have HYS2 := Lib.hid (HYS.out (by simp [hk]))
        clear HIN HYS
        go_wp2_with fail
        go_ret
        exact ⟨ret_eq (bool_eq HYS2.out.symm), HB1.out⟩

    · obtain rfl : i = n := by omega
      have HNO := Lib.hid (HMISS.out HB.out)
      go_wp2_with fail
      go_ret
      exact ⟨ret_eq (bool_eq HNO.out.symm), HW.out⟩
end Go.Proofs.Ytapnefhmonpgdaa

/-
  The document's test of constants and labels. Conditions: at most 2^32 nodes and words.
-/
namespace Go.Proofs.Ytapnefhmonpgdaa
open Go.RowKit LX TR TM
set_option maxRecDepth 8000 in
theorem at7 (s : ByteArray) (ws : List Wd) (zz : List Nd) : lB 7 s ws (fls zz) = (decide (s = ⟨#[]⟩) && (decide (ws.length = 0) && (decide (zz.length = 1) && (fls zz).all (fun y => y.c)))) := by
  have h := fls_length zz
  by_cases h1 : zz.length = 1
  · obtain ⟨x, rfl⟩ := List.length_eq_one_iff.1 h1
    rw [fls_cons]
    simp [lB, atB, brB, fls, Bool.and_assoc]
  · simp [lB, atB, h, h1]
set_option maxRecDepth 100000 in
set_option maxHeartbeats 3200000 in
theorem isConst10_step (N : Nat) (hN : N < 4294967296) (ih : ∀ y, cnt [y] ≤ N → ∀ w, Nods w w.heap.size [y] → (Calls Try.prog 18 #[.agg (nv y)] w fun e w' => e = .returned (.bool (fl y).c) ∧ Below w.heap.size w w') ∧ Calls Try.prog 20 #[.agg (nv y)] w fun e w' => e = .returned (.bool (fl y).l) ∧ Below w.heap.size w w') (z : Nd) (hz : cnt [z] ≤ N + 1) (w : World) (hnd : Nods w w.heap.size [z]) :
    Calls Try.prog 18 #[.agg (nv z)] w fun e w' => e = .returned (.bool (fl z).c) ∧ Below w.heap.size w w' := by
  obtain ⟨zk, zp, zs, zA, zc, zw, zB, zd, zz⟩ := z
  have hn := RowAt.new w 32 #[.int .i64 zk, .int .i64 zp, .string zs, .slice zA zw.length zc, .slice zB zz.length zd]
  have hB : Below w.heap.size w (w.alloc (.cells #[.int .i64 zk, .int .i64 zp, .string zs, .slice zA zw.length zc, .slice zB zz.length zd] 32)) := (Below.refl _ _).alloc (Nat.le_refl _) _
  have HB := Lib.hid hB
  have HR := Lib.hid hn
  obtain ⟨m0, m1, m2, m3, m4, _, _, _, _, _⟩ := row5 hn
  have hcz : 1 + zw.length + cnt zz ≤ N + 1 := by rw [cnt_cons] at hz; simp only [cnt, Nat.add_zero] at hz; exact hz
  have hzl := length_cnt zz
  have HSW := Lib.hid (fun W (h : Below w.heap.size w W) => (hnd.at.1.1.below h).mono h.size)
  have HSK := Lib.hid (fun W (h : Below w.heap.size w W) => (hnd.at.2.1.below h).mono h.size)
  have HNK : Hid (∀ W, Below w.heap.size w W → Nods W W.heap.size zz) := fun W h => (hnd.kids.below h).mono h.size
  have HMM : Hid (∀ y ∈ zz, cnt [y] ≤ N) := fun y hy => by
    have h1 := cnt_mem hy
    rw [cnt_cons]
    simp only [cnt, Nat.add_zero]
    omega
  simp only [Nd.A, Nd.ws, Nd.B, Nd.ks] at HSW HSK
  have HRG := Lib.hid (refRight_any zs)
  have HRN := Lib.hid (fun W (h : Below w.heap.size w W) => right10_any zA zc zw (by omega) W (HSW.out W h))
  unfold nv
  simp only [Nd.k, Nd.p, Nd.s, Nd.A, Nd.c, Nd.ws, Nd.B, Nd.d, Nd.ks]
  have hfl := fls_length zz
  clear hn hB
  have HK1 := Lib.hid (fun W (h : Below w.heap.size w W) => all10_1 zB zd zz (by omega) W (HNK.out W h) (HSK.out W h) (fun y hy W' h' => (ih y (HMM.out y hy) W' (((HNK.out W h).mem hy).below h' |>.mono h'.size)).1))
  rw [← fls_all zz (fun y => y.c)] at HK1
  have HK2 := Lib.hid (fun W (h : Below w.heap.size w W) => all10_2 zB zd zz (by omega) W (HNK.out W h) (HSK.out W h) (fun y hy => by have h1 := cnt_mem hy; omega))
  rw [← fls_all zz (fun y => y.ru)] at HK2
  show Calls _ _ _ _ fun e w' => e = .returned (.bool (cB zk zs zw (fls zz))) ∧ _
  clear hnd ih hz
  by_cases h2 : zk = 2
  · subst h2
    rw [show cB 2 zs zw (fls zz) = leafB zs zw zz.length by rw [← hfl]; simp [cB, lB, atB]]
    rw [show leafB zs zw zz.length = (NM.right zs && (decide (zw.length = 0) && decide (zz.length = 0))) from rfl]
    generalize NM.right zs = r at *
    generalize zw.length = nw at *
    generalize zz.length = nz at *
    cases r
    · go_enter Try.func18, Try.ntmps18
      go_wp2_with fail
      refine (HRG.out _).mono ?_
      rintro e' w2 ⟨rfl, hb⟩
      have HB2 := Lib.hid (HB.out.trans (hb.below.mono HB.out.size))
      have HR2 := Lib.hid (HR.out.below hb.below HR.out.lt)
      obtain ⟨m0, m1, m2, m3, m4, _, _, _, _, _⟩ := row5 HR2.out
      clear hb
      go_wp2_with fail
      go_ret
      exact ⟨ret_eq (bool_eq (by rfl)), HB2.out⟩
    · have hsum : IntKind.i64.wrap ((nw : Int) + (nz : Int)) = ((nw + nz : Nat) : Int) := by rw [IntWalk.i64_in _ ⟨by omega, by omega⟩]; omega
      by_cases hs0 : nw + nz ≤ 0
      · have qz : (IntKind.i64.wrap ((nw : Int) + (nz : Int)) == 0) = true := by rw [beq_iff_eq, hsum]; omega
        have H0 := Lib.hid hs0
        clear hs0 hsum
        go_enter Try.func18, Try.ntmps18
        go_wp2_with fail
        refine (HRG.out _).mono ?_
        rintro e' w2 ⟨rfl, hb⟩
        have HB2 := Lib.hid (HB.out.trans (hb.below.mono HB.out.size))
        have HR2 := Lib.hid (HR.out.below hb.below HR.out.lt)
        obtain ⟨m0, m1, m2, m3, m4, _, _, _, _, _⟩ := row5 HR2.out
        clear hb
        go_wp2_with fail
        go_ret
        exact ⟨ret_eq (bool_eq (by have h9 := H0.out; have e9 : (decide (nw = 0) && decide (nz = 0)) = true := (by rw [Bool.and_eq_true]; simp only [decide_eq_true_eq]; omega); rw [Bool.true_and, e9]; first | rfl | exact qz | (simp; omega))), HB2.out⟩
      · have qz : (IntKind.i64.wrap ((nw : Int) + (nz : Int)) == 0) = false := by rw [beq_eq_false_iff_ne, hsum]; omega
        clear hsum
        go_enter Try.func18, Try.ntmps18
        go_wp2_with fail
        refine (HRG.out _).mono ?_
        rintro e' w2 ⟨rfl, hb⟩
        have HB2 := Lib.hid (HB.out.trans (hb.below.mono HB.out.size))
        have HR2 := Lib.hid (HR.out.below hb.below HR.out.lt)
        obtain ⟨m0, m1, m2, m3, m4, _, _, _, _, _⟩ := row5 HR2.out
        clear hb
        go_wp2_with fail
        go_ret
        exact ⟨ret_eq (bool_eq (by have e9 : (decide (nw = 0) && decide (nz = 0)) = false := (by rw [Bool.and_eq_false_iff]; simp only [decide_eq_false_iff_not]; omega); rw [Bool.true_and, e9]; first | rfl | exact qz | (simp; omega))), HB2.out⟩
  · by_cases h3 : zk = 3
    · subst h3
      rw [show cB 3 zs zw (fls zz) = (decide (zs = ⟨#[]⟩) && (decide (zz.length = 0) && wrB zw)) by rw [← hfl]; simp [cB]]
      generalize wrB zw = rr at *
      generalize zw.length = nw at *
      generalize zz.length = nz at *
      by_cases hs : zs = ⟨#[]⟩
      · subst hs
        cases rr
        · go_enter Try.func18, Try.ntmps18
          go_wp2_with fail
          refine (HRN.out _ HB.out).mono ?_
          rintro e' w2 ⟨rfl, hb⟩
          have HB2 := Lib.hid (HB.out.trans (hb.below.mono HB.out.size))
          have HR2 := Lib.hid (HR.out.below hb.below HR.out.lt)
          obtain ⟨m0, m1, m2, m3, m4, _, _, _, _, _⟩ := row5 HR2.out
          clear hb
          go_wp2_with fail
          go_ret
          exact ⟨ret_eq (bool_eq (by simp)), HB2.out⟩
        · by_cases hnz : nz ≤ 0
          · have qz : ((nz : Int) == 0) = true := by rw [beq_iff_eq]; omega
            have HZ0 := Lib.hid hnz
            clear hnz
            go_enter Try.func18, Try.ntmps18
            go_wp2_with fail
            refine (HRN.out _ HB.out).mono ?_
            rintro e' w2 ⟨rfl, hb⟩
            have HB2 := Lib.hid (HB.out.trans (hb.below.mono HB.out.size))
            have HR2 := Lib.hid (HR.out.below hb.below HR.out.lt)
            obtain ⟨m0, m1, m2, m3, m4, _, _, _, _, _⟩ := row5 HR2.out
            clear hb
            go_wp2_with fail
            go_ret
            exact ⟨ret_eq (bool_eq (by have := HZ0.out; simp; omega)), HB2.out⟩
          · have qz : ((nz : Int) == 0) = false := by rw [beq_eq_false_iff_ne]; omega
            go_enter Try.func18, Try.ntmps18
            go_wp2_with fail
            refine (HRN.out _ HB.out).mono ?_
            rintro e' w2 ⟨rfl, hb⟩
            have HB2 := Lib.hid (HB.out.trans (hb.below.mono HB.out.size))
            have HR2 := Lib.hid (HR.out.below hb.below HR.out.lt)
            obtain ⟨m0, m1, m2, m3, m4, _, _, _, _, _⟩ := row5 HR2.out
            clear hb
            go_wp2_with fail
            go_ret
            exact ⟨ret_eq (bool_eq (by simp; omega)), HB2.out⟩
      · have p2 := empty_no hs
        have p3 := empty_no2 hs
        go_enter Try.func18, Try.ntmps18
        go_wp2_with fail
        go_ret
        exact ⟨ret_eq (bool_eq (by simp [hs])), HB.out⟩
    · by_cases h4 : zk = 4
      · subst h4
        rw [show cB 4 zs zw (fls zz) = (decide (zs = ⟨#[]⟩) && (decide (zw.length = 0) && (decide (0 < zz.length) && (fls zz).all (fun y => y.c)))) by rw [← hfl]; simp [cB, lB, brB, Bool.and_assoc]]
        generalize (fls zz).all (fun y => y.c) = rr at *
        generalize zw.length = nw at *
        generalize zz.length = nz at *
        by_cases hs : zs = ⟨#[]⟩
        · subst hs
          by_cases hnw : nw ≤ 0
          · have qw : ((nw : Int) == 0) = true := by rw [beq_iff_eq]; omega
            have HW0 : Hid (nw = 0) := (show nw = 0 by omega)
            clear hnw
            by_cases hnz : 0 < nz
            · go_enter Try.func18, Try.ntmps18
              go_wp2_with fail
              refine (HK1.out _ HB.out).mono ?_
              rintro e' w2 ⟨rfl, hb⟩
              have HB2 := Lib.hid (HB.out.trans (hb.mono HB.out.size))
              have HR2 := Lib.hid (HR.out.below hb HR.out.lt)
              obtain ⟨m0, m1, m2, m3, m4, _, _, _, _, _⟩ := row5 HR2.out
              clear hb
              go_wp2_with fail
              go_ret
              exact ⟨ret_eq (bool_eq (by simp [HW0.out, hnz])), HB2.out⟩
            · go_enter Try.func18, Try.ntmps18
              go_wp2_with fail
              go_ret
              exact ⟨ret_eq (bool_eq (by simp [hnz])), HB.out⟩
          · have qw : ((nw : Int) == 0) = false := by rw [beq_eq_false_iff_ne]; omega
            have HW1 : Hid (¬ nw = 0) := (show ¬ nw = 0 by omega)
            go_enter Try.func18, Try.ntmps18
            go_wp2_with fail
            go_ret
            exact ⟨ret_eq (bool_eq (by simp [HW1.out])), HB.out⟩
        · have p2 := empty_no hs
          have p3 := empty_no2 hs
          go_enter Try.func18, Try.ntmps18
          go_wp2_with fail
          go_ret
          exact ⟨ret_eq (bool_eq (by simp [hs])), HB.out⟩
      · by_cases h5 : zk = 5
        · subst h5
          rw [show cB 5 zs zw (fls zz) = (decide (zs = ⟨#[]⟩) && (decide (zw.length = 0) && (true && (fls zz).all (fun y => y.ru)))) by simp [cB, lB, brB, Bool.and_assoc]]
          generalize (fls zz).all (fun y => y.ru) = rr at *
          generalize zw.length = nw at *
          generalize zz.length = nz at *
          by_cases hs : zs = ⟨#[]⟩
          · subst hs
            by_cases hnw : nw ≤ 0
            · have qw : ((nw : Int) == 0) = true := by rw [beq_iff_eq]; omega
              have HW0 : Hid (nw = 0) := (show nw = 0 by omega)
              clear hnw
              go_enter Try.func18, Try.ntmps18
              go_wp2_with fail
              refine (HK2.out _ HB.out).mono ?_
              rintro e' w2 ⟨rfl, hb⟩
              have HB2 := Lib.hid (HB.out.trans (hb.mono HB.out.size))
              have HR2 := Lib.hid (HR.out.below hb HR.out.lt)
              obtain ⟨m0, m1, m2, m3, m4, _, _, _, _, _⟩ := row5 HR2.out
              clear hb
              go_wp2_with fail
              go_ret
              exact ⟨ret_eq (bool_eq (by simp [HW0.out])), HB2.out⟩
            · have qw : ((nw : Int) == 0) = false := by rw [beq_eq_false_iff_ne]; omega
              have HW1 : Hid (¬ nw = 0) := (show ¬ nw = 0 by omega)
              go_enter Try.func18, Try.ntmps18
              go_wp2_with fail
              go_ret
              exact ⟨ret_eq (bool_eq (by simp [HW1.out])), HB.out⟩
          · have p2 := empty_no hs
            have p3 := empty_no2 hs
            go_enter Try.func18, Try.ntmps18
            go_wp2_with fail
            go_ret
            exact ⟨ret_eq (bool_eq (by simp [hs])), HB.out⟩
        · rw [show cB zk zs zw (fls zz) = false by simp [cB, lB, atB, h2, h3, h4, h5]]
          have q2 : (zk == 2) = false := by rw [beq_eq_false_iff_ne]; exact h2
          have q3 : (zk == 3) = false := by rw [beq_eq_false_iff_ne]; exact h3
          have q4 : (zk == 4) = false := by rw [beq_eq_false_iff_ne]; exact h4
          have q5 : (zk == 5) = false := by rw [beq_eq_false_iff_ne]; exact h5
          generalize zw.length = nw at *
          generalize zz.length = nz at *
          go_enter Try.func18, Try.ntmps18
          go_wp2_with fail
          go_ret
          exact ⟨ret_eq (bool_eq (by rfl)), HB.out⟩
set_option maxRecDepth 100000 in
set_option maxHeartbeats 3200000 in
theorem isLabel10_step (N : Nat) (hN : N < 4294967296) (ih : ∀ y, cnt [y] ≤ N → ∀ w, Nods w w.heap.size [y] → (Calls Try.prog 18 #[.agg (nv y)] w fun e w' => e = .returned (.bool (fl y).c) ∧ Below w.heap.size w w') ∧ Calls Try.prog 20 #[.agg (nv y)] w fun e w' => e = .returned (.bool (fl y).l) ∧ Below w.heap.size w w') (z : Nd) (hz : cnt [z] ≤ N + 1) (w : World) (hnd : Nods w w.heap.size [z]) :
    Calls Try.prog 20 #[.agg (nv z)] w fun e w' => e = .returned (.bool (fl z).l) ∧ Below w.heap.size w w' := by
  obtain ⟨zk, zp, zs, zA, zc, zw, zB, zd, zz⟩ := z
  have hn := RowAt.new w 32 #[.int .i64 zk, .int .i64 zp, .string zs, .slice zA zw.length zc, .slice zB zz.length zd]
  have hB : Below w.heap.size w (w.alloc (.cells #[.int .i64 zk, .int .i64 zp, .string zs, .slice zA zw.length zc, .slice zB zz.length zd] 32)) := (Below.refl _ _).alloc (Nat.le_refl _) _
  have HB := Lib.hid hB
  have HR := Lib.hid hn
  obtain ⟨m0, m1, m2, m3, m4, _, _, _, _, _⟩ := row5 hn
  have hcz : 1 + zw.length + cnt zz ≤ N + 1 := by rw [cnt_cons] at hz; simp only [cnt, Nat.add_zero] at hz; exact hz
  have hzl := length_cnt zz
  have HSW := Lib.hid (fun W (h : Below w.heap.size w W) => (hnd.at.1.1.below h).mono h.size)
  have HSK := Lib.hid (fun W (h : Below w.heap.size w W) => (hnd.at.2.1.below h).mono h.size)
  have HNK : Hid (∀ W, Below w.heap.size w W → Nods W W.heap.size zz) := fun W h => (hnd.kids.below h).mono h.size
  have HMM : Hid (∀ y ∈ zz, cnt [y] ≤ N) := fun y hy => by
    have h1 := cnt_mem hy
    rw [cnt_cons]
    simp only [cnt, Nat.add_zero]
    omega
  simp only [Nd.A, Nd.ws, Nd.B, Nd.ks] at HSW HSK
  have HRG := Lib.hid (refRight_any zs)
  have HRN := Lib.hid (fun W (h : Below w.heap.size w W) => right10_any zA zc zw (by omega) W (HSW.out W h))
  unfold nv
  simp only [Nd.k, Nd.p, Nd.s, Nd.A, Nd.c, Nd.ws, Nd.B, Nd.d, Nd.ks]
  have hfl := fls_length zz
  clear hn hB
  have HK1 := Lib.hid (fun W (h : Below w.heap.size w W) => all10_1 zB zd zz (by omega) W (HNK.out W h) (HSK.out W h) (fun y hy W' h' => (ih y (HMM.out y hy) W' (((HNK.out W h).mem hy).below h' |>.mono h'.size)).1))
  rw [← fls_all zz (fun y => y.c)] at HK1
  have HK3 := Lib.hid (fun W (h : Below w.heap.size w W) => all10_3 zB zd zz (by omega) W (HNK.out W h) (HSK.out W h) (fun y hy W' h' => (ih y (HMM.out y hy) W' (((HNK.out W h).mem hy).below h' |>.mono h'.size)).2))
  rw [← fls_all zz (fun y => y.l)] at HK3
  show Calls _ _ _ _ fun e w' => e = .returned (.bool (lB zk zs zw (fls zz))) ∧ _
  clear hnd ih hz
  by_cases h1 : zk = 1
  · subst h1
    rw [show lB 1 zs zw (fls zz) = leafB zs zw zz.length by rw [← hfl]; simp [cB, lB, atB]]
    rw [show leafB zs zw zz.length = (NM.right zs && (decide (zw.length = 0) && decide (zz.length = 0))) from rfl]
    generalize NM.right zs = r at *
    generalize zw.length = nw at *
    generalize zz.length = nz at *
    cases r
    · go_enter Try.func20, Try.ntmps20
      go_wp2_with fail
      refine (HRG.out _).mono ?_
      rintro e' w2 ⟨rfl, hb⟩
      have HB2 := Lib.hid (HB.out.trans (hb.below.mono HB.out.size))
      have HR2 := Lib.hid (HR.out.below hb.below HR.out.lt)
      obtain ⟨m0, m1, m2, m3, m4, _, _, _, _, _⟩ := row5 HR2.out
      clear hb
      go_wp2_with fail
      go_ret
      exact ⟨ret_eq (bool_eq (by rfl)), HB2.out⟩
    · have hsum : IntKind.i64.wrap ((nw : Int) + (nz : Int)) = ((nw + nz : Nat) : Int) := by rw [IntWalk.i64_in _ ⟨by omega, by omega⟩]; omega
      by_cases hs0 : nw + nz ≤ 0
      · have qz : (IntKind.i64.wrap ((nw : Int) + (nz : Int)) == 0) = true := by rw [beq_iff_eq, hsum]; omega
        have H0 := Lib.hid hs0
        clear hs0 hsum
        go_enter Try.func20, Try.ntmps20
        go_wp2_with fail
        refine (HRG.out _).mono ?_
        rintro e' w2 ⟨rfl, hb⟩
        have HB2 := Lib.hid (HB.out.trans (hb.below.mono HB.out.size))
        have HR2 := Lib.hid (HR.out.below hb.below HR.out.lt)
        obtain ⟨m0, m1, m2, m3, m4, _, _, _, _, _⟩ := row5 HR2.out
        clear hb
        go_wp2_with fail
        go_ret
        exact ⟨ret_eq (bool_eq (by have h9 := H0.out; have e9 : (decide (nw = 0) && decide (nz = 0)) = true := (by rw [Bool.and_eq_true]; simp only [decide_eq_true_eq]; omega); rw [Bool.true_and, e9]; first | rfl | exact qz | (simp; omega))), HB2.out⟩
      · have qz : (IntKind.i64.wrap ((nw : Int) + (nz : Int)) == 0) = false := by rw [beq_eq_false_iff_ne, hsum]; omega
        clear hsum
        go_enter Try.func20, Try.ntmps20
        go_wp2_with fail
        refine (HRG.out _).mono ?_
        rintro e' w2 ⟨rfl, hb⟩
        have HB2 := Lib.hid (HB.out.trans (hb.below.mono HB.out.size))
        have HR2 := Lib.hid (HR.out.below hb.below HR.out.lt)
        obtain ⟨m0, m1, m2, m3, m4, _, _, _, _, _⟩ := row5 HR2.out
        clear hb
        go_wp2_with fail
        go_ret
        exact ⟨ret_eq (bool_eq (by have e9 : (decide (nw = 0) && decide (nz = 0)) = false := (by rw [Bool.and_eq_false_iff]; simp only [decide_eq_false_iff_not]; omega); rw [Bool.true_and, e9]; first | rfl | exact qz | (simp; omega))), HB2.out⟩
  · by_cases h7 : zk = 7
    · subst h7
      rw [show lB 7 zs zw (fls zz) = (decide (zs = ⟨#[]⟩) && (decide (zw.length = 0) && (decide (zz.length = 1) && (fls zz).all (fun y => y.c)))) from at7 zs zw zz]
      generalize (fls zz).all (fun y => y.c) = rr at *
      generalize zw.length = nw at *
      generalize zz.length = nz at *
      by_cases hs : zs = ⟨#[]⟩
      · subst hs
        by_cases hnw : nw ≤ 0
        · have qw : ((nw : Int) == 0) = true := by rw [beq_iff_eq]; omega
          have HW0 : Hid (nw = 0) := (show nw = 0 by omega)
          clear hnw
          by_cases hnz : nz = 1
          · have qz : ((nz : Int) == 1) = true := by rw [beq_iff_eq]; omega
            have HZ1 := Lib.hid hnz
            clear hnz
            go_enter Try.func20, Try.ntmps20
            go_wp2_with fail
            refine (HK1.out _ HB.out).mono ?_
            rintro e' w2 ⟨rfl, hb⟩
            have HB2 := Lib.hid (HB.out.trans (hb.mono HB.out.size))
            have HR2 := Lib.hid (HR.out.below hb HR.out.lt)
            obtain ⟨m0, m1, m2, m3, m4, _, _, _, _, _⟩ := row5 HR2.out
            clear hb
            go_wp2_with fail
            go_ret
            exact ⟨ret_eq (bool_eq (by simp [HW0.out, HZ1.out])), HB2.out⟩
          · have qz : ((nz : Int) == 1) = false := by rw [beq_eq_false_iff_ne]; omega
            go_enter Try.func20, Try.ntmps20
            go_wp2_with fail
            go_ret
            exact ⟨ret_eq (bool_eq (by simp [hnz])), HB.out⟩
        · have qw : ((nw : Int) == 0) = false := by rw [beq_eq_false_iff_ne]; omega
          have HW1 : Hid (¬ nw = 0) := (show ¬ nw = 0 by omega)
          go_enter Try.func20, Try.ntmps20
          go_wp2_with fail
          go_ret
          exact ⟨ret_eq (bool_eq (by simp [HW1.out])), HB.out⟩
      · have p2 := empty_no hs
        have p3 := empty_no2 hs
        go_enter Try.func20, Try.ntmps20
        go_wp2_with fail
        go_ret
        exact ⟨ret_eq (bool_eq (by simp [hs])), HB.out⟩
    · by_cases h8 : zk = 8
      · subst h8
        rw [show lB 8 zs zw (fls zz) = (decide (zs = ⟨#[]⟩) && (decide (zw.length = 0) && (decide (0 < zz.length) && (fls zz).all (fun y => y.l)))) by rw [← hfl]; simp [cB, lB, brB, Bool.and_assoc]]
        generalize (fls zz).all (fun y => y.l) = rr at *
        generalize zw.length = nw at *
        generalize zz.length = nz at *
        by_cases hs : zs = ⟨#[]⟩
        · subst hs
          by_cases hnw : nw ≤ 0
          · have qw : ((nw : Int) == 0) = true := by rw [beq_iff_eq]; omega
            have HW0 : Hid (nw = 0) := (show nw = 0 by omega)
            clear hnw
            by_cases hnz : 0 < nz
            · go_enter Try.func20, Try.ntmps20
              go_wp2_with fail
              refine (HK3.out _ HB.out).mono ?_
              rintro e' w2 ⟨rfl, hb⟩
              have HB2 := Lib.hid (HB.out.trans (hb.mono HB.out.size))
              have HR2 := Lib.hid (HR.out.below hb HR.out.lt)
              obtain ⟨m0, m1, m2, m3, m4, _, _, _, _, _⟩ := row5 HR2.out
              clear hb
              go_wp2_with fail
              go_ret
              exact ⟨ret_eq (bool_eq (by simp [HW0.out, hnz])), HB2.out⟩
            · go_enter Try.func20, Try.ntmps20
              go_wp2_with fail
              go_ret
              exact ⟨ret_eq (bool_eq (by simp [hnz])), HB.out⟩
          · have qw : ((nw : Int) == 0) = false := by rw [beq_eq_false_iff_ne]; omega
            have HW1 : Hid (¬ nw = 0) := (show ¬ nw = 0 by omega)
            go_enter Try.func20, Try.ntmps20
            go_wp2_with fail
            go_ret
            exact ⟨ret_eq (bool_eq (by simp [HW1.out])), HB.out⟩
        · have p2 := empty_no hs
          have p3 := empty_no2 hs
          go_enter Try.func20, Try.ntmps20
          go_wp2_with fail
          go_ret
          exact ⟨ret_eq (bool_eq (by simp [hs])), HB.out⟩
      · by_cases h9 : zk = 9
        · subst h9
          rw [show lB 9 zs zw (fls zz) = (decide (zs = ⟨#[]⟩) && (decide (zw.length = 0) && (decide (0 < zz.length) && (fls zz).all (fun y => y.l)))) by rw [← hfl]; simp [cB, lB, brB, Bool.and_assoc]]
          generalize (fls zz).all (fun y => y.l) = rr at *
          generalize zw.length = nw at *
          generalize zz.length = nz at *
          by_cases hs : zs = ⟨#[]⟩
          · subst hs
            by_cases hnw : nw ≤ 0
            · have qw : ((nw : Int) == 0) = true := by rw [beq_iff_eq]; omega
              have HW0 : Hid (nw = 0) := (show nw = 0 by omega)
              clear hnw
              by_cases hnz : 0 < nz
              · go_enter Try.func20, Try.ntmps20
                go_wp2_with fail
                refine (HK3.out _ HB.out).mono ?_
                rintro e' w2 ⟨rfl, hb⟩
                have HB2 := Lib.hid (HB.out.trans (hb.mono HB.out.size))
                have HR2 := Lib.hid (HR.out.below hb HR.out.lt)
                obtain ⟨m0, m1, m2, m3, m4, _, _, _, _, _⟩ := row5 HR2.out
                clear hb
                go_wp2_with fail
                go_ret
                exact ⟨ret_eq (bool_eq (by simp [HW0.out, hnz])), HB2.out⟩
              · go_enter Try.func20, Try.ntmps20
                go_wp2_with fail
                go_ret
                exact ⟨ret_eq (bool_eq (by simp [hnz])), HB.out⟩
            · have qw : ((nw : Int) == 0) = false := by rw [beq_eq_false_iff_ne]; omega
              have HW1 : Hid (¬ nw = 0) := (show ¬ nw = 0 by omega)
              go_enter Try.func20, Try.ntmps20
              go_wp2_with fail
              go_ret
              exact ⟨ret_eq (bool_eq (by simp [HW1.out])), HB.out⟩
          · have p2 := empty_no hs
            have p3 := empty_no2 hs
            go_enter Try.func20, Try.ntmps20
            go_wp2_with fail
            go_ret
            exact ⟨ret_eq (bool_eq (by simp [hs])), HB.out⟩
        · rw [show lB zk zs zw (fls zz) = false by simp [cB, lB, atB, h1, h7, h8, h9]]
          have q1 : (zk == 1) = false := by rw [beq_eq_false_iff_ne]; exact h1
          have q7 : (zk == 7) = false := by rw [beq_eq_false_iff_ne]; exact h7
          have q8 : (zk == 8) = false := by rw [beq_eq_false_iff_ne]; exact h8
          have q9 : (zk == 9) = false := by rw [beq_eq_false_iff_ne]; exact h9
          generalize zw.length = nw at *
          generalize zz.length = nz at *
          go_enter Try.func20, Try.ntmps20
          go_wp2_with fail
          go_ret
          exact ⟨ret_eq (bool_eq (by rfl)), HB.out⟩
set_option maxRecDepth 8000 in
theorem is10_any : ∀ N, N ≤ 4294967296 → ∀ y, cnt [y] ≤ N → ∀ w, Nods w w.heap.size [y] → (Calls Try.prog 18 #[.agg (nv y)] w fun e w' => e = .returned (.bool (fl y).c) ∧ Below w.heap.size w w') ∧ Calls Try.prog 20 #[.agg (nv y)] w fun e w' => e = .returned (.bool (fl y).l) ∧ Below w.heap.size w w' := by
  intro N
  induction N with
  | zero => intro _ z hz; rw [cnt_cons] at hz; omega
  | succ N ih => intro h z hz w hw; exact ⟨isConst10_step N (by omega) (ih (by omega)) z hz w hw, isLabel10_step N (by omega) (ih (by omega)) z hz w hw⟩
end Go.Proofs.Ytapnefhmonpgdaa

/-
  The document's test of rows. Conditions: at most 2^32 nodes and words.
-/
namespace Go.Proofs.Ytapnefhmonpgdaa
open Go.RowKit LX TR TM
set_option maxRecDepth 100000 in
set_option maxHeartbeats 3200000 in
theorem isRow10_any (z : Nd) (hz : cnt [z] ≤ 4294967296) (w : World) (hnd : Nods w w.heap.size [z]) :
    Calls Try.prog 22 #[.agg (nv z)] w fun e w' => e = .returned (.bool (fl z).r) ∧ Below w.heap.size w w' := by
  obtain ⟨zk, zp, zs, zA, zc, zw, zB, zd, zz⟩ := z
  have hn := RowAt.new w 32 #[.int .i64 zk, .int .i64 zp, .string zs, .slice zA zw.length zc, .slice zB zz.length zd]
  have hB : Below w.heap.size w (w.alloc (.cells #[.int .i64 zk, .int .i64 zp, .string zs, .slice zA zw.length zc, .slice zB zz.length zd] 32)) := (Below.refl _ _).alloc (Nat.le_refl _) _
  have HB := Lib.hid hB
  have HR := Lib.hid hn
  obtain ⟨m0, m1, m2, m3, m4, _, _, _, _, _⟩ := row5 hn
  have hcz : 1 + zw.length + cnt zz ≤ 4294967296 := by rw [cnt_cons] at hz; simp only [cnt, Nat.add_zero] at hz; exact hz
  have hzl := length_cnt zz
  have HSW := Lib.hid (fun W (h : Below w.heap.size w W) => (hnd.at.1.1.below h).mono h.size)
  have HSK := Lib.hid (fun W (h : Below w.heap.size w W) => (hnd.at.2.1.below h).mono h.size)
  have HNK : Hid (∀ W, Below w.heap.size w W → Nods W W.heap.size zz) := fun W h => (hnd.kids.below h).mono h.size
  have HMM : Hid (∀ y ∈ zz, cnt [y] ≤ 4294967295) := fun y hy => by
    have h1 := cnt_mem hy
    rw [cnt_cons]
    simp only [cnt, Nat.add_zero]
    omega
  simp only [Nd.A, Nd.ws, Nd.B, Nd.ks] at HSW HSK
  have HRG := Lib.hid (refRight_any zs)
  have HRN := Lib.hid (fun W (h : Below w.heap.size w W) => right10_any zA zc zw (by omega) W (HSW.out W h))
  unfold nv
  simp only [Nd.k, Nd.p, Nd.s, Nd.A, Nd.c, Nd.ws, Nd.B, Nd.d, Nd.ks]
  have hfl := fls_length zz
  clear hn hB
  have HK4 := Lib.hid (fun W (h : Below w.heap.size w W) => all10_4 zB zd zz (by omega) W (HNK.out W h) (HSK.out W h) (fun y hy x hx W' h' => (is10_any 4294967296 (Nat.le_refl _) x (by
    have h1 := HMM.out y hy
    have h2 := cnt_mem hx
    rw [cnt_cons] at h1 ⊢
    simp only [cnt, Nat.add_zero] at h1 ⊢
    omega) W' ((((HNK.out W h).mem hy).kids.mem hx).below h' |>.mono h'.size)).2))
  rw [← fls_all zz (fun y => y.fi)] at HK4
  have HL : Hid (∀ W, Below w.heap.size w W → Calls Try.prog 20 #[.agg #[.int .i64 zk, .int .i64 zp, .string zs, .slice zA zw.length zc, .slice zB zz.length zd]] W fun e w' => e = .returned (.bool (lB zk zs zw (fls zz))) ∧ Below W.heap.size W w') := fun W h => (is10_any 4294967296 (Nat.le_refl _) (.mk zk zp zs zA zc zw zB zd zz) hz W ((hnd.below h).mono h.size)).2
  show Calls _ _ _ _ fun e w' => e = .returned (.bool (rB zk zs zw (fls zz))) ∧ _
  clear hnd hz
  by_cases h10 : zk = 10
  · subst h10
    rw [show rB 10 zs zw (fls zz) = (decide (zs = ⟨#[]⟩) && (decide (zw.length ≤ 1) && (wrB zw && (fls zz).all (fun y => y.fi)))) by simp [rB]]
    generalize wrB zw = rr at *
    generalize (fls zz).all (fun y => y.fi) = ff at *
    generalize zw.length = nw at *
    generalize zz.length = nz at *
    by_cases hs : zs = ⟨#[]⟩
    · subst hs
      by_cases hnw : nw ≤ 1
      · cases rr
        · go_enter Try.func22, Try.ntmps22
          go_wp2_with fail
          refine (HRN.out _ HB.out).mono ?_
          rintro e' w2 ⟨rfl, hb⟩
          have HB2 := Lib.hid (HB.out.trans (hb.below.mono HB.out.size))
          have HR2 := Lib.hid (HR.out.below hb.below HR.out.lt)
          obtain ⟨m0, m1, m2, m3, m4, _, _, _, _, _⟩ := row5 HR2.out
          clear hb
          go_wp2_with fail
          go_ret
          exact ⟨ret_eq (bool_eq (by simp [hnw])), HB2.out⟩
        · go_enter Try.func22, Try.ntmps22
          go_wp2_with fail
          refine (HRN.out _ HB.out).mono ?_
          rintro e' w2 ⟨rfl, hb⟩
          have HB2 := Lib.hid (HB.out.trans (hb.below.mono HB.out.size))
          have HR2 := Lib.hid (HR.out.below hb.below HR.out.lt)
          obtain ⟨m0, m1, m2, m3, m4, _, _, _, _, _⟩ := row5 HR2.out
          clear hb
          go_wp2_with fail
          refine (HK4.out _ HB2.out).mono ?_
          rintro e' w3 ⟨rfl, hb⟩
          have HB3 := Lib.hid (HB2.out.trans (hb.mono HB2.out.size))
          have HR3 := Lib.hid (HR2.out.below hb HR2.out.lt)
          obtain ⟨m0, m1, m2, m3, m4, _, _, _, _, _⟩ := row5 HR3.out
          clear hb
          go_wp2_with fail
          go_ret
          exact ⟨ret_eq (bool_eq (by simp [hnw])), HB3.out⟩
      · go_enter Try.func22, Try.ntmps22
        go_wp2_with fail
        go_ret
        exact ⟨ret_eq (bool_eq (by simp [hnw])), HB.out⟩
    · have p2 := empty_no hs
      have p3 := empty_no2 hs
      go_enter Try.func22, Try.ntmps22
      go_wp2_with fail
      go_ret
      exact ⟨ret_eq (bool_eq (by simp [hs])), HB.out⟩
  · have q10 : (zk == 10) = false := by rw [beq_eq_false_iff_ne]; exact h10
    by_cases h1 : zk = 1
    · subst h1
      rw [show rB 1 zs zw (fls zz) = lB 1 zs zw (fls zz) by simp [rB, lB, atB]]
      generalize lB 1 zs zw (fls zz) = q at *
      generalize zw.length = nw at *
      generalize zz.length = nz at *
      go_enter Try.func22, Try.ntmps22
      go_wp2_with fail
      refine (HL.out _ HB.out).mono ?_
      rintro e' w2 ⟨rfl, hb⟩
      have HB2 := Lib.hid (HB.out.trans (hb.mono HB.out.size))
      have HR2 := Lib.hid (HR.out.below hb HR.out.lt)
      obtain ⟨m0, m1, m2, m3, m4, _, _, _, _, _⟩ := row5 HR2.out
      clear hb
      go_wp2_with fail
      go_ret
      exact ⟨ret_eq (bool_eq (by rfl)), HB2.out⟩
    · rw [show rB zk zs zw (fls zz) = false by simp [rB, h1, h10]]
      have q1 : (zk == 1) = false := by rw [beq_eq_false_iff_ne]; exact h1
      generalize zw.length = nw at *
      generalize zz.length = nz at *
      go_enter Try.func22, Try.ntmps22
      go_wp2_with fail
      go_ret
      exact ⟨ret_eq (bool_eq (by rfl)), HB.out⟩
end Go.Proofs.Ytapnefhmonpgdaa

/-
  The document's count of nodes and words. Conditions: at most 2^32 of them.
-/
namespace Go.Proofs.Ytapnefhmonpgdaa
open Go.RowKit LX TR TM
set_option maxRecDepth 8000 in
theorem cnt_take (zz : List Nd) (i : Nat) (h : i < zz.length) : cnt (zz.take i) + cnt [zz.getD i n0] = cnt (zz.take (i + 1)) := by
  rw [List.take_add_one, cnt_append, List.getD_eq_getElem?_getD, List.getElem?_eq_getElem h]
  rfl
set_option maxRecDepth 8000 in
theorem cnt_take_le (zz : List Nd) (i : Nat) : cnt (zz.take i) ≤ cnt zz := by
  have h := cnt_append (zz.take i) (zz.drop i)
  rw [List.take_append_drop] at h
  omega
set_option maxRecDepth 100000 in
set_option maxHeartbeats 1600000 in
theorem many10_step (N : Nat) (hN : N < 4294967296) (ih : ∀ y, cnt [y] ≤ N → ∀ w, Nods w w.heap.size [y] → Calls Try.prog 37 #[.agg (nv y)] w fun e w' => e = .returned (.int .i64 (cnt [y] : Int)) ∧ Below w.heap.size w w') (z : Nd) (hz : cnt [z] ≤ N + 1) (w : World) (hnd : Nods w w.heap.size [z]) :
    Calls Try.prog 37 #[.agg (nv z)] w fun e w' => e = .returned (.int .i64 (cnt [z] : Int)) ∧ Below w.heap.size w w' := by
  obtain ⟨zk, zp, zs, zA, zc, zw, zB, zd, zz⟩ := z
  have hcz : cnt [Nd.mk zk zp zs zA zc zw zB zd zz] = 1 + zw.length + cnt zz := by rw [cnt_cons]; simp only [cnt, Nat.add_zero]; rfl
  rw [hcz] at hz ⊢
  have hn := RowAt.new w 32 #[.int .i64 zk, .int .i64 zp, .string zs, .slice zA zw.length zc, .slice zB zz.length zd]
  have hB : Below w.heap.size w (w.alloc (.cells #[.int .i64 zk, .int .i64 zp, .string zs, .slice zA zw.length zc, .slice zB zz.length zd] 32)) := (Below.refl _ _).alloc (Nat.le_refl _) _
  have HNK : Hid (∀ W, Below w.heap.size w W → Nods W W.heap.size zz) := fun W h => (hnd.kids.below h).mono h.size
  have HSK : Hid (∀ W, Below w.heap.size w W → Sl W W.heap.size zB (ncs zz)) := fun W h => (hnd.at.2.1.below h).mono h.size
  have HC : Hid (∀ i, i < zz.length → ∀ W, Below w.heap.size w W → Calls Try.prog 37 #[.agg (nv (zz.getD i n0))] W fun e w' => e = .returned (.int .i64 (cnt [zz.getD i n0] : Int)) ∧ Below W.heap.size W w') := fun i hi W h => by
    have hm : zz.getD i n0 ∈ zz := by
      rw [List.getD_eq_getElem?_getD, List.getElem?_eq_getElem hi]
      exact List.getElem_mem hi
    refine ih _ ?_ W ((HNK.out W h).mem hm)
    have h1 := cnt_mem hm
    rw [cnt_cons]
    simp only [cnt, Nat.add_zero]
    omega
  have HT : Hid (∀ i, i < zz.length → (1 + zw.length + cnt (zz.take i)) + cnt [zz.getD i n0] = 1 + zw.length + cnt (zz.take (i + 1)) ∧ 1 + zw.length + cnt (zz.take (i + 1)) ≤ 1 + zw.length + cnt zz) := fun i hi => by
    have h1 := cnt_take zz i hi
    have h2 := cnt_take_le zz (i + 1)
    omega
  have HE : Hid (1 + zw.length + cnt (zz.take zz.length) = 1 + zw.length + cnt zz) := by show _ = _; rw [List.take_length]
  have H0 : Hid (1 + zw.length = 1 + zw.length + cnt (zz.take 0)) := by show _ = _; simp [cnt]
  have hzl := length_cnt zz
  have hn32 : zz.length ≤ 4294967296 := by omega
  have hw32 : zw.length ≤ 4294967296 := by omega
  unfold nv
  simp only [Nd.k, Nd.p, Nd.s, Nd.A, Nd.c, Nd.ws, Nd.B, Nd.d, Nd.ks]
  generalize hm : zz.length = n at *
  have HN := Lib.hid hm
  clear hm
  generalize ht : 1 + zw.length + cnt zz = T at *
  clear ht hcz hnd ih
  have hw1 : w.heap.size < (w.alloc (.cells #[.int .i64 zk, .int .i64 zp, .string zs, .slice zA zw.length zc, .slice zB n zd] 32)).heap.size := hn.lt
  generalize hW1 : (w.alloc (.cells #[.int .i64 zk, .int .i64 zp, .string zs, .slice zA zw.length zc, .slice zB n zd] 32)) = w1 at *
  have HW1 := Lib.hid hW1
  clear hW1
  have HR := Lib.hid hn
  have HB := Lib.hid hB
  obtain ⟨m0, m1, m2, m3, m4, _, _, _, _, _⟩ := row5 hn
  clear hn hB
  go_enter Try.func37, Try.ntmps37
  go_wp2_with fail
  try rw [HW1.out]
  go_wp2_with fail
  go_loopw [3, 4] (fun kv iv wr => ∃ i : Nat, i ≤ n ∧ iv = .int .i64 i ∧ kv = .int .i64 ((1 + zw.length + cnt (zz.take i) : Nat) : Int) ∧ Hid (Below w1.heap.size w1 wr)) (fun _ iv _ => n - (intOf iv).toNat)
  case atStart => exact ⟨0, by omega, rfl, by rw [← H0.out]; go_num, Below.refl _ _⟩
  case round =>
    obtain ⟨i, hi, rfl, rfl, HW⟩ := hrel
    have HBW := Lib.hid (HB.out.trans (HW.out.mono HB.out.size))
    obtain ⟨m0, m1, m2, m3, m4, _, _, _, _, _⟩ := row5 (HR.out.below HW.out hw1)
    by_cases hlt : i < n
    · obtain ⟨bb, o, rfl, hbb, hc⟩ := sl_at (z := n0) ncells_length (HSK.out wr HBW.out) (k := i) (by rw [HN.out]; exact hlt) (by omega)
      have q0 := hc i 0 _ (by rw [HN.out]; exact hlt) (by omega) rfl
      have q1 := hc i 1 _ (by rw [HN.out]; exact hlt) (by omega) rfl
      have q2 := hc i 2 _ (by rw [HN.out]; exact hlt) (by omega) rfl
      have q3 := hc i 3 _ (by rw [HN.out]; exact hlt) (by omega) rfl
      have q4 := hc i 4 _ (by rw [HN.out]; exact hlt) (by omega) rfl
      rw [Nat.add_zero] at q0
      rw [← Nat.add_assoc] at q1 q2 q3 q4
      have hin : (i : Int) < (n : Int) := by omega
      have HD := Lib.hid (HC.out i hlt wr HBW.out)
      obtain ⟨ha, hb2⟩ := HT.out i hlt
      have HA := Lib.hid ha
      have hs : (1 + zw.length + cnt (zz.take i)) + cnt [zz.getD i n0] ≤ 4294967296 := by omega
      clear hc ha hb2
      generalize 1 + zw.length + cnt (zz.take i) = a at *
      generalize cnt [zz.getD i n0] = d at *
      generalize zz.getD i n0 = x at *
      obtain ⟨xk, xp, xs, xA, xc, xw, xB, xd, xx⟩ := x
      unfold nv at HD
      simp only [Nd.k, Nd.p, Nd.s, Nd.A, Nd.c, Nd.ws, Nd.B, Nd.d, Nd.ks] at q0 q1 q2 q3 q4 HD
      go_wp2_with fail
      refine HD.out.mono ?_
      rintro e w4 ⟨rfl, hb⟩
      have HW4 : Hid (Below w1.heap.size w1 w4) := HW.out.trans (hb.mono HW.out.size)
      clear hb
      go_wp2_with fail
      go_roundw
      case rel => exact ⟨i + 1, by omega, by go_num, by rw [← HA.out]; go_num, HW4⟩
      case measure => simp [intOf]; omega
    · obtain rfl : i = n := by omega
      rw [HE.out]
      go_wp2_with fail
      go_ret
      exact ⟨rfl, HBW.out⟩
set_option maxRecDepth 8000 in
theorem many10_any : ∀ N, N ≤ 4294967296 → ∀ y, cnt [y] ≤ N → ∀ w, Nods w w.heap.size [y] → Calls Try.prog 37 #[.agg (nv y)] w fun e w' => e = .returned (.int .i64 (cnt [y] : Int)) ∧ Below w.heap.size w w' := by
  intro N
  induction N with
  | zero => intro _ z hz; rw [cnt_cons] at hz; omega
  | succ N ih => intro h z hz; exact many10_step N (by omega) (ih (by omega)) z hz
end Go.Proofs.Ytapnefhmonpgdaa
