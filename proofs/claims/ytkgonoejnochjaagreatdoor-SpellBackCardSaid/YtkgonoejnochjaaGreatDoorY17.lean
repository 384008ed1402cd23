/- Texts that all the claims need. Conditions: those that each states. -/

import Derived.Test.YtkgonoejnochjaaGreatDoorY16
set_option linter.unusedSimpArgs false
set_option linter.unusedVariables false
set_option maxRecDepth 8000
namespace Go.Proofs.YtkgonoejnochjaaGreatDoor
open Go.RowKit LX TR TM
set_option maxRecDepth 100000 in
set_option maxHeartbeats 1600000 in
theorem indexW_any {F : FuncId} {caps : Array Value} {g : Wd → Bool} {KK : World → Prop} (hf : ∀ v w, (callFunc F (#[v] ++ caps)).run Tryz.prog w = .ok (.enter F (#[v] ++ caps)) w) (A : Option Addr) (c : Nat) (zs : List Wd) (hn : zs.length ≤ 1099511627776)
 (HF : ∀ z ∈ zs, ∀ w, KK w → Calls Tryz.prog F (#[.agg (wv z)] ++ caps) w fun e w' => e = .returned (.bool (g z)) ∧ Below w.heap.size w w') (hKK : ∀ wa wb, KK wa → Below wa.heap.size wa wb → KK wb)
 (w : World) (hk : KK w) (hA : Sl w w.heap.size A (wcs zs)) :
 Calls Tryz.prog 123 #[.slice A zs.length c, .func (.func F) #[] caps] w fun e w' => ∃ r : Int, e = .returned (.int .i64 r) ∧ decide (0 ≤ r) = zs.any g ∧ Below w.heap.size w w' := by
 have HA := Lib.hid hA; clear hA
 have HK := Lib.hid hk; clear hk
 have HKK := Lib.hid hKK; clear hKK
 have HFF : Hid (∀ i, i < zs.length → ∀ w, KK w → Calls Tryz.prog F (#[.agg (wv (zs.getD i w0))] ++ caps) w fun e w' => e = .returned (.bool (g (zs.getD i w0))) ∧ Below w.heap.size w w') := fun i hi => HF _ (by
  rw [List.getD_eq_getElem?_getD, List.getElem?_eq_getElem hi]
  exact List.getElem_mem hi)
 clear HF
 have HHIT : Hid (∀ i, i < zs.length → g (zs.getD i w0) = true → zs.any g = true) := fun i hi h => by
  rw [List.any_eq_true]
  refine ⟨_, ?_, h⟩
  rw [List.getD_eq_getElem?_getD, List.getElem?_eq_getElem hi]
  exact List.getElem_mem hi
 have HMISS : Hid ((∀ j, j < zs.length → g (zs.getD j w0) = false) → zs.any g = false) := fun h => by
  rw [List.any_eq_false]
  intro x hx
  obtain ⟨j, hj, rfl⟩ := List.mem_iff_getElem.1 hx
  have := h j hj
  rw [List.getD_eq_getElem?_getD, List.getElem?_eq_getElem hj, Option.getD_some] at this
  simp [this]
 generalize hm : zs.length = n at *
 have HN := Lib.hid hm; clear hm
 go_enter Tryz.func123, Tryz.ntmps123
 go_wp2_with fail
 go_loopw [8] (fun iv wr => ∃ i : Nat, i ≤ n ∧ iv = .int .i64 i ∧ Hid (∀ j, j < i → g (zs.getD j w0) = false) ∧ Hid (Below w.heap.size w wr)) (fun iv _ => n - (intOf iv).toNat)
 case atStart => exact ⟨0, by omega, rfl, fun j hj => by omega, Below.refl _ _⟩
 case round =>
  obtain ⟨i, hi, rfl, HB, HW⟩ := hrel
  by_cases hlt : i < n
  ·obtain ⟨bb, o, rfl, hbb, hc⟩ := sl_at (z := w0) wcells_length (HA.out.below HW.out) (k := i) (by rw [HN.out]; exact hlt) (by omega)
   have q0 := hc i 0 _ (by rw [HN.out]; exact hlt) (by omega) rfl
   have q1 := hc i 1 _ (by rw [HN.out]; exact hlt) (by omega) rfl
   rw [Nat.add_zero] at q0
   rw [← Nat.add_assoc] at q1
   have HC := Lib.hid (HFF.out i hlt wr (HKK.out _ _ HK.out HW.out))
   have HIN : Hid (g (zs.getD i w0) = false → ∀ j, j < i + 1 → g (zs.getD j w0) = false) := fun h j hj => by
        by_cases e : j = i
        ·rw [e]; exact h
        ·exact HB.out j (by omega)
   have HYS := Lib.hid (HHIT.out i hlt)
   have hin : (i : Int) < (n : Int) := by omega
   clear hc HB
   generalize hgz : g (zs.getD i w0) = q at *
   clear hgz
   generalize zs.getD i w0 = z at *
   obtain ⟨s9, p9⟩ := z
   unfold wv at HC
   simp only at q0 q1 HC
   cases q
   ·have HIN2 := Lib.hid (HIN.out rfl)
    clear HIN HYS
    go_wp2_with fail
    refine HC.out.mono ?_
    rintro e w4 ⟨rfl, hb⟩
    have HW4 := Lib.hid (HW.out.trans (hb.mono HW.out.size))
    clear hb
    go_wp2_with fail
    go_roundw
    case rel => exact ⟨i + 1, by omega, by go_num, HIN2, HW4⟩
    case measure => simp [intOf]; omega
   ·have HYS2 := Lib.hid (HYS.out rfl)
    clear HIN HYS
    go_wp2_with fail
    refine HC.out.mono ?_
    rintro e w4 ⟨rfl, hb⟩
    have HW4 := Lib.hid (HW.out.trans (hb.mono HW.out.size))
    clear hb
    go_wp2_with fail
    go_ret
    refine ⟨(i : Int), rfl, ?_, HW4.out⟩
    rw [HYS2.out]
    exact decide_eq_true (by omega)
  ·obtain rfl : i = n := by omega
   have HNO := Lib.hid (HMISS.out HB.out)
   go_wp2_with fail
   go_ret
   refine ⟨-1, rfl, ?_, HW.out⟩
   rw [HNO.out]; rfl
set_option maxRecDepth 100000 in
set_option maxHeartbeats 800000 in
theorem containsW_any {F : FuncId} {caps : Array Value} {g : Wd → Bool} {KK : World → Prop} (hf : ∀ v w, (callFunc F (#[v] ++ caps)).run Tryz.prog w = .ok (.enter F (#[v] ++ caps)) w) (A : Option Addr) (c : Nat) (zs : List Wd) (hn : zs.length ≤ 1099511627776)
 (HF : ∀ z ∈ zs, ∀ w, KK w → Calls Tryz.prog F (#[.agg (wv z)] ++ caps) w fun e w' => e = .returned (.bool (g z)) ∧ Below w.heap.size w w') (hKK : ∀ wa wb, KK wa → Below wa.heap.size wa wb → KK wb)
 (w : World) (hk : KK w) (hA : Sl w w.heap.size A (wcs zs)) :
 Calls Tryz.prog 79 #[.slice A zs.length c, .func (.func F) #[] caps] w fun e w' => e = .returned (.bool (zs.any g)) ∧ Below w.heap.size w w' := by
 have HC := Lib.hid (indexW_any hf A c zs hn HF hKK w hk hA)
 clear hA HF hKK hk
 generalize zs.any g = q at *
 generalize zs.length = n at *
 go_enter Tryz.func79, Tryz.ntmps79
 go_wp2_with fail
 refine HC.out.mono ?_
 rintro e w1 ⟨r, rfl, hr, hb⟩
 have HR := Lib.hid hr
 have HB := Lib.hid hb
 clear hr hb
 go_wp2_with fail
 go_ret
 exact ⟨ret_eq (bool_eq HR.out), HB.out⟩
set_option maxRecDepth 100000 in
set_option maxHeartbeats 1600000 in
theorem indexN_any {F : FuncId} {caps : Array Value} {g : Nd → Bool} {KK : World → Prop} (hf : ∀ v w, (callFunc F (#[v] ++ caps)).run Tryz.prog w = .ok (.enter F (#[v] ++ caps)) w) (A : Option Addr) (c : Nat) (zs : List Nd) (hn : zs.length ≤ 1099511627776)
 (HF : ∀ z ∈ zs, ∀ w, KK w → Calls Tryz.prog F (#[.agg (nv z)] ++ caps) w fun e w' => e = .returned (.bool (g z)) ∧ Below w.heap.size w w') (hKK : ∀ wa wb, KK wa → Below wa.heap.size wa wb → KK wb)
 (w : World) (hk : KK w) (hA : Sl w w.heap.size A (ncs zs)) :
 Calls Tryz.prog 124 #[.slice A zs.length c, .func (.func F) #[] caps] w fun e w' => ∃ r : Int, e = .returned (.int .i64 r) ∧ decide (0 ≤ r) = zs.any g ∧ Below w.heap.size w w' := by
 have HA := Lib.hid hA; clear hA
 have HK := Lib.hid hk; clear hk
 have HKK := Lib.hid hKK; clear hKK
 have HFF : Hid (∀ i, i < zs.length → ∀ w, KK w → Calls Tryz.prog F (#[.agg (nv (zs.getD i n0))] ++ caps) w fun e w' => e = .returned (.bool (g (zs.getD i n0))) ∧ Below w.heap.size w w') := fun i hi => HF _ (by
  rw [List.getD_eq_getElem?_getD, List.getElem?_eq_getElem hi]
  exact List.getElem_mem hi)
 clear HF
 have HHIT : Hid (∀ i, i < zs.length → g (zs.getD i n0) = true → zs.any g = true) := fun i hi h => by
  rw [List.any_eq_true]
  refine ⟨_, ?_, h⟩
  rw [List.getD_eq_getElem?_getD, List.getElem?_eq_getElem hi]
  exact List.getElem_mem hi
 have HMISS : Hid ((∀ j, j < zs.length → g (zs.getD j n0) = false) → zs.any g = false) := fun h => by
  rw [List.any_eq_false]
  intro x hx
  obtain ⟨j, hj, rfl⟩ := List.mem_iff_getElem.1 hx
  have := h j hj
  rw [List.getD_eq_getElem?_getD, List.getElem?_eq_getElem hj, Option.getD_some] at this
  simp [this]
 generalize hm : zs.length = n at *
 have HN := Lib.hid hm; clear hm
 go_enter Tryz.func124, Tryz.ntmps124
 go_wp2_with fail
 go_loopw [8] (fun iv wr => ∃ i : Nat, i ≤ n ∧ iv = .int .i64 i ∧ Hid (∀ j, j < i → g (zs.getD j n0) = false) ∧ Hid (Below w.heap.size w wr)) (fun iv _ => n - (intOf iv).toNat)
 case atStart => exact ⟨0, by omega, rfl, fun j hj => by omega, Below.refl _ _⟩
 case round =>
  obtain ⟨i, hi, rfl, HB, HW⟩ := hrel
  by_cases hlt : i < n
  ·obtain ⟨bb, o, rfl, hbb, hc⟩ := sl_at (z := n0) ncells_length (HA.out.below HW.out) (k := i) (by rw [HN.out]; exact hlt) (by omega)
   have q0 := hc i 0 _ (by rw [HN.out]; exact hlt) (by omega) rfl
   have q1 := hc i 1 _ (by rw [HN.out]; exact hlt) (by omega) rfl
   have q2 := hc i 2 _ (by rw [HN.out]; exact hlt) (by omega) rfl
   have q3 := hc i 3 _ (by rw [HN.out]; exact hlt) (by omega) rfl
   have q4 := hc i 4 _ (by rw [HN.out]; exact hlt) (by omega) rfl
   rw [Nat.add_zero] at q0
   rw [← Nat.add_assoc] at q1 q2 q3 q4
   have HC := Lib.hid (HFF.out i hlt wr (HKK.out _ _ HK.out HW.out))
   have HIN : Hid (g (zs.getD i n0) = false → ∀ j, j < i + 1 → g (zs.getD j n0) = false) := fun h j hj => by
        by_cases e : j = i
        ·rw [e]; exact h
        ·exact HB.out j (by omega)
   have HYS := Lib.hid (HHIT.out i hlt)
   have hin : (i : Int) < (n : Int) := by omega
   clear hc HB
   generalize hgz : g (zs.getD i n0) = q at *
   clear hgz
   generalize zs.getD i n0 = z at *
   obtain ⟨zk, zp, zs9, zA, zc, zw, zB, zd, zz⟩ := z
   unfold nv at HC
   simp only [Nd.k, Nd.p, Nd.s, Nd.A, Nd.c, Nd.ws, Nd.B, Nd.d, Nd.ks] at q0 q1 q2 q3 q4 HC
   cases q
   ·have HIN2 := Lib.hid (HIN.out rfl)
    clear HIN HYS
    go_wp2_with fail
    refine HC.out.mono ?_
    rintro e w4 ⟨rfl, hb⟩
    have HW4 := Lib.hid (HW.out.trans (hb.mono HW.out.size))
    clear hb
    go_wp2_with fail
    go_roundw
    case rel => exact ⟨i + 1, by omega, by go_num, HIN2, HW4⟩
    case measure => simp [intOf]; omega
   ·have HYS2 := Lib.hid (HYS.out rfl)
    clear HIN HYS
    go_wp2_with fail
    refine HC.out.mono ?_
    rintro e w4 ⟨rfl, hb⟩
    have HW4 := Lib.hid (HW.out.trans (hb.mono HW.out.size))
    clear hb
    go_wp2_with fail
    go_ret
    refine ⟨(i : Int), rfl, ?_, HW4.out⟩
    rw [HYS2.out]
    exact decide_eq_true (by omega)
  ·obtain rfl : i = n := by omega
   have HNO := Lib.hid (HMISS.out HB.out)
   go_wp2_with fail
   go_ret
   refine ⟨-1, rfl, ?_, HW.out⟩
   rw [HNO.out]; rfl
set_option maxRecDepth 100000 in
set_option maxHeartbeats 800000 in
theorem containsN_any {F : FuncId} {caps : Array Value} {g : Nd → Bool} {KK : World → Prop} (hf : ∀ v w, (callFunc F (#[v] ++ caps)).run Tryz.prog w = .ok (.enter F (#[v] ++ caps)) w) (A : Option Addr) (c : Nat) (zs : List Nd) (hn : zs.length ≤ 1099511627776)
 (HF : ∀ z ∈ zs, ∀ w, KK w → Calls Tryz.prog F (#[.agg (nv z)] ++ caps) w fun e w' => e = .returned (.bool (g z)) ∧ Below w.heap.size w w') (hKK : ∀ wa wb, KK wa → Below wa.heap.size wa wb → KK wb)
 (w : World) (hk : KK w) (hA : Sl w w.heap.size A (ncs zs)) :
 Calls Tryz.prog 81 #[.slice A zs.length c, .func (.func F) #[] caps] w fun e w' => e = .returned (.bool (zs.any g)) ∧ Below w.heap.size w w' := by
 have HC := Lib.hid (indexN_any hf A c zs hn HF hKK w hk hA)
 clear hA HF hKK hk
 generalize zs.any g = q at *
 generalize zs.length = n at *
 go_enter Tryz.func81, Tryz.ntmps81
 go_wp2_with fail
 refine HC.out.mono ?_
 rintro e w1 ⟨r, rfl, hr, hb⟩
 have HR := Lib.hid hr
 have HB := Lib.hid hb
 clear hr hb
 go_wp2_with fail
 go_ret
 exact ⟨ret_eq (bool_eq HR.out), HB.out⟩
end Go.Proofs.YtkgonoejnochjaaGreatDoor
namespace Go.Proofs.YtkgonoejnochjaaGreatDoor
namespace TM
open LX TR
structure Fl where
 c : Bool
 l : Bool
 r : Bool
 ru : Bool
 fi : Bool
 at' : Bool
def wrB (ws : List Wd) : Bool := ws.all fun x => NM.right x.s
def leafB (s : ByteArray) (ws : List Wd) (n : Nat) : Bool := NM.right s && (decide (ws.length = 0) && decide (n = 0))
def brB (s : ByteArray) (ws : List Wd) : Bool := decide (s = ⟨#[]⟩) && decide (ws.length = 0)
def fl0 : Fl := ⟨false, false, false, false, false, false⟩
def cB (k : Int) (s : ByteArray) (ws : List Wd) (ks : List Fl) : Bool :=
 if k = 2 then leafB s ws ks.length else if k = 3 then decide (s = ⟨#[]⟩) && (decide (ks.length = 0) && wrB ws) else if k = 4 then brB s ws && (decide (0 < ks.length) && ks.all (·.c)) else if k = 5 then brB s ws && ks.all (·.ru) else false
def ruB (k : Int) (s : ByteArray) (ws : List Wd) (n : Nat) : Bool := decide (k = 6) && (NM.right s && (decide (n = 0) && wrB ws))
def atB (k : Int) (s : ByteArray) (ws : List Wd) (ks : List Fl) : Bool := if k = 1 then leafB s ws ks.length else if k = 7 then brB s ws && (decide (ks.length = 1) && (ks.headD fl0).c) else false
def lB (k : Int) (s : ByteArray) (ws : List Wd) (ks : List Fl) : Bool := if k = 8 ∨ k = 9 then brB s ws && (decide (0 < ks.length) && ks.all (·.l)) else atB k s ws ks
def fiB (k : Int) (s : ByteArray) (ws : List Wd) (ks : List Fl) : Bool := decide (k = 11) && (NM.right s && (decide (ws.length = 0) && (decide (ks.length = 1) && (ks.headD fl0).at')))
def rB (k : Int) (s : ByteArray) (ws : List Wd) (ks : List Fl) : Bool := if k = 1 then leafB s ws ks.length else if k = 10 then decide (s = ⟨#[]⟩) && (decide (ws.length ≤ 1) && (wrB ws && ks.all (·.fi))) else false
def fl1 (k : Int) (s : ByteArray) (ws : List Wd) (ks : List Fl) : Fl := ⟨cB k s ws ks, lB k s ws ks, rB k s ws ks, ruB k s ws ks.length, fiB k s ws ks, atB k s ws ks⟩
def fls : List Nd → List Fl
 | [] => []
 | .mk k _ s _ _ ws _ _ ks :: r => fl1 k s ws (fls ks) :: fls r
def fl (x : Nd) : Fl := fl1 x.k x.s x.ws (fls x.ks)
theorem fls_cons (x : Nd) (r : List Nd) : fls (x :: r) = fl x :: fls r := by cases x; rw [fls]; rfl
theorem fls_map (l : List Nd) : fls l = l.map fl := by
 induction l with
 | nil => simp [fls]
 | cons x r ih => rw [fls_cons, ih]; rfl
theorem fls_length (l : List Nd) : (fls l).length = l.length := by rw [fls_map, List.length_map]
end TM
open Go.RowKit LX TR TM
set_option maxHeartbeats 800000 in
theorem rightNames1_any (x : Wd) (w : World) : Calls Tryz.prog 80 (#[.agg (wv x)] ++ #[]) w fun e w' => e = .returned (.bool (!NM.right x.s)) ∧ Below w.heap.size w w' := by
 obtain ⟨s, p⟩ := x
 have hn := RowAt.new w 54 #[.string s, .int .i64 p]
 obtain ⟨m0, m1, _, _⟩ := row2 hn
 have HB : Hid (Below w.heap.size w (w.alloc (.cells #[.string s, .int .i64 p] 54))) := (Below.refl _ _).alloc (Nat.le_refl _) _
 have HC := Lib.hid (right_any s (w.alloc (.cells #[.string s, .int .i64 p] 54)))
 clear hn
 unfold wv
 show Calls _ _ #[.agg #[.string s, .int .i64 p]] _ _
 simp only
 generalize NM.right s = r at *
 go_enter Tryz.func80, Tryz.ntmps80
 go_wp2_with fail
 refine HC.out.mono ?_
 rintro e w1 ⟨rfl, hb⟩
 have HB1 := Lib.hid (HB.out.trans (hb.mono HB.out.size))
 clear hb
 go_wp2_with fail
 go_ret
 exact ⟨rfl, HB1.out⟩
set_option maxHeartbeats 800000 in
theorem rightNames_any (A : Option Addr) (c : Nat) (ws : List Wd) (hn : ws.length ≤ 1099511627776) (w : World) (hA : Sl w w.heap.size A (wcs ws)) :
 Calls Tryz.prog 35 #[.slice A ws.length c] w fun e w' => e = .returned (.bool (wrB ws)) ∧ Below w.heap.size w w' := by
 have HC := Lib.hid (containsW_any (F := 80) (caps := #[]) (g := fun x => !NM.right x.s) (KK := fun _ => True) (fun _ _ => by kernel_rfl) A c ws hn (fun z _ w _ => rightNames1_any z w) (fun _ _ _ _ => trivial) w trivial hA)
 have HE : Hid (wrB ws = !(ws.any fun x => !NM.right x.s)) := by
  show wrB ws = _
  unfold wrB
  rw [List.not_any_eq_all_not]
  simp
 rw [HE.out]
 clear hA
 generalize (ws.any fun x => !NM.right x.s) = q at *
 generalize ws.length = n at *
 go_enter Tryz.func35, Tryz.ntmps35
 go_wp2_with fail
 refine HC.out.mono ?_
 rintro e w1 ⟨rfl, hb⟩
 have HB := Lib.hid hb
 clear hb
 go_wp2_with fail
 go_ret
 exact ⟨rfl, HB.out⟩
set_option maxHeartbeats 1600000 in
theorem all1_any {G : FuncId} {r : Bool} (hf : ∀ args w, (callFunc G args).run Tryz.prog w = .ok (.enter G args) w) (z : Nd) (bx : Nat) (w : World) (hb : RowAt w bx 44 #[.func (.func G) #[] #[]])
 (HG : ∀ w', Below w.heap.size w w' → Calls Tryz.prog G #[.agg (nv z)] w' fun e w'' => e = .returned (.bool r) ∧ Below w'.heap.size w' w'') :
 Calls Tryz.prog 82 (#[.agg (nv z)] ++ #[.pointer (some ⟨bx, 0, none⟩)]) w fun e w' => e = .returned (.bool (!r)) ∧ Below w.heap.size w w' := by
 obtain ⟨zk, zp, zs, zA, zc, zw, zB, zd, zz⟩ := z
 have hn := RowAt.new w 28 (nv (.mk zk zp zs zA zc zw zB zd zz))
 have HB : Hid (Below w.heap.size w (w.alloc (.cells (nv (.mk zk zp zs zA zc zw zB zd zz)) 28))) := (Below.refl _ _).alloc (Nat.le_refl _) _
 have HC := Lib.hid (HG _ HB.out)
 have hbx := hb.lt
 have q0 := ((hb.alloc (.cells (nv (.mk zk zp zs zA zc zw zB zd zz)) 28)).cell 0).trans rfl
 have q0' := (hb.cell 0).trans rfl
 clear hb HG
 unfold nv at hn HB HC q0 ⊢
 simp only [Nd.k, Nd.p, Nd.s, Nd.A, Nd.c, Nd.ws, Nd.B, Nd.d, Nd.ks] at hn HB HC q0 ⊢
 obtain ⟨m0, m1, m2, m3, m4, _, _, _, _, _⟩ := row5 hn
 clear hn
 show Calls _ _ #[.agg #[.int .i64 zk, .int .i64 zp, .string zs, .slice zA zw.length zc, .slice zB zz.length zd], .pointer (some ⟨bx, 0, none⟩)] _ _
 go_enter Tryz.func82, Tryz.ntmps82
 go_wp2_with fail
 refine HC.out.mono ?_
 rintro e w1 ⟨rfl, hb⟩
 have HB1 := Lib.hid (HB.out.trans (hb.mono HB.out.size))
 clear hb
 go_wp2_with fail
 go_ret
 exact ⟨rfl, HB1.out⟩
set_option maxHeartbeats 1600000 in
theorem all_any {G : FuncId} {g : Nd → Bool} (hf : ∀ args w, (callFunc G args).run Tryz.prog w = .ok (.enter G args) w) (A : Option Addr) (c : Nat) (zs : List Nd) (hn : zs.length ≤ 1099511627776)
 (w : World) (hA : Sl w w.heap.size A (ncs zs)) (HG : ∀ z ∈ zs, ∀ w', Below w.heap.size w w' → Calls Tryz.prog G #[.agg (nv z)] w' fun e w'' => e = .returned (.bool (g z)) ∧ Below w'.heap.size w' w'') :
 Calls Tryz.prog 37 #[.slice A zs.length c, .func (.func G) #[] #[]] w fun e w' => e = .returned (.bool (zs.all g)) ∧ Below w.heap.size w w' := by
 have hmf : ∀ (fn : Fn) (first cap : Array Value) (w : World), (Instr.makeFunc fn first cap).run Tryz.prog w = .ok (.func fn first cap) w := fun _ _ _ _ => rfl
 have hB : Below w.heap.size w (w.alloc (.cells #[.func (.func G) #[] #[]] 44)) := (Below.refl _ _).alloc (Nat.le_refl _) _
 have hb := RowAt.new w 44 #[.func (.func G) #[] #[]]
 have HC := Lib.hid (containsN_any (F := 82) (caps := #[.pointer (some ⟨w.heap.size, 0, none⟩)]) (g := fun x => !g x) (KK := fun W => RowAt W w.heap.size 44 #[.func (.func G) #[] #[]] ∧ Below w.heap.size w W) (fun _ _ => by kernel_rfl) A c zs hn
  (fun z hz W hW => all1_any hf z w.heap.size W hW.1 fun w' hw => HG z hz w' (hW.2.trans (hw.mono hW.2.size))) (fun wa wb h hb => ⟨h.1.below hb h.1.lt, h.2.trans (hb.mono h.2.size)⟩) _ ⟨hb, hB⟩ ((hA.below hB).mono hB.size))
 have HE : Hid (zs.all g = !(zs.any fun x => !g x)) := by
  show zs.all g = _
  rw [List.not_any_eq_all_not]
  simp
 have HB := Lib.hid hB
 rw [HE.out]
 clear hA HG hB hb
 generalize (zs.any fun x => !g x) = q at *
 generalize zs.length = n at *
 go_enter Tryz.func37, Tryz.ntmps37
 go_wp2_with fail
 refine HC.out.mono ?_
 rintro e w1 ⟨rfl, hb⟩
 have HB1 := Lib.hid (HB.out.trans (hb.mono HB.out.size))
 clear hb
 go_wp2_with fail
 go_ret
 exact ⟨rfl, HB1.out⟩
end Go.Proofs.YtkgonoejnochjaaGreatDoor
namespace Go.Proofs.YtkgonoejnochjaaGreatDoor
open Go.RowKit LX TR TM
theorem empty_no {s : ByteArray} (h : ¬ s = ⟨#[]⟩) : s.toList.isEmpty = false := by
 have h3 := NM.str_eq s ⟨#[]⟩
 rw [decide_eq_false h, Lib.toList_data, Lib.toList_data] at h3
 rw [Lib.toList_data]
 cases hh : s.data.toList with
 | nil => rw [hh] at h3; simp at h3
 | cons a b => rfl
theorem empty_no2 {s : ByteArray} (h : ¬ s = ⟨#[]⟩) : ¬ s.toList = [] := fun e => by
 have h1 := empty_no h
 rw [e] at h1
 simp at h1
set_option maxRecDepth 100000 in
set_option maxHeartbeats 1600000 in
theorem leaf_any (z : Nd) (w : World) : Calls Tryz.prog 34 #[.agg (nv z)] w fun e w' => e = .returned (.bool (leafB z.s z.ws z.ks.length)) ∧ Below w.heap.size w w' := by
 obtain ⟨zk, zp, zs, zA, zc, zw, zB, zd, zz⟩ := z
 have hn := RowAt.new w 28 #[.int .i64 zk, .int .i64 zp, .string zs, .slice zA zw.length zc, .slice zB zz.length zd]
 have hB : Below w.heap.size w (w.alloc (.cells #[.int .i64 zk, .int .i64 zp, .string zs, .slice zA zw.length zc, .slice zB zz.length zd] 28)) := (Below.refl _ _).alloc (Nat.le_refl _) _
 have HB := Lib.hid hB
 have HR := Lib.hid hn
 obtain ⟨m0, m1, m2, m3, m4, _, _, _, _, _⟩ := row5 hn
 unfold nv
 simp only [Nd.k, Nd.p, Nd.s, Nd.A, Nd.c, Nd.ws, Nd.B, Nd.d, Nd.ks]
 clear hn
 have HC := Lib.hid (right_any zs (w.alloc (.cells #[.int .i64 zk, .int .i64 zp, .string zs, .slice zA zw.length zc, .slice zB zz.length zd] 28)))
 have HX : Hid (leafB zs zw zz.length = (NM.right zs && (decide (zw.length = 0) && decide (zz.length = 0)))) := rfl
 clear hB
 rw [HX.out]
 generalize NM.right zs = r at *
 generalize zw.length = nw at *
 generalize zz.length = nz at *
 cases r
 ·go_enter Tryz.func34, Tryz.ntmps34
  go_wp2_with fail
  refine HC.out.mono ?_
  rintro e' w2 ⟨rfl, hb⟩
  have HB2 := Lib.hid (HB.out.trans (hb.mono HB.out.size))
  have hr2 := HR.out.below hb HR.out.lt
  obtain ⟨m0, m1, m2, m3, m4, _, _, _, _, _⟩ := row5 hr2
  have HR2 := Lib.hid hr2
  clear hr2
  clear hb
  go_wp2_with fail
  go_ret
  exact ⟨ret_eq (bool_eq (by rfl)), HB2.out⟩
 ·by_cases hw : nw ≤ 0
  ·by_cases hz : nz ≤ 0
   ·go_enter Tryz.func34, Tryz.ntmps34
    go_wp2_with fail
    refine HC.out.mono ?_
    rintro e' w2 ⟨rfl, hb⟩
    have HB2 := Lib.hid (HB.out.trans (hb.mono HB.out.size))
    have hr2 := HR.out.below hb HR.out.lt
    obtain ⟨m0, m1, m2, m3, m4, _, _, _, _, _⟩ := row5 hr2
    have HR2 := Lib.hid hr2
    clear hr2
    clear hb
    go_wp2_with fail
    go_ret
    exact ⟨ret_eq (bool_eq (by first | simp [show nw = 0 by omega, show nz = 0 by omega] | simp [show nw = 0 by omega, show ¬ nz = 0 by omega])), HB2.out⟩
   ·go_enter Tryz.func34, Tryz.ntmps34
    go_wp2_with fail
    refine HC.out.mono ?_
    rintro e' w2 ⟨rfl, hb⟩
    have HB2 := Lib.hid (HB.out.trans (hb.mono HB.out.size))
    have hr2 := HR.out.below hb HR.out.lt
    obtain ⟨m0, m1, m2, m3, m4, _, _, _, _, _⟩ := row5 hr2
    have HR2 := Lib.hid hr2
    clear hr2
    clear hb
    go_wp2_with fail
    go_ret
    exact ⟨ret_eq (bool_eq (by first | simp [show nw = 0 by omega, show nz = 0 by omega] | simp [show nw = 0 by omega, show ¬ nz = 0 by omega])), HB2.out⟩
  ·go_enter Tryz.func34, Tryz.ntmps34
   go_wp2_with fail
   refine HC.out.mono ?_
   rintro e' w2 ⟨rfl, hb⟩
   have HB2 := Lib.hid (HB.out.trans (hb.mono HB.out.size))
   have hr2 := HR.out.below hb HR.out.lt
   obtain ⟨m0, m1, m2, m3, m4, _, _, _, _, _⟩ := row5 hr2
   have HR2 := Lib.hid hr2
   clear hr2
   clear hb
   go_wp2_with fail
   go_ret
   exact ⟨ret_eq (bool_eq (by first | simp [show nw = 0 by omega] | simp [show ¬ nw = 0 by omega])), HB2.out⟩
set_option maxRecDepth 100000 in
set_option maxHeartbeats 1600000 in
theorem branch_any (z : Nd) (w : World) : Calls Tryz.prog 36 #[.agg (nv z)] w fun e w' => e = .returned (.bool (brB z.s z.ws)) ∧ Below w.heap.size w w' := by
 obtain ⟨zk, zp, zs, zA, zc, zw, zB, zd, zz⟩ := z
 have hn := RowAt.new w 28 #[.int .i64 zk, .int .i64 zp, .string zs, .slice zA zw.length zc, .slice zB zz.length zd]
 have hB : Below w.heap.size w (w.alloc (.cells #[.int .i64 zk, .int .i64 zp, .string zs, .slice zA zw.length zc, .slice zB zz.length zd] 28)) := (Below.refl _ _).alloc (Nat.le_refl _) _
 have HB := Lib.hid hB
 have HR := Lib.hid hn
 obtain ⟨m0, m1, m2, m3, m4, _, _, _, _, _⟩ := row5 hn
 unfold nv
 simp only [Nd.k, Nd.p, Nd.s, Nd.A, Nd.c, Nd.ws, Nd.B, Nd.d, Nd.ks]
 clear hn
 have HX : Hid (brB zs zw = (decide (zs = ⟨#[]⟩) && decide (zw.length = 0))) := rfl
 clear hB
 rw [HX.out]
 generalize zw.length = nw at *
 generalize zz.length = nz at *
 by_cases hs : zs = ⟨#[]⟩
 ·subst hs
  by_cases hw : nw ≤ 0
  ·go_enter Tryz.func36, Tryz.ntmps36
   go_wp2_with fail
   go_ret
   exact ⟨ret_eq (bool_eq (by rw [Bool.eq_iff_iff]; simp <;> omega)), HB.out⟩
  ·go_enter Tryz.func36, Tryz.ntmps36
   go_wp2_with fail
   go_ret
   exact ⟨ret_eq (bool_eq (by rw [Bool.eq_iff_iff]; simp <;> omega)), HB.out⟩
 ·have q2 := empty_no hs
  have q3 := empty_no2 hs
  go_enter Tryz.func36, Tryz.ntmps36
  go_wp2_with fail
  go_ret
  exact ⟨ret_eq (bool_eq (by simp [hs])), HB.out⟩
set_option maxRecDepth 100000 in
set_option maxHeartbeats 1600000 in
theorem isRule_any (z : Nd) (w : World) (hz : z.ws.length ≤ 1099511627776) (hN : Sl w w.heap.size z.A (wcs z.ws)) : Calls Tryz.prog 38 #[.agg (nv z)] w fun e w' => e = .returned (.bool (ruB z.k z.s z.ws z.ks.length)) ∧ Below w.heap.size w w' := by
 obtain ⟨zk, zp, zs, zA, zc, zw, zB, zd, zz⟩ := z
 have hn := RowAt.new w 28 #[.int .i64 zk, .int .i64 zp, .string zs, .slice zA zw.length zc, .slice zB zz.length zd]
 have hB : Below w.heap.size w (w.alloc (.cells #[.int .i64 zk, .int .i64 zp, .string zs, .slice zA zw.length zc, .slice zB zz.length zd] 28)) := (Below.refl _ _).alloc (Nat.le_refl _) _
 have HB := Lib.hid hB
 have HR := Lib.hid hn
 obtain ⟨m0, m1, m2, m3, m4, _, _, _, _, _⟩ := row5 hn
 unfold nv
 simp only [Nd.k, Nd.p, Nd.s, Nd.A, Nd.c, Nd.ws, Nd.B, Nd.d, Nd.ks]
 clear hn
 simp only [Nd.A, Nd.ws] at hz hN
 have HC := Lib.hid (right_any zs (w.alloc (.cells #[.int .i64 zk, .int .i64 zp, .string zs, .slice zA zw.length zc, .slice zB zz.length zd] 28)))
 have HN := Lib.hid (fun W (h : Below w.heap.size w W) => rightNames_any zA zc zw hz W ((hN.below h).mono h.size))
 have HX : Hid (ruB zk zs zw zz.length = (decide (zk = 6) && (NM.right zs && (decide (zz.length = 0) && wrB zw)))) := rfl
 clear hB hN
 rw [HX.out]
 generalize NM.right zs = r at *
 generalize wrB zw = rw' at *
 generalize zw.length = nw at *
 generalize zz.length = nz at *
 by_cases hk : zk = 6
 ·subst hk
  cases r
  ·go_enter Tryz.func38, Tryz.ntmps38
   go_wp2_with fail
   refine HC.out.mono ?_
   rintro e' w2 ⟨rfl, hb⟩
   have HB2 := Lib.hid (HB.out.trans (hb.mono HB.out.size))
   have hr2 := HR.out.below hb HR.out.lt
   obtain ⟨m0, m1, m2, m3, m4, _, _, _, _, _⟩ := row5 hr2
   have HR2 := Lib.hid hr2
   clear hr2
   clear hb
   go_wp2_with fail
   go_ret
   exact ⟨ret_eq (bool_eq (by simp)), HB2.out⟩
  ·by_cases hz : nz ≤ 0
   ·go_enter Tryz.func38, Tryz.ntmps38
    go_wp2_with fail
    refine HC.out.mono ?_
    rintro e' w2 ⟨rfl, hb⟩
    have HB2 := Lib.hid (HB.out.trans (hb.mono HB.out.size))
    have hr2 := HR.out.below hb HR.out.lt
    obtain ⟨m0, m1, m2, m3, m4, _, _, _, _, _⟩ := row5 hr2
    have HR2 := Lib.hid hr2
    clear hr2
    clear hb
    go_wp2_with fail
    refine (HN.out _ HB2.out).mono ?_
    rintro e' w3 ⟨rfl, hb⟩
    have HB3 := Lib.hid (HB2.out.trans (hb.mono HB2.out.size))
    clear hb
    go_wp2_with fail
    go_ret
    exact ⟨ret_eq (bool_eq (by first | simp [show nz = 0 by omega] | simp [show ¬ nz = 0 by omega])), HB3.out⟩
   ·go_enter Tryz.func38, Tryz.ntmps38
    go_wp2_with fail
    refine HC.out.mono ?_
    rintro e' w2 ⟨rfl, hb⟩
    have HB2 := Lib.hid (HB.out.trans (hb.mono HB.out.size))
    have hr2 := HR.out.below hb HR.out.lt
    obtain ⟨m0, m1, m2, m3, m4, _, _, _, _, _⟩ := row5 hr2
    have HR2 := Lib.hid hr2
    clear hr2
    clear hb
    go_wp2_with fail
    go_ret
    exact ⟨ret_eq (bool_eq (by first | simp [show nz = 0 by omega] | simp [show ¬ nz = 0 by omega])), HB2.out⟩
 ·have q6 : (zk == 6) = false := by rw [beq_eq_false_iff_ne]; exact hk
  go_enter Tryz.func38, Tryz.ntmps38
  go_wp2_with fail
  go_ret
  exact ⟨ret_eq (bool_eq (by simp [hk])), HB.out⟩
end Go.Proofs.YtkgonoejnochjaaGreatDoor
namespace Go.Proofs.YtkgonoejnochjaaGreatDoor
open Go.RowKit LX TR TM
theorem fls_all (zz : List Nd) (g : Fl → Bool) : (fls zz).all g = zz.all (fun y => g (fl y)) := by rw [fls_map, List.all_map]; rfl
set_option maxRecDepth 100000 in
set_option maxHeartbeats 3200000 in
theorem isConst_step (N : Nat) (hN : N ≤ 4294967296) (ih : ∀ y, cnt [y] ≤ N → ∀ w, Nods w w.heap.size [y] → Calls Tryz.prog 18 #[.agg (nv y)] w fun e w' => e = .returned (.bool (fl y).c) ∧ Below w.heap.size w w') (z : Nd) (hz : cnt [z] ≤ N + 1) (w : World) (hnd : Nods w w.heap.size [z]) :
 Calls Tryz.prog 18 #[.agg (nv z)] w fun e w' => e = .returned (.bool (fl z).c) ∧ Below w.heap.size w w' := by
 obtain ⟨zk, zp, zs, zA, zc, zw, zB, zd, zz⟩ := z
 have hn := RowAt.new w 28 #[.int .i64 zk, .int .i64 zp, .string zs, .slice zA zw.length zc, .slice zB zz.length zd]
 have hB : Below w.heap.size w (w.alloc (.cells #[.int .i64 zk, .int .i64 zp, .string zs, .slice zA zw.length zc, .slice zB zz.length zd] 28)) := (Below.refl _ _).alloc (Nat.le_refl _) _
 have HB := Lib.hid hB
 have HR := Lib.hid hn
 obtain ⟨m0, m1, m2, m3, m4, _, _, _, _, _⟩ := row5 hn
 have hcz : 1 + zw.length + cnt zz ≤ N + 1 := by rw [cnt_cons] at hz; simp only [cnt, Nat.add_zero] at hz; exact hz
 have hzl := length_cnt zz
 have HSW := Lib.hid (fun W (h : Below w.heap.size w W) => (hnd.at.1.1.below h).mono h.size)
 have HSK := Lib.hid (fun W (h : Below w.heap.size w W) => (hnd.at.2.1.below h).mono h.size)
 have HLF := Lib.hid (leaf_any (.mk zk zp zs zA zc zw zB zd zz) (w.alloc (.cells #[.int .i64 zk, .int .i64 zp, .string zs, .slice zA zw.length zc, .slice zB zz.length zd] 28)))
 have HBR := Lib.hid (branch_any (.mk zk zp zs zA zc zw zB zd zz) (w.alloc (.cells #[.int .i64 zk, .int .i64 zp, .string zs, .slice zA zw.length zc, .slice zB zz.length zd] 28)))
 have HRN := Lib.hid (fun W (h : Below w.heap.size w W) => rightNames_any zA zc zw (by omega) W (HSW.out W h))
 unfold nv at HLF HBR ⊢
 simp only [Nd.k, Nd.p, Nd.s, Nd.A, Nd.c, Nd.ws, Nd.B, Nd.d, Nd.ks] at HLF HBR HSW HSK HRN ⊢
 clear hn
 have HK := Lib.hid (fun W (h : Below w.heap.size w W) => all_any (G := 18) (g := fun y => (fl y).c) (fun _ _ => by kernel_rfl) zB zd zz (by omega) W (HSK.out W h) (fun y hy w' hw => ih y (by
  have h1 := cnt_mem hy
  rw [cnt_cons]
  simp only [cnt, Nat.add_zero]
  omega) w' (((hnd.kids.mem hy).below (h.trans (hw.mono h.size))).mono (Nat.le_trans h.size hw.size))))
 have HU := Lib.hid (fun W (h : Below w.heap.size w W) => all_any (G := 38) (g := fun y => (fl y).ru) (fun _ _ => by kernel_rfl) zB zd zz (by omega) W (HSK.out W h) (fun y hy w' hw => by
  have h2 := ((hnd.kids.mem hy).below (h.trans (hw.mono h.size))).mono (Nat.le_trans h.size hw.size)
  have h3 := isRule_any y w' (by have h1 := cnt_mem hy; omega) h2.at.1.1
  rw [← fls_length] at h3
  exact h3))
 rw [← fls_all zz (fun y => y.c)] at HK
 rw [← fls_all zz (fun y => y.ru)] at HU
 have hfl := fls_length zz
 show Calls _ _ _ _ fun e w' => e = .returned (.bool (cB zk zs zw (fls zz))) ∧ _
 clear hB hnd ih hz
 by_cases h2 : zk = 2
 ·subst h2
  rw [show cB 2 zs zw (fls zz) = leafB zs zw zz.length by rw [← hfl]; simp [cB]]
  generalize leafB zs zw zz.length = q at *
  generalize zw.length = nw at *
  generalize zz.length = nz at *
  go_enter Tryz.func18, Tryz.ntmps18
  go_wp2_with fail
  refine HLF.out.mono ?_
  rintro e' w2 ⟨rfl, hb⟩
  have HB2 := Lib.hid (HB.out.trans (hb.mono HB.out.size))
  have hr2 := HR.out.below hb HR.out.lt
  obtain ⟨m0, m1, m2, m3, m4, _, _, _, _, _⟩ := row5 hr2
  have HR2 := Lib.hid hr2
  clear hb hr2
  go_wp2_with fail
  go_ret
  exact ⟨ret_eq (bool_eq (by rfl)), HB2.out⟩
 ·by_cases h3 : zk = 3
  ·subst h3
   rw [show cB 3 zs zw (fls zz) = (decide (zs = ⟨#[]⟩) && (decide (zz.length = 0) && wrB zw)) by rw [← hfl]; simp [cB]]
   generalize wrB zw = rr at *
   generalize zw.length = nw at *
   generalize zz.length = nz at *
   by_cases hs : zs = ⟨#[]⟩
   ·subst hs
    by_cases hnz : nz ≤ 0
    ·have qz : ((nz : Int) == 0) = true := by rw [beq_iff_eq]; omega
     have HNZ := Lib.hid hnz
     clear hnz hfl hzl hcz
     go_enter Tryz.func18, Tryz.ntmps18
     go_wp2_with fail
     refine (HRN.out _ HB.out).mono ?_
     rintro e' w2 ⟨rfl, hb⟩
     have HB2 := Lib.hid (HB.out.trans (hb.mono HB.out.size))
     have hr2 := HR.out.below hb HR.out.lt
     obtain ⟨m0, m1, m2, m3, m4, _, _, _, _, _⟩ := row5 hr2
     have HR2 := Lib.hid hr2
     clear hb hr2
     go_wp2_with fail
     go_ret
     exact ⟨ret_eq (bool_eq (by have := HNZ.out; simp [show nz = 0 by omega])), HB2.out⟩
    ·go_enter Tryz.func18, Tryz.ntmps18
     go_wp2_with fail
     go_ret
     exact ⟨ret_eq (bool_eq (by simp [show ¬ nz = 0 by omega])), HB.out⟩
   ·have p2 := empty_no hs
    have p3 := empty_no2 hs
    go_enter Tryz.func18, Tryz.ntmps18
    go_wp2_with fail
    go_ret
    exact ⟨ret_eq (bool_eq (by simp [hs])), HB.out⟩
  ·by_cases h4 : zk = 4
   ·subst h4
    rw [show cB 4 zs zw (fls zz) = (brB zs zw && (decide (0 < zz.length) && (fls zz).all (fun y => y.c))) by rw [← hfl]; simp [cB]]
    generalize brB zs zw = d at *
    generalize (fls zz).all (fun y => y.c) = rr at *
    generalize zw.length = nw at *
    generalize zz.length = nz at *
    cases d
    ·go_enter Tryz.func18, Tryz.ntmps18
     go_wp2_with fail
     refine HBR.out.mono ?_
     rintro e' w2 ⟨rfl, hb⟩
     have HB2 := Lib.hid (HB.out.trans (hb.mono HB.out.size))
     have hr2 := HR.out.below hb HR.out.lt
     obtain ⟨m0, m1, m2, m3, m4, _, _, _, _, _⟩ := row5 hr2
     have HR2 := Lib.hid hr2
     clear hb hr2
     go_wp2_with fail
     go_ret
     exact ⟨ret_eq (bool_eq (by rfl)), HB2.out⟩
    ·by_cases hnz : 0 < nz
     ·go_enter Tryz.func18, Tryz.ntmps18
      go_wp2_with fail
      refine HBR.out.mono ?_
      rintro e' w2 ⟨rfl, hb⟩
      have HB2 := Lib.hid (HB.out.trans (hb.mono HB.out.size))
      have hr2 := HR.out.below hb HR.out.lt
      obtain ⟨m0, m1, m2, m3, m4, _, _, _, _, _⟩ := row5 hr2
      have HR2 := Lib.hid hr2
      clear hb hr2
      go_wp2_with fail
      refine (HK.out _ HB2.out).mono ?_
      rintro e' w3 ⟨rfl, hb⟩
      have HB3 := Lib.hid (HB2.out.trans (hb.mono HB2.out.size))
      clear hb
      go_wp2_with fail
      go_ret
      exact ⟨ret_eq (bool_eq (by simp [hnz])), HB3.out⟩
     ·go_enter Tryz.func18, Tryz.ntmps18
      go_wp2_with fail
      refine HBR.out.mono ?_
      rintro e' w2 ⟨rfl, hb⟩
      have HB2 := Lib.hid (HB.out.trans (hb.mono HB.out.size))
      have hr2 := HR.out.below hb HR.out.lt
      obtain ⟨m0, m1, m2, m3, m4, _, _, _, _, _⟩ := row5 hr2
      have HR2 := Lib.hid hr2
      clear hb hr2
      go_wp2_with fail
      go_ret
      exact ⟨ret_eq (bool_eq (by simp [hnz])), HB2.out⟩
   ·by_cases h5 : zk = 5
    ·subst h5
     rw [show cB 5 zs zw (fls zz) = (brB zs zw && (fls zz).all (fun y => y.ru)) by simp [cB]]
     generalize brB zs zw = d at *
     generalize (fls zz).all (fun y => y.ru) = rr at *
     generalize zw.length = nw at *
     generalize zz.length = nz at *
     cases d
     ·go_enter Tryz.func18, Tryz.ntmps18
      go_wp2_with fail
      refine HBR.out.mono ?_
      rintro e' w2 ⟨rfl, hb⟩
      have HB2 := Lib.hid (HB.out.trans (hb.mono HB.out.size))
      have hr2 := HR.out.below hb HR.out.lt
      obtain ⟨m0, m1, m2, m3, m4, _, _, _, _, _⟩ := row5 hr2
      have HR2 := Lib.hid hr2
      clear hb hr2
      go_wp2_with fail
      go_ret
      exact ⟨ret_eq (bool_eq (by rfl)), HB2.out⟩
     ·go_enter Tryz.func18, Tryz.ntmps18
      go_wp2_with fail
      refine HBR.out.mono ?_
      rintro e' w2 ⟨rfl, hb⟩
      have HB2 := Lib.hid (HB.out.trans (hb.mono HB.out.size))
      have hr2 := HR.out.below hb HR.out.lt
      obtain ⟨m0, m1, m2, m3, m4, _, _, _, _, _⟩ := row5 hr2
      have HR2 := Lib.hid hr2
      clear hb hr2
      go_wp2_with fail
      refine (HU.out _ HB2.out).mono ?_
      rintro e' w3 ⟨rfl, hb⟩
      have HB3 := Lib.hid (HB2.out.trans (hb.mono HB2.out.size))
      clear hb
      go_wp2_with fail
      go_ret
      exact ⟨ret_eq (bool_eq (by rfl)), HB3.out⟩
    ·rw [show cB zk zs zw (fls zz) = false by simp [cB, h2, h3, h4, h5]]
     have q2 : (zk == 2) = false := by rw [beq_eq_false_iff_ne]; exact h2
     have q3 : (zk == 3) = false := by rw [beq_eq_false_iff_ne]; exact h3
     have q4 : (zk == 4) = false := by rw [beq_eq_false_iff_ne]; exact h4
     have q5 : (zk == 5) = false := by rw [beq_eq_false_iff_ne]; exact h5
     generalize zw.length = nw at *
     generalize zz.length = nz at *
     go_enter Tryz.func18, Tryz.ntmps18
     go_wp2_with fail
     go_ret
     exact ⟨ret_eq (bool_eq (by rfl)), HB.out⟩
theorem isConst_any : ∀ N, N ≤ 4294967296 → ∀ y, cnt [y] ≤ N → ∀ w, Nods w w.heap.size [y] → Calls Tryz.prog 18 #[.agg (nv y)] w fun e w' => e = .returned (.bool (fl y).c) ∧ Below w.heap.size w w' := by
 intro N
 induction N with
 | zero => intro _ z hz; rw [cnt_cons] at hz; omega
 | succ N ih => intro h z hz; exact isConst_step N (by omega) (ih (by omega)) z hz
end Go.Proofs.YtkgonoejnochjaaGreatDoor
namespace Go.Proofs.YtkgonoejnochjaaGreatDoor
open Go.RowKit LX TR TM
end Go.Proofs.YtkgonoejnochjaaGreatDoor
namespace Go.Proofs.YtkgonoejnochjaaGreatDoor
open Go.RowKit LX TR TM
end Go.Proofs.YtkgonoejnochjaaGreatDoor
namespace Go.Proofs.YtkgonoejnochjaaGreatDoor
namespace TM
theorem getD_memL {α : Type} {l : List α} {i : Nat} {z : α} (h : i < l.length) : l.getD i z ∈ l := by
 rw [List.getD_eq_getElem?_getD, List.getElem?_eq_getElem h]
 exact List.getElem_mem h
end TM
open Go.RowKit LX TR TM
end Go.Proofs.YtkgonoejnochjaaGreatDoor
namespace Go.Proofs.YtkgonoejnochjaaGreatDoor
namespace TM
end TM
open Go.RowKit LX TR TM
end Go.Proofs.YtkgonoejnochjaaGreatDoor
namespace Go.Proofs.YtkgonoejnochjaaGreatDoor
open Go.RowKit LX TR TM
theorem below_cell {B : Nat} {w w' : World} (h : Below B w w') {b o : Nat} (hb : b < B) : w'.cell? ⟨b, o, none⟩ = w.cell? ⟨b, o, none⟩ := by
 simp only [World.cell?]
 rw [h.block b hb]
end Go.Proofs.YtkgonoejnochjaaGreatDoor

