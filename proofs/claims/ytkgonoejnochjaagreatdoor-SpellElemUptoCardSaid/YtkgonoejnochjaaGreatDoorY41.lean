/- Texts that SpellElemCard, SpellSoundCard need. Conditions: those that each states. -/

import Derived.Test.YtkgonoejnochjaaGreatDoorY20
import Derived.Test.YtkgonoejnochjaaGreatDoorY22
import Derived.Test.YtkgonoejnochjaaGreatDoorY40
set_option linter.unusedSimpArgs false
set_option linter.unusedVariables false
set_option maxRecDepth 8000
namespace Go.Proofs.YtkgonoejnochjaaGreatDoor
namespace TM
end TM
open Go.RowKit LX TR TM
set_option maxRecDepth 100000 in
set_option maxHeartbeats 1600000 in
theorem big10_any (A : Option Addr) (c : Nat) (zs : List Nd) (hn : zs.length ≤ 1099511627776) (hz : ∀ z ∈ zs, cnt [z] ≤ 4294967296) (w : World) (hA : Sl w w.heap.size A (ncs zs)) (hnd : ∀ z ∈ zs, Nods w w.heap.size [z]) :
 Calls Tryz.prog 8 #[.slice A zs.length c] w fun e w' => e = .returned (.bool (zs.any fun z => decide (300 < cnt [z]))) ∧ Below w.heap.size w w' := by
 have HA := Lib.hid hA; clear hA
 have HFF : Hid (∀ i, i < zs.length → ∀ W, Below w.heap.size w W → Calls Tryz.prog 21 #[.agg (nv (zs.getD i n0))] W fun e w' => e = .returned (.int .i64 (cnt [zs.getD i n0] : Int)) ∧ Below W.heap.size W w') := fun i hi W h => by
  have hm : zs.getD i n0 ∈ zs := by
   rw [List.getD_eq_getElem?_getD, List.getElem?_eq_getElem hi]
   exact List.getElem_mem hi
  exact many10_any 4294967296 (by omega) _ (hz _ hm) W (((hnd _ hm).below h).mono h.size)
 have HLE : Hid (∀ i, i < zs.length → cnt [zs.getD i n0] ≤ 4294967296) := fun i hi => by
  refine hz _ ?_
  rw [List.getD_eq_getElem?_getD, List.getElem?_eq_getElem hi]
  exact List.getElem_mem hi
 clear hz hnd
 have HHIT : Hid (∀ i, i < zs.length → 300 < cnt [zs.getD i n0] → (zs.any fun z => decide (300 < cnt [z])) = true) := fun i hi h => by
  rw [List.any_eq_true]
  refine ⟨_, ?_, decide_eq_true h⟩
  rw [List.getD_eq_getElem?_getD, List.getElem?_eq_getElem hi]
  exact List.getElem_mem hi
 have HMISS : Hid ((∀ j, j < zs.length → ¬ 300 < cnt [zs.getD j n0]) → (zs.any fun z => decide (300 < cnt [z])) = false) := fun h => by
  rw [List.any_eq_false]
  intro x hx
  obtain ⟨j, hj, rfl⟩ := List.mem_iff_getElem.1 hx
  have := h j hj
  rw [List.getD_eq_getElem?_getD, List.getElem?_eq_getElem hj, Option.getD_some] at this
  simpa using this
 generalize (zs.any fun z => decide (300 < cnt [z])) = r at *
 generalize hm : zs.length = n at *
 have HN := Lib.hid hm; clear hm
 go_enter Tryz.func8, Tryz.ntmps8
 go_wp2_with fail
 go_loopw [7] (fun iv wr => ∃ i : Nat, i ≤ n ∧ iv = .int .i64 i ∧ Hid (∀ j, j < i → ¬ 300 < cnt [zs.getD j n0]) ∧ Hid (Below w.heap.size w wr)) (fun iv _ => n - (intOf iv).toNat)
 case atStart => exact ⟨0, by omega, rfl, fun j hj => by omega, Below.refl _ _⟩
 case round =>
  obtain ⟨i, hi, rfl, HB, HW⟩ := hrel
  by_cases hlt : i < n
  ·obtain ⟨bb, o, rfl, hbb, hc⟩ := sl_at (z := n0) ncells_length (HA.out.below HW.out) (k := i) (by rw [HN.out]; exact hlt) (by omega)
   have q0 := hc i 0 _ (by rw [HN.out]; exact hlt) (by omega) rfl
   have q1 := hc i 1 _ (by rw [HN.out]; exact hlt) (by omega) rfl
   have q2 := hc i 2 _ (by rw [HN.out]; exact hlt) (by omega) rfl
   have q3 := hc i 3 _ (by rw [HN.out]; exact hlt) (by omega) rfl
   have q4 := hc i 4 _ (by rw [HN.out]; exact hlt) (by omega) rfl
   rw [Nat.add_zero] at q0
   rw [← Nat.add_assoc] at q1 q2 q3 q4
   have HC := Lib.hid (HFF.out i hlt)
   have HIN : Hid (¬ 300 < cnt [zs.getD i n0] → ∀ j, j < i + 1 → ¬ 300 < cnt [zs.getD j n0]) := fun h j hj => by
        by_cases e : j = i
        ·rw [e]; exact h
        ·exact HB.out j (by omega)
   have HYS := Lib.hid (HHIT.out i hlt)
   have hle := HLE.out i hlt
   have hin : (i : Int) < (n : Int) := by omega
   clear hc HB
   generalize cnt [zs.getD i n0] = q at *
   generalize zs.getD i n0 = z at *
   obtain ⟨zk, zp, zs9, zA, zc, zw, zB, zd, zz⟩ := z
   unfold nv at HC
   simp only [Nd.k, Nd.p, Nd.s, Nd.A, Nd.c, Nd.ws, Nd.B, Nd.d, Nd.ks] at q0 q1 q2 q3 q4 HC
   have hWa : Below wr.heap.size wr (wr.alloc (.cells #[.int .i64 zk, .int .i64 zp, .string zs9, .slice zA zw.length zc, .slice zB zz.length zd] 28)) := (Below.refl _ _).alloc (Nat.le_refl _) _
   have HWA := Lib.hid (HW.out.trans (hWa.mono HW.out.size))
   have HD := Lib.hid (HC.out _ HWA.out)
   have hra := RowAt.new wr 28 #[.int .i64 zk, .int .i64 zp, .string zs9, .slice zA zw.length zc, .slice zB zz.length zd]
   obtain ⟨m0, m1, m2, m3, m4, _, _, _, _, _⟩ := row5 hra
   clear hWa HC hra
   by_cases h3 : 300 < q
   ·have HYS2 := Lib.hid (HYS.out h3)
    clear HIN HYS
    go_wp2_with fail
    refine HD.out.mono ?_
    rintro e w4 ⟨rfl, hb⟩
    have HW4 := Lib.hid (HWA.out.trans (hb.mono HWA.out.size))
    clear hb
    go_wp2_with fail
    go_ret
    exact ⟨by rw [HYS2.out]; rfl, HW4.out⟩
   ·have HIN2 := Lib.hid (HIN.out h3)
    clear HIN HYS
    go_wp2_with fail
    refine HD.out.mono ?_
    rintro e w4 ⟨rfl, hb⟩
    have HW4 := Lib.hid (HWA.out.trans (hb.mono HWA.out.size))
    clear hb
    go_wp2_with fail
    go_roundw
    case rel => exact ⟨i + 1, by omega, by go_num, HIN2, HW4⟩
    case measure => simp [intOf]; omega
  ·obtain rfl : i = n := by omega
   have HNO := Lib.hid (HMISS.out HB.out)
   go_wp2_with fail
   go_ret
   exact ⟨by rw [HNO.out]; rfl, HW.out⟩
end Go.Proofs.YtkgonoejnochjaaGreatDoor
namespace Go.Proofs.YtkgonoejnochjaaGreatDoor
open Go.ChangeShapes Go.WideShapes Go.ChangeAt Go.RowKit LX TR
section
variable {H : Type} {enc : TypeId × Value → H} {w w2 : World} {r : Reach} {b0 : Nat}
end
theorem small_two {H : Type} {d e : DataW H} {l : List (DataW H)} (hk : Rows.uptoSmall H (d :: e :: l) = true) : Rows.uptoBulk d ≤ 1048576 ∧ Rows.uptoBulk e ≤ 1048576 := by
 have h : Rows.uptoBulkAll (d :: e :: l) ≤ 1048576 := of_decide_eq_true hk
 simp only [Rows.uptoBulkAll] at h
 omega
end Go.Proofs.YtkgonoejnochjaaGreatDoor
namespace Go.Proofs.YtkgonoejnochjaaGreatDoor
namespace TM
theorem vol_sum (l : List Nd) : vol l = (l.map fun z => vol [z]).sum := by
 induction l with
 | nil => simp [vol]
 | cons x r ih => rw [vol_cons, List.map_cons, List.sum_cons, ih]
end TM
open Go.ChangeShapes Go.WideShapes Go.ChangeAt Go.RowKit LX TR TM
section
variable {H : Type} {enc : TypeId × Value → H} {w w2 : World} {r : Reach} {b0 : Nat}
theorem list_of_any {α : Type} (z : α) {P : Nat → α → Prop} : ∀ n, (∀ i, i < n → ∃ f, P i f) → ∃ fs : List α, fs.length = n ∧ ∀ i, i < n → P i (fs.getD i z)
 | 0, _ => ⟨[], rfl, fun i hi => by omega⟩
 | n + 1, h => by
   obtain ⟨xs, hl, hx⟩ := list_of_any z n fun i hi => h i (by omega)
   obtain ⟨f, hp⟩ := h n (by omega)
   refine ⟨xs ++ [f], by simp [hl], fun i hi2 => ?_⟩
   by_cases e : i = n
   ·subst e
    rw [List.getD_eq_getElem?_getD, List.getElem?_append_right (by omega), hl]
    simpa using hp
   ·rw [List.getD_eq_getElem?_getD, List.getElem?_append_left (by omega), ← List.getD_eq_getElem?_getD]
    exact hx i (by omega)
theorem bulk_map {α : Type} (z : α) (bulk : α → Nat) : ∀ (l : List α) (es : List (DataW H)), l.length ≤ es.length → (∀ i, i < l.length → bulk (l.getD i z) ≤ Rows.uptoBulk (es.getD i .nil)) → (l.map bulk).sum ≤ Rows.uptoBulkAll es
 | [], _, _, _ => by simp
 | _ :: _, [], h, _ => by simp at h
 | x :: l, d :: es, h, hh => by
   have h1 := hh 0 (by simp)
   have h2 := bulk_map z bulk l es (by simpa using h) (fun i hi => by
     have := hh (i + 1) (by simpa using hi)
     simpa using this)
   simp only [List.getD_cons_zero] at h1
   simp only [List.map_cons, List.sum_cons, Rows.uptoBulkAll]
   omega
theorem slice_gen {α : Type} {rc : α → List Value} {k : Nat} (hk : ∀ x, (rc x).length = k) (hk0 : 0 < k) (z : α) {t e : TypeId} (ht : Tryz.prog.underlying t = some (.slice e)) (hc : Tryz.prog.cellsOf e = k) (bulk : α → Nat) (R : α → Prop) (fuel : Nat)
 (hel : ∀ m, m < fuel → ∀ (cs : List Value) (x : DataW H × List MemPlace), DataW.trod enc Tryz.prog w 0 (fun _ => true) true m e cs = some x → ∃ a, cs = rc a ∧ R a ∧ bulk a ≤ Rows.uptoBulk x.1)
 (cs : List Value) (x : DataW H × List MemPlace) (hf : DataW.trod enc Tryz.prog w 0 (fun _ => true) true fuel t cs = some x) :
 ∃ A c, ∃ l : List α, cs = [.slice A l.length c] ∧ l.length ≤ c ∧ Sl w w.heap.size A (l.flatMap rc) ∧ (∀ a ∈ l, R a) ∧ (l.map bulk).sum + 1 ≤ Rows.uptoBulk x.1 := by
 rcases DataW.trod_slice ht hf with ⟨hcs, rfl⟩ | ⟨a, len, cap, elems, rest, n, rfl, hcs, rfl, _, hl, _, hlen, hel2, _⟩
 ·exact ⟨none, 0, [], hcs, Nat.le_refl _, Sl.nil _ _ _, by simp, by simp [Rows.uptoBulk]⟩
 ·rw [hc] at hel2
  obtain ⟨l, hll, hlx⟩ := list_of_any z (P := fun i x => w.cells? 0 (a.add (i * k)) k = some (rc x) ∧ R x ∧ bulk x ≤ Rows.uptoBulk ((elems.map (·.1)).getD i .nil)) len fun i hi => by
   have h1 := hel2 i hi
   rw [List.getElem?_eq_getElem (by omega)] at h1
   obtain ⟨cs', hc1, hc2⟩ := Option.bind_eq_some_iff.1 h1
   obtain ⟨b, rfl, hR, hb⟩ := hel n (by omega) _ _ hc2
   refine ⟨b, hc1, hR, ?_⟩
   rw [List.getD_eq_getElem?_getD, List.getElem?_map, List.getElem?_eq_getElem (by omega)]
   exact hb
  subst hll
  refine ⟨some a, cap, l, hcs, hl, fun hne => ?_, fun y hy => ?_, ?_⟩
  ·have hp : 0 < l.length := by
        rcases Nat.eq_zero_or_pos l.length with h | h
        ·rw [List.eq_nil_of_length_eq_zero h] at hne; simp at hne
        ·exact h
   have hcell : ∀ i j, i < l.length → j < k → w.cell? ((a.add (i * k)).add j) = (rc (l.getD i z))[j]? := fun i j h1 h2 => by
        obtain ⟨_, _, hat⟩ := World.cells?_some (hlx i h1).1
        exact hat j h2
   obtain ⟨b, off, spot⟩ := a
   have h00 := hcell 0 0 hp hk0
   rw [List.getElem?_eq_getElem (by rw [hk]; exact hk0)] at h00
   have hspot : spot = none := by simpa [Addr.add] using World.cell?_spot h00
   subst hspot
   have hcc : ∀ i j, i < l.length → j < k → w.cell? ⟨b, off + i * k + j, none⟩ = (rc (l.getD i z))[j]? := fun i j h1 h2 => by
        rw [← hcell i j h1 h2, Go.WideShapes.add_plain, Go.WideShapes.add_plain]
   have h00' := hcc 0 0 hp hk0
   rw [List.getElem?_eq_getElem (by rw [hk]; exact hk0)] at h00'
   refine ⟨b, off, rfl, World.block_lt_of_cell? w ⟨b, off + 0 * k + 0, none⟩ h00', fun j u hu => ?_⟩
   have hj : j < l.length * k := by
        have := (List.getElem?_eq_some_iff.1 hu).1
        rw [fm_length hk] at this
        exact this
   have hdiv : j / k < l.length := Nat.div_lt_of_lt_mul (by rw [Nat.mul_comm]; exact hj)
   have hmod : j % k < k := Nat.mod_lt _ hk0
   have hdm : j / k * k + j % k = j := by rw [Nat.mul_comm]; exact Nat.div_add_mod j k
   have h1 := fm_at hk z l (j / k) (j % k) hdiv hmod
   rw [hdm] at h1
   have h2 := hcc (j / k) (j % k) hdiv hmod
   rw [Nat.add_assoc, hdm] at h2
   rw [h2, ← h1]; exact hu
  ·obtain ⟨i, hi, rfl⟩ := List.mem_iff_getElem.1 hy
   have h := hlx i hi
   rw [List.getD_eq_getElem?_getD, List.getElem?_eq_getElem hi, Option.getD_some] at h
   exact h.2.1
  ·have h := bulk_map z bulk l (elems.map (·.1)) (by rw [List.length_map]; omega) (fun i hi => (hlx i hi).2.2)
   simp only [Rows.uptoBulk]
   omega
theorem word_open {fuel : Nat} {cs : List Value} {x : DataW H × List MemPlace} (hf : DataW.trod enc Tryz.prog w 0 (fun _ => true) true fuel 54 cs = some x) : ∃ t : Wd, cs = wcells t ∧ True ∧ t.s.size + 1 ≤ Rows.uptoBulk x.1 := by
 obtain ⟨xs, m, _, hx, hsz, hlen, hat⟩ := DataW.trod_struct Tryz.underlying54 hf
 rw [show Tryz.prog.cellsOf 54 = 2 by kernel_rfl] at hsz
 have hlen2 : xs.length = 2 := hlen
 have h0 : DataW.trod enc Tryz.prog w 0 (fun _ => true) true m 9 (List.take (Tryz.prog.cellsOf 9) (List.drop 0 cs)) = xs[0]? := hat 0 _ rfl
 have h1 : DataW.trod enc Tryz.prog w 0 (fun _ => true) true m 3 (List.take (Tryz.prog.cellsOf 3) (List.drop 1 cs)) = xs[1]? := hat 1 _ rfl
 rw [List.getElem?_eq_getElem (by omega)] at h0 h1
 rw [show Tryz.prog.cellsOf 9 = 1 by kernel_rfl] at h0
 rw [show Tryz.prog.cellsOf 3 = 1 by kernel_rfl] at h1
 obtain ⟨s, e0, f0, _⟩ := DataW.trod_string Tryz.underlying9 h0
 obtain ⟨p, e1, _, _⟩ := DataW.trod_int Tryz.underlying3 h1
 refine ⟨⟨s, p⟩, ?_, trivial, ?_⟩
 ·match cs, hsz with
  | [c0, c1], _ =>
    simp at e0 e1
    subst e0 e1
    rfl
 ·rw [hx]
  match xs, hlen2 with
  | [y0, y1], _ =>
    have f0' : y0 = (.lit (.string s.data.toList), []) := f0
    subst f0'
    simp only [Rows.uptoBulk, Rows.uptoBulkAll, List.map_cons, List.map_nil]
    have : s.data.toList.length = s.size := by rw [Array.length_toList]; rfl
    show s.size + 1 ≤ _
    omega
theorem node_open : ∀ (fuel : Nat) (cs : List Value) (x : DataW H × List MemPlace), DataW.trod enc Tryz.prog w 0 (fun _ => true) true fuel 28 cs = some x → ∃ z : Nd, cs = ncells z ∧ Nods w w.heap.size [z] ∧ vol [z] ≤ Rows.uptoBulk x.1 := by
 intro fuel
 induction fuel using Nat.strongRecOn with
 | ind fuel ih =>
   intro cs x hf
   obtain ⟨xs, m, hm, hx, hsz, hlen, hat⟩ := DataW.trod_struct Tryz.underlying28 hf
   rw [show Tryz.prog.cellsOf 28 = 5 by kernel_rfl] at hsz
   have hlen5 : xs.length = 5 := hlen
   have h0 : DataW.trod enc Tryz.prog w 0 (fun _ => true) true m 3 (List.take (Tryz.prog.cellsOf 3) (List.drop 0 cs)) = xs[0]? := hat 0 _ rfl
   have h1 : DataW.trod enc Tryz.prog w 0 (fun _ => true) true m 3 (List.take (Tryz.prog.cellsOf 3) (List.drop 1 cs)) = xs[1]? := hat 1 _ rfl
   have h2 : DataW.trod enc Tryz.prog w 0 (fun _ => true) true m 9 (List.take (Tryz.prog.cellsOf 9) (List.drop 2 cs)) = xs[2]? := hat 2 _ rfl
   have h3 : DataW.trod enc Tryz.prog w 0 (fun _ => true) true m 25 (List.take (Tryz.prog.cellsOf 25) (List.drop 3 cs)) = xs[3]? := hat 3 _ rfl
   have h4 : DataW.trod enc Tryz.prog w 0 (fun _ => true) true m 26 (List.take (Tryz.prog.cellsOf 26) (List.drop 4 cs)) = xs[4]? := hat 4 _ rfl
   rw [List.getElem?_eq_getElem (by omega)] at h0 h1 h2 h3 h4
   rw [show Tryz.prog.cellsOf 3 = 1 by kernel_rfl] at h0 h1
   rw [show Tryz.prog.cellsOf 9 = 1 by kernel_rfl] at h2
   rw [show Tryz.prog.cellsOf 25 = 1 by kernel_rfl] at h3
   rw [show Tryz.prog.cellsOf 26 = 1 by kernel_rfl] at h4
   obtain ⟨k, e0, _, _⟩ := DataW.trod_int Tryz.underlying3 h0
   obtain ⟨p, e1, _, _⟩ := DataW.trod_int Tryz.underlying3 h1
   obtain ⟨s, e2, f2, _⟩ := DataW.trod_string Tryz.underlying9 h2
   obtain ⟨A, c, ws, e3, hc3, hS3, _, hb3⟩ := slice_gen wcells_length (by omega) w0 Tryz.underlying25 (show Tryz.prog.cellsOf 54 = 2 by kernel_rfl) (fun a : Wd => a.s.size + 1) (fun _ => True) m (fun m' _ cs x h => word_open h) _ _ h3
   obtain ⟨B, d, ks, e4, hc4, hS4, hR4, hb4⟩ := slice_gen ncells_length (by omega) n0 Tryz.underlying26 (show Tryz.prog.cellsOf 28 = 5 by kernel_rfl) (fun z => vol [z]) (fun z => Nods w w.heap.size [z]) m (fun m' hm' cs x h => ih m' (by omega) cs x h) _ _ h4
   refine ⟨.mk k p s A c ws B d ks, ?_, ?_, ?_⟩
   ·match cs, hsz with
    | [v0, v1, v2, v3, v4], _ =>
      simp at e0 e1 e2 e3 e4
      subst e0 e1 e2 e3 e4
      rfl
   ·intro y hy
    rw [all_cons] at hy
    simp only [TM.all, List.append_nil, List.mem_cons] at hy
    rcases hy with rfl | hy
    ·exact ⟨⟨hS3, hc3⟩, hS4, hc4⟩
    ·have hall : ∀ (l : List Nd), (∀ z ∈ l, Nods w w.heap.size [z]) → Nods w w.heap.size l := fun l => by
      induction l with
      | nil => intro _ y hy; simp [TM.all] at hy
      | cons z r ihr =>
        intro h y hy
        rw [all_cons] at hy
        rcases List.mem_cons.1 hy with rfl | hy
        ·exact h y (by simp) y (mem_all (List.mem_singleton.2 rfl))
        ·rcases List.mem_append.1 hy with hy | hy
         ·exact h z (by simp) y (by rw [all_cons]; simp [hy])
         ·exact ihr (fun z hz => h z (by simp [hz])) y hy
     exact hall ks hR4 y hy
   ·rw [hx]
    match xs, hlen5 with
    | [y0, y1, y2, y3, y4], _ =>
      have f2' : y2 = (.lit (.string s.data.toList), []) := f2
      subst f2'
      have hb3' : (ws.map fun a : Wd => a.s.size + 1).sum + 1 ≤ Rows.uptoBulk y3.1 := hb3
      have hb4' : (ks.map fun z => vol [z]).sum + 1 ≤ Rows.uptoBulk y4.1 := hb4
      rw [← vol_sum] at hb4'
      have hs : s.data.toList.length = s.size := by rw [Array.length_toList]; rfl
      rw [vol]
      simp only [Rows.uptoBulk, Rows.uptoBulkAll, List.map_cons, List.map_nil]
      show 1 + s.size + (ws.map fun x => x.s.size + 1).sum + vol ks + vol [] ≤ _
      rw [vol]
      omega
set_option maxRecDepth 100000 in
theorem open_node {v : Value} {d : DataW H} {ps : List MemPlace} (hval : Value.okWide Tryz.prog w2 r b0 28 v) (hd : DataW.Trod enc Tryz.prog w 0 (fun _ => true) true 28 v d ps) :
 ∃ z : Nd, v = .agg (nv z) ∧ Nods w w.heap.size [z] ∧ vol [z] ≤ Rows.uptoBulk d := by
 obtain ⟨cs, rfl, hsz⟩ := okWide_struct Tryz.underlying28 hval
 obtain ⟨l⟩ := cs
 obtain ⟨fuel, hf⟩ := hd
 obtain ⟨z, hz, hN, hB⟩ := node_open fuel _ _ hf
 have hz' : l = ncells z := hz
 exact ⟨z, by rw [hz']; rfl, hN, hB⟩
end
end Go.Proofs.YtkgonoejnochjaaGreatDoor
namespace Go.Proofs.YtkgonoejnochjaaGreatDoor
open Go.RowKit RM
theorem close_eq {n : Int} {l : List Nat} {p v : Nat} (hri : rightB n l = true) (hpp : pts n = p) : gClose n l v = clW p (bt l) v := by unfold gClose; rw [hri, hpp]; rfl
theorem least2 {n : Int} {l : List Nat} (v : Nat) (hri : rightB n l = true) : gClose n l (gClose n l v) = gClose n l v := by
 obtain ⟨p, h1, hp, hn, hpp, _⟩ := right_has hri
 have hS := right_closed hri
 rw [hpp] at hS
 rw [close_eq hri hpp, close_eq hri hpp]
 exact clW_clW hp hS v
theorem least5 {n : Int} {l : List Nat} (v u : Nat) (hri : rightB n l = true) : gClosed n l (gClose n l v ||| gClose n l u) = true := by
 obtain ⟨p, h1, hp, hn, hpp, _⟩ := right_has hri
 have hS := right_closed hri
 rw [hpp] at hS
 unfold gClosed
 rw [hri, close_eq hri hpp, close_eq hri hpp, close_eq hri hpp, clW_or hp hS]
 simp
end Go.Proofs.YtkgonoejnochjaaGreatDoor
namespace Go.Proofs.YtkgonoejnochjaaGreatDoor
namespace SP
open TM RM
theorem closed_zero {n : Int} {l : List Nat} (h : rightB n l = true) : gClosed n l 0 = true := by
 obtain ⟨p, h1, hp, hn, hpp, _⟩ := right_has h
 have hS := right_closed h
 rw [hpp] at hS
 unfold gClosed
 rw [h, close_eq h hpp, clW_fix hp hS (by omega) (fun o x _ _ hx => by unfold ob at hx; simp at hx) (fun o x y z _ _ _ _ hx => by unfold ob at hx; simp at hx)]
 simp
theorem closed_or {n : Int} {l : List Nat} {a b : Nat} (h : rightB n l = true) (ha : gClosed n l a = true) (hb : gClosed n l b = true) : gClosed n l (a ||| b) = true := by
 unfold gClosed at ha hb
 have ha : gClose n l a = a := by simpa using (Bool.and_eq_true_iff.1 ha).2
 have hb : gClose n l b = b := by simpa using (Bool.and_eq_true_iff.1 hb).2
 have h5 := least5 a b h
 rw [ha, hb] at h5
 exact h5
theorem closed_rule {n : Int} {l : List Nat} (h : rightB n l = true) (o : Int) (s : Nat) : gClosed n l (gRule n l o s) = true := by
 unfold gRule
 split
 ·have h2 := least2 (ruleW (pts n) (bt l) o.toNat s) h
  have h3 : gClose n l (ruleW (pts n) (bt l) o.toNat s) = clW (pts n) (bt l) (ruleW (pts n) (bt l) o.toNat s) := close_eq h rfl
  rw [← h3]
  unfold gClosed
  rw [h, h2]
  simp
 ·exact closed_zero h
theorem rls_closed {f : Fac} (h : rightB f.n f.l = true) : ∀ (ks : List Nd) (a v : Nat), gClosed f.n f.l a = true → rls f ks a = .ok v → gClosed f.n f.l v = true
 | [], a, v, ha, hv => by
   have : a = v := by injection hv
   exact this ▸ ha
 | k :: r, a, v, ha, hv => by
   rw [rls] at hv
   split at hv
   ·cases hv
   ·split at hv
    ·cases hv
    ·exact rls_closed h r _ v (closed_or h ha (closed_rule h _ _)) hv
theorem idx_lt (names : List ByteArray) (s : ByteArray) : idx names s < (names.length : Int) := by
 unfold idx
 exact (NM.fst_bd _ _).2
theorem word_fits {f : Fac} (h : facB f = true) {x : Nd} {v : Nat} (hw : wordC f x = .ok v) : wordB f v = true := by
 have hlen := (facB_len h).2
 unfold wordC at hw
 unfold wordB
 by_cases h2 : f.kind = 2
 ·rw [if_pos h2] at hw
  rw [if_neg (by omega), if_pos h2]
  split at hw
  ·unfold plc at hw
   split at hw
   ·cases hw
   ·rename_i hfd
    injection hw with hw
    subst hw
    unfold MM.subN
    rw [List.all_eq_true]
    intro i hi
    obtain ⟨hi64, hb⟩ := MM.mem_els.1 hi
    rw [MM.ofN_bit, Bool.and_eq_true, List.contains_iff_mem, List.mem_map] at hb
    obtain ⟨_, y, _, he⟩ := hb
    have h9 := idx_lt f.names y.s
    rw [belowN_bit, decide_eq_true hi64, Bool.true_and, decide_eq_true_eq]
    omega
  ·cases hw
 ·rw [if_neg h2] at hw
  by_cases h3 : f.kind = 3
  ·rw [if_pos h3] at hw
   rw [if_neg (by omega), if_neg h2, if_pos h3]
   split at hw
   ·have hr : rightB f.n f.l = true := by
     rcases facB_kind h with e | e | e | e
     ·omega
     ·exact absurd e h2
     ·exact e.2
     ·omega
    exact rls_closed hr _ _ _ (closed_zero hr) hw
   ·cases hw
  ·rw [if_neg h3] at hw
   split at hw
   ·rename_i hc
    obtain ⟨k, hk⟩ : ∃ k : Nat, idx f.names x.s = (k : Int) := ⟨(idx f.names x.s).toNat, by omega⟩
    have hkn : k < f.names.length := by have := idx_lt f.names x.s; omega
    rw [hk] at hw
    by_cases h4 : f.kind = 4
    ·rw [if_pos h4] at hw
     rw [if_neg (by omega), if_neg h2, if_neg h3]
     injection hw with hw
     have hl : latB f.n f.l = true := by
      rcases facB_kind h with e | e | e | e
      ·omega
      ·exact absurd e h2
      ·exact absurd e.1 h3
      ·exact e.2
     have hr : relB f.kind f.n f.l f.names.length = true := by
      unfold facB at h
      exact (Bool.and_eq_true_iff.1 h).2
     rw [h4, relB_4] at hr
     have hp := of_decide_eq_true (Bool.and_eq_true_iff.1 hr).1
     rw [← hw, pt_word (lat_of hl) (by omega)]; rfl
    ·rw [if_neg h4] at hw
     have h1 : f.kind = 1 := by
      rcases facB_kind h with e | e | e | e
      ·exact e
      ·exact absurd e h2
      ·exact absurd e.1 h3
      ·exact absurd e.1 h4
     rw [if_pos h1]
     injection hw with hw
     have hok : RG.okR (f.names.length : Int) (k : Int) = true := RG.ok_iff.2 ⟨by omega, by omega, by omega⟩
     unfold RG.wR at hw
     rw [if_pos hok] at hw
     exact (RG.lv_of hok hw).1
   ·cases hw
theorem elem_fits {t : Bool} {fs : List Fac} {x : Nd} {l : List Nat} (h : elemR t fs x = .ok l) : rightS t fs = true ∧ (fl x).c = true ∧ EW l ∧ fitsE t fs l = true := by
 unfold elemR at h
 split at h
 ·rename_i hc
  obtain ⟨hr, hcx⟩ := Bool.and_eq_true_iff.1 hc
  have hr2 := hr
  unfold rightS at hr2
  simp only [Bool.and_eq_true, decide_eq_true_eq, Bool.or_eq_true, List.all_eq_true] at hr2
  obtain ⟨⟨⟨h1, h8⟩, ht⟩, hf⟩ := hr2
  have key : ∀ xs : List Nd, xs.length = fs.length → elw fs xs = .ok l → EW l ∧ fitsE t fs l = true := fun xs hl he => by
   unfold elw at he
   split at he
   ·cases he
   ·rename_i hno
    injection he with he
    have hno : ∀ j, j < fs.length → (erW (wordC (fs.getD j f0) (xs.getD j n0))).isSome = false := fun j hj => by
     have := List.find?_eq_none.1 hno j (List.mem_range.2 (by omega))
     simpa using this
    have hew : EW l := by
     rw [← he]
     exact sdTo_ew (fun j => okW_lt _ _) _
    refine ⟨hew, ?_⟩
    unfold fitsE
    rw [hr, Bool.true_and, List.all_eq_true]
    intro i hi
    have hi := List.mem_range.1 hi
    have hg : l.getD i 0 = if i < fs.length then okW (wordC (fs.getD i f0) (xs.getD i n0)) else 0 := by
     rw [← he]
     unfold sdTo
     rw [List.getD_eq_getElem?_getD, List.getElem?_map, List.getElem?_range hi, hl]; rfl
    unfold slotB
    by_cases h5 : i < fs.length
    ·rw [if_pos h5, hg, if_pos h5]
     cases hw : wordC (fs.getD i f0) (xs.getD i n0) with
     | error p =>
       have := hno i h5
       rw [hw] at this
       cases this
     | ok v => exact word_fits (hf _ (getD_memF h5)) hw
    ·rw [if_neg h5, hg, if_neg h5]; rfl
  refine ⟨hr, hcx, ?_⟩
  by_cases h2 : t = true
  ·rw [if_pos h2] at h
   split at h
   ·cases h
   ·rename_i h3
    exact key x.ks (by omega) h
  ·rw [if_neg h2] at h
   have h9 : fs.length = 1 := by
        rcases ht with h3 | h3
        ·exact absurd h3 h2
        ·exact h3
   exact key [x] h9.symm h
 ·cases h
end SP
end Go.Proofs.YtkgonoejnochjaaGreatDoor

