/- Texts that all the claims need. Conditions: those that each states. -/

import Derived.Test.YteachpfpcceamaaGreatDoorSl16
import Derived.Test.YteachpfpcceamaaGreatDoorSl19
set_option linter.unusedSimpArgs false
set_option linter.unusedVariables false
set_option maxRecDepth 100000
set_option maxHeartbeats 40000000
namespace Go.Proofs.YteachpfpcceamaaGreatDoor
section
open Go.ChangeShapes Go.WideShapes Go.ChangeAt Go.RowKit RM
section
variable {H : Type} {enc : TypeId × Value → H} {w w2 : World} {r : Reach} {b0 : Nat}
theorem flatZ_len {α : Type} (g : α → List Value) (k : Nat) (hk : ∀ x, (g x).length = k) : ∀ fs : List α, (fs.flatMap g).length = fs.length * k
 | [] => by simp
 | y :: ys => by rw [List.flatMap_cons, zA7, hk, flatZ_len g k hk ys, zA8, Nat.add_mul]; omega
theorem list_of' {α : Type} (d : α) {P : Nat → α → Prop} : ∀ n, (∀ i, i < n → ∃ f, P i f) → ∃ fs : List α, fs.length = n ∧ ∀ i, i < n → P i (fs.getD i d)
 | 0, _ => ⟨[], rfl, fun i hi => by omega⟩
 | n + 1, h => by
   obtain ⟨xs, hl, hx⟩ := list_of' d n fun i hi => h i (by omega)
   obtain ⟨f, hp⟩ := h n (by omega)
   refine ⟨xs ++ [f], by simp [hl], fun i hi2 => ?_⟩
   by_cases e : i = n
   ·subst e
    rw [List.getD_eq_getElem?_getD, List.getElem?_append_right (by omega), hl]
    simpa using hp
   ·rw [List.getD_eq_getElem?_getD, List.getElem?_append_left (by omega), ← List.getD_eq_getElem?_getD]
    exact hx i (by omega)
theorem ls_open {α : Type} {g : α → List Value} {P : α → Prop} (d : α) (k : Nat) (hk : ∀ x, (g x).length = k) (hk0 : 0 < k) {t e : TypeId} (ht : Tryz.prog.underlying t = some (.slice e)) (hc : Tryz.prog.cellsOf e = k)
 (each : ∀ (fuel : Nat) (cs : List Value) (x : DataW H × List MemPlace), DataW.trod enc Tryz.prog w 0 (fun _ => true) true fuel e cs = some x → ∃ y, cs = g y ∧ P y)
 {fuel : Nat} {cs : List Value} {x : DataW H × List MemPlace} (hf : DataW.trod enc Tryz.prog w 0 (fun _ => true) true fuel t cs = some x) :
 ∃ A c, ∃ xs : List α, cs = [.slice A xs.length c] ∧ (A = none → c = 0) ∧ xs.length ≤ c ∧ c ≤ maxLen ∧ Ls g w A xs ∧ ∀ y ∈ xs, P y := by
 rcases Go.Deep.open_slice ht hf with ⟨hcs, _⟩ | ⟨a, len', cap', m, n, D, Pl, hcs, _, hl, hm, hmm, _, hi⟩
 ·exact ⟨none, 0, [], hcs, fun _ => rfl, zL _, Nat.zero_le _, Ls.nil, fun y hy => by simp at hy⟩
 ·have hlm : len' ≤ m := by rw [hmm]; split <;> omega
  rw [hc] at hi
  obtain ⟨fs, hfl, hfx⟩ := list_of' (P := fun i f => w.cells? 0 (a.add (i * k)) k = some (g f) ∧ P f) d len' fun i hi2 => by
   obtain ⟨cs', h1, h2⟩ := hi i (by omega)
   obtain ⟨f, rfl, hok⟩ := each _ _ _ h2
   exact ⟨f, h1, hok⟩
  subst hfl
  have hok : ∀ f ∈ fs, P f := fun f hf => by
   obtain ⟨i, hi2, rfl⟩ := List.mem_iff_getElem.1 hf
   have := (hfx i hi2).2
   rw [List.getD_eq_getElem?_getD, List.getElem?_eq_getElem hi2] at this
   exact this
  refine ⟨some a, cap', fs, hcs, (fun h => by cases h), hl, hm, fun hne => ?_, hok⟩
  have hp : 0 < fs.length := by
   rcases Nat.eq_zero_or_pos fs.length with h | h
   ·rw [List.eq_nil_of_length_eq_zero h] at hne; simp at hne
   ·exact h
  have hcell : ∀ i j, i < fs.length → j < k → w.cell? ((a.add (i * k)).add j) = (g (fs.getD i d))[j]? := fun i j h1 h2 => by
   obtain ⟨_, _, hat⟩ := World.cells?_some (hfx i h1).1
   exact hat j h2
  obtain ⟨b, off, spot⟩ := a
  have h00 := hcell 0 0 hp hk0
  rw [List.getElem?_eq_getElem (by rw [hk]; exact hk0)] at h00
  have hspot : spot = none := by simpa [Addr.add] using World.cell?_spot h00
  subst hspot
  have hcc : ∀ i j, i < fs.length → j < k → w.cell? ⟨b, off + i * k + j, none⟩ = (g (fs.getD i d))[j]? := fun i j h1 h2 => by
   rw [← hcell i j h1 h2, Go.WideShapes.add_plain, Go.WideShapes.add_plain]
  have h00' := hcc 0 0 hp hk0
  rw [List.getElem?_eq_getElem (by rw [hk]; exact hk0)] at h00'
  refine ⟨b, off, rfl, World.block_lt_of_cell? w ⟨b, off + 0 * k + 0, none⟩ h00', fun j u hu => ?_⟩
  have hlen := flatZ_len g k hk fs
  have hj : j < fs.length * k := by
   have := (List.getElem?_eq_some_iff.1 hu).1
   rw [hlen] at this
   exact this
  have hd : j / k < fs.length := by rw [Nat.div_lt_iff_lt_mul hk0]; exact hj
  have hmo := Nat.mod_lt j hk0
  have hdm : j / k * k + j % k = j := by rw [Nat.mul_comm]; exact Nat.div_add_mod j k
  have h1 := flat_at g k hk d fs (j / k) (j % k) hd hmo
  rw [hdm] at h1
  have h2 := hcc (j / k) (j % k) hd hmo
  rw [show off + j / k * k + j % k = off + j by omega] at h2
  rw [h2, ← h1]; exact hu
theorem shp_open {fuel : Nat} {l : List Value} {x : DataW H × List MemPlace} (hf : DataW.trod enc Tryz.prog w 0 (fun _ => true) true fuel 49 l = some x) :
 ∃ s : Shp, l = [.bool s.t, .slice s.A s.fs.length s.c] ∧ (s.A = none → s.c = 0) ∧ Facs w s.A s.fs := by
 obtain ⟨xs, m, _, _, hsz, hlen, hat⟩ := DataW.trod_struct Tryz.underlying49 hf
 rw [show Tryz.prog.cellsOf 49 = 2 by kernel_rfl] at hsz
 have hlen2 : xs.length = 2 := hlen
 have h0 : DataW.trod enc Tryz.prog w 0 (fun _ => true) true m 4 (List.take (Tryz.prog.cellsOf 4) (List.drop 0 l)) = xs[0]? := hat 0 _ rfl
 have h1 : DataW.trod enc Tryz.prog w 0 (fun _ => true) true m 47 (List.take (Tryz.prog.cellsOf 47) (List.drop 1 l)) = xs[1]? := hat 1 _ rfl
 rw [List.getElem?_eq_getElem (by omega)] at h0 h1
 rw [show Tryz.prog.cellsOf 4 = 1 by kernel_rfl] at h0
 rw [show Tryz.prog.cellsOf 47 = 1 by kernel_rfl] at h1
 obtain ⟨t, e0, _⟩ := DataW.trod_bool Tryz.underlying4 h0
 obtain ⟨A, c, fs, e1, hnil, _, hF⟩ := facs_open h1
 match l, hsz with
 | [u, v], _ =>
   simp at e0 e1
   subst e0 e1
   exact ⟨⟨t, A, c, fs⟩, rfl, hnil, hF⟩
theorem lat_open (fuel : Nat) (l : List Value) (x : DataW H × List MemPlace) (hf : DataW.trod enc Tryz.prog w 0 (fun _ => true) true fuel 51 l = some x) :
 ∃ y : ByteArray × Shp, l = latC y ∧ ((Facs w y.2.A y.2.fs ∧ (y.2.A = none → y.2.c = 0)) ∧ y.1.size ≤ maxLen) := by
 obtain ⟨xs, m, _, _, hsz, hlen, hat⟩ := DataW.trod_struct Tryz.underlying51 hf
 rw [show Tryz.prog.cellsOf 51 = 3 by kernel_rfl] at hsz
 have hlen2 : xs.length = 2 := hlen
 have h0 : DataW.trod enc Tryz.prog w 0 (fun _ => true) true m 9 (List.take (Tryz.prog.cellsOf 9) (List.drop 0 l)) = xs[0]? := hat 0 _ rfl
 have h1 : DataW.trod enc Tryz.prog w 0 (fun _ => true) true m 49 (List.take (Tryz.prog.cellsOf 49) (List.drop 1 l)) = xs[1]? := hat 1 _ rfl
 rw [List.getElem?_eq_getElem (by omega)] at h0 h1
 rw [show Tryz.prog.cellsOf 9 = 1 by kernel_rfl] at h0
 rw [show Tryz.prog.cellsOf 49 = 2 by kernel_rfl] at h1
 obtain ⟨s, e0, _, hs⟩ := DataW.trod_string Tryz.underlying9 h0
 obtain ⟨sh, e1, hnil, hF⟩ := shp_open h1
 match l, hsz with
 | [u, v, z], _ =>
   simp at e0 e1
   obtain ⟨e1, e2⟩ := e1
   subst e0 e1 e2
   exact ⟨(s, sh), rfl, ⟨hF, hnil⟩, hs⟩
theorem var_open (fuel : Nat) (l : List Value) (x : DataW H × List MemPlace) (hf : DataW.trod enc Tryz.prog w 0 (fun _ => true) true fuel 55 l = some x) :
 ∃ y : ByteArray × Int × Int, l = varC y ∧ y.1.size ≤ maxLen := by
 obtain ⟨xs, m, _, _, hsz, hlen, hat⟩ := DataW.trod_struct Tryz.underlying55 hf
 rw [show Tryz.prog.cellsOf 55 = 3 by kernel_rfl] at hsz
 have hlen2 : xs.length = 3 := hlen
 have h0 : DataW.trod enc Tryz.prog w 0 (fun _ => true) true m 9 (List.take (Tryz.prog.cellsOf 9) (List.drop 0 l)) = xs[0]? := hat 0 _ rfl
 have h1 : DataW.trod enc Tryz.prog w 0 (fun _ => true) true m 3 (List.take (Tryz.prog.cellsOf 3) (List.drop 1 l)) = xs[1]? := hat 1 _ rfl
 have h2 : DataW.trod enc Tryz.prog w 0 (fun _ => true) true m 3 (List.take (Tryz.prog.cellsOf 3) (List.drop 2 l)) = xs[2]? := hat 2 _ rfl
 rw [List.getElem?_eq_getElem (by omega)] at h0 h1 h2
 rw [show Tryz.prog.cellsOf 9 = 1 by kernel_rfl] at h0
 rw [show Tryz.prog.cellsOf 3 = 1 by kernel_rfl] at h1 h2
 obtain ⟨s, e0, _, hs⟩ := DataW.trod_string Tryz.underlying9 h0
 obtain ⟨a, e1, _, _⟩ := DataW.trod_int Tryz.underlying3 h1
 obtain ⟨b, e2, _, _⟩ := DataW.trod_int Tryz.underlying3 h2
 match l, hsz with
 | [u, v, z], _ =>
   simp at e0 e1 e2
   subst e0 e1 e2
   exact ⟨(s, a, b), rfl, hs⟩
theorem open_scope {v : Value} {d : DataW H} {ps : List MemPlace} (hval : Value.okWide Tryz.prog w2 r b0 25 v) (hd : DataW.Trod enc Tryz.prog w 0 (fun _ => true) true 25 v d ps) :
 ∃ s : Sc, v = .agg (scv s) ∧ ScIn w s := by
 obtain ⟨cs, rfl, hsz⟩ := okWide_struct Tryz.underlying25 hval
 rw [show Tryz.prog.cellsOf 25 = 2 by kernel_rfl] at hsz
 obtain ⟨l⟩ := cs
 replace hsz : l.length = 2 := hsz
 obtain ⟨fuel, hf⟩ := hd
 obtain ⟨xs, m, _, _, _, hlen, hat⟩ := DataW.trod_struct Tryz.underlying25 hf
 have hlen2 : xs.length = 2 := hlen
 have h0 : DataW.trod enc Tryz.prog w 0 (fun _ => true) true m 22 (List.take (Tryz.prog.cellsOf 22) (List.drop 0 l)) = xs[0]? := hat 0 _ rfl
 have h1 : DataW.trod enc Tryz.prog w 0 (fun _ => true) true m 23 (List.take (Tryz.prog.cellsOf 23) (List.drop 1 l)) = xs[1]? := hat 1 _ rfl
 rw [List.getElem?_eq_getElem (by omega)] at h0 h1
 rw [show Tryz.prog.cellsOf 22 = 1 by kernel_rfl] at h0
 rw [show Tryz.prog.cellsOf 23 = 1 by kernel_rfl] at h1
 obtain ⟨LA, lc, ls, e0, hn0, hl0, hm0, hL0, hP0⟩ := ls_open (g := latC) (P := fun y => (Facs w y.2.A y.2.fs ∧ (y.2.A = none → y.2.c = 0)) ∧ y.1.size ≤ maxLen) lat0 3 (fun _ => rfl) (by omega) Tryz.underlying22 (by kernel_rfl) lat_open h0
 obtain ⟨VA, vc, vs, e1, hn1, hl1, hm1, hL1, hP1⟩ := ls_open (g := varC) (P := fun y => y.1.size ≤ maxLen) var0 3 (fun _ => rfl) (by omega) Tryz.underlying23 (by kernel_rfl) var_open h1
 match l, hsz with
 | [u, v], _ =>
   simp at e0 e1
   subst e0 e1
   refine ⟨⟨LA, lc, ls, VA, vc, vs⟩, rfl, ⟨hL0, fun y hy => (hP0 y hy).1, hL1, hn0, hn1, fun y hy => ?_, fun y hy => ?_, zM hl0 hm0, zM hl1 hm1⟩⟩
   ·obtain ⟨z, hz, rfl⟩ := List.mem_map.1 hy
    exact (hP0 z hz).2
   ·obtain ⟨z, hz, rfl⟩ := List.mem_map.1 hy
    exact hP1 z hz
end
end
section
open Go.ChangeShapes Go.WideShapes Go.ChangeAt Go.RowKit
section
variable {H : Type} {enc : TypeId × Value → H} {w w2 : World} {r : Reach} {b0 : Nat}
theorem ls_lt {α : Type} {g : α → List Value} {P : α → Prop} (d : α) (k : Nat) (hk : ∀ x, (g x).length = k) (hk0 : 0 < k) {t e : TypeId} (ht : Tryz.prog.underlying t = some (.slice e)) (hc : Tryz.prog.cellsOf e = k) {fuel : Nat}
 (each : ∀ m, m < fuel → ∀ (cs : List Value) (x : DataW H × List MemPlace), DataW.trod enc Tryz.prog w 0 (fun _ => true) true m e cs = some x → ∃ y, cs = g y ∧ P y)
 {cs : List Value} {x : DataW H × List MemPlace} (hf : DataW.trod enc Tryz.prog w 0 (fun _ => true) true fuel t cs = some x) :
 ∃ A c, ∃ xs : List α, cs = [.slice A xs.length c] ∧ xs.length ≤ c ∧ c ≤ maxLen ∧ Ls g w A xs ∧ ∀ y ∈ xs, P y := by
 rcases DataW.trod_slice ht hf with ⟨hcs, _⟩ | ⟨a, len, cap, elems, rest, n, rfl, hcs, _, _, hl, hm, hlen, hel, _⟩
 ·exact ⟨none, 0, [], hcs, zL _, Nat.zero_le _, Ls.nil, fun y hy => by simp at hy⟩
 ·rw [hc] at hel
  obtain ⟨fs, hfl, hfx⟩ := list_of' (P := fun i f => w.cells? 0 (a.add (i * k)) k = some (g f) ∧ P f) d len fun i hi2 => by
   have h1 := hel i hi2
   rw [List.getElem?_eq_getElem (by omega)] at h1
   obtain ⟨cs', h3, h4⟩ := Option.bind_eq_some_iff.1 h1
   obtain ⟨f, rfl, hok⟩ := each n (by omega) _ _ h4
   exact ⟨f, h3, hok⟩
  subst hfl
  have hok : ∀ f ∈ fs, P f := fun f hf => by
   obtain ⟨i, hi2, rfl⟩ := List.mem_iff_getElem.1 hf
   have := (hfx i hi2).2
   rw [List.getD_eq_getElem?_getD, List.getElem?_eq_getElem hi2] at this
   exact this
  refine ⟨some a, cap, fs, hcs, hl, hm, fun hne => ?_, hok⟩
  have hp : 0 < fs.length := by
   rcases Nat.eq_zero_or_pos fs.length with h | h
   ·rw [List.eq_nil_of_length_eq_zero h] at hne; simp at hne
   ·exact h
  have hcell : ∀ i j, i < fs.length → j < k → w.cell? ((a.add (i * k)).add j) = (g (fs.getD i d))[j]? := fun i j h1 h2 => by
   obtain ⟨_, _, hat⟩ := World.cells?_some (hfx i h1).1
   exact hat j h2
  obtain ⟨b, off, spot⟩ := a
  have h00 := hcell 0 0 hp hk0
  rw [List.getElem?_eq_getElem (by rw [hk]; exact hk0)] at h00
  have hspot : spot = none := by simpa [Addr.add] using World.cell?_spot h00
  subst hspot
  have hcc : ∀ i j, i < fs.length → j < k → w.cell? ⟨b, off + i * k + j, none⟩ = (g (fs.getD i d))[j]? := fun i j h1 h2 => by
   rw [← hcell i j h1 h2, Go.WideShapes.add_plain, Go.WideShapes.add_plain]
  have h00' := hcc 0 0 hp hk0
  rw [List.getElem?_eq_getElem (by rw [hk]; exact hk0)] at h00'
  refine ⟨b, off, rfl, World.block_lt_of_cell? w ⟨b, off + 0 * k + 0, none⟩ h00', fun j u hu => ?_⟩
  have hlen := flatZ_len g k hk fs
  have hj : j < fs.length * k := by
   have := (List.getElem?_eq_some_iff.1 hu).1
   rw [hlen] at this
   exact this
  have hd : j / k < fs.length := by rw [Nat.div_lt_iff_lt_mul hk0]; exact hj
  have hmo := Nat.mod_lt j hk0
  have hdm : j / k * k + j % k = j := by rw [Nat.mul_comm]; exact Nat.div_add_mod j k
  have h1 := flat_at g k hk d fs (j / k) (j % k) hd hmo
  rw [hdm] at h1
  have h2 := hcc (j / k) (j % k) hd hmo
  rw [show off + j / k * k + j % k = off + j by omega] at h2
  rw [h2, ← h1]; exact hu
theorem wd_open (fuel : Nat) (l : List Value) (x : DataW H × List MemPlace) (hf : DataW.trod enc Tryz.prog w 0 (fun _ => true) true fuel 27 l = some x) : ∃ y : ByteArray × Int, l = wdC y ∧ y.1.size ≤ maxLen := by
 obtain ⟨xs, m, _, _, hsz, hlen, hat⟩ := DataW.trod_struct Tryz.underlying27 hf
 rw [show Tryz.prog.cellsOf 27 = 2 by kernel_rfl] at hsz
 have hlen2 : xs.length = 2 := hlen
 have h0 : DataW.trod enc Tryz.prog w 0 (fun _ => true) true m 9 (List.take (Tryz.prog.cellsOf 9) (List.drop 0 l)) = xs[0]? := hat 0 _ rfl
 have h1 : DataW.trod enc Tryz.prog w 0 (fun _ => true) true m 3 (List.take (Tryz.prog.cellsOf 3) (List.drop 1 l)) = xs[1]? := hat 1 _ rfl
 rw [List.getElem?_eq_getElem (by omega)] at h0 h1
 rw [show Tryz.prog.cellsOf 9 = 1 by kernel_rfl] at h0
 rw [show Tryz.prog.cellsOf 3 = 1 by kernel_rfl] at h1
 obtain ⟨s, e0, _, hs⟩ := DataW.trod_string Tryz.underlying9 h0
 obtain ⟨p, e1, _, _⟩ := DataW.trod_int Tryz.underlying3 h1
 match l, hsz with
 | [u, v], _ =>
   simp at e0 e1
   subst e0 e1
   exact ⟨(s, p), rfl, hs⟩
theorem pw_open (fuel : Nat) (l : List Value) (x : DataW H × List MemPlace) (hf : DataW.trod enc Tryz.prog w 0 (fun _ => true) true fuel 74 l = some x) : ∃ y : (ByteArray × Int) × (ByteArray × Int), l = pwC y ∧ (y.1.1.size ≤ maxLen ∧ y.2.1.size ≤ maxLen) := by
 obtain ⟨ys, m, _, _, hsz, hyl, hya⟩ := DataW.trod_array Tryz.underlying74 hf
 rw [show Tryz.prog.cellsOf 74 = 4 by kernel_rfl] at hsz
 have h0 := hya 0 (by omega)
 have h1 := hya 1 (by omega)
 rw [List.getElem?_eq_getElem (by omega), show Tryz.prog.cellsOf 27 = 2 by kernel_rfl] at h0 h1
 obtain ⟨a, e0, ha⟩ := wd_open _ _ _ h0
 obtain ⟨b, e1, hb⟩ := wd_open _ _ _ h1
 match l, hsz with
 | [u, v, u2, v2], _ =>
   simp [wdC] at e0 e1
   obtain ⟨rfl, rfl⟩ := e0
   obtain ⟨rfl, rfl⟩ := e1
   exact ⟨(a, b), rfl, ha, hb⟩
theorem nt_open : ∀ (fuel : Nat) (l : List Value) (x : DataW H × List MemPlace), DataW.trod enc Tryz.prog w 0 (fun _ => true) true fuel 32 l = some x → ∃ y : Nt, l = ntC y ∧ NtOk w y := by
 intro fuel
 induction fuel using Nat.strongRecOn with
 | ind fuel ih =>
   intro l x hf
   obtain ⟨xs, m, hm, _, hsz, hlen, hat⟩ := DataW.trod_struct Tryz.underlying32 hf
   rw [show Tryz.prog.cellsOf 32 = 5 by kernel_rfl] at hsz
   have hlen5 : xs.length = 5 := hlen
   have h0 : DataW.trod enc Tryz.prog w 0 (fun _ => true) true m 3 (List.take (Tryz.prog.cellsOf 3) (List.drop 0 l)) = xs[0]? := hat 0 _ rfl
   have h1 : DataW.trod enc Tryz.prog w 0 (fun _ => true) true m 3 (List.take (Tryz.prog.cellsOf 3) (List.drop 1 l)) = xs[1]? := hat 1 _ rfl
   have h2 : DataW.trod enc Tryz.prog w 0 (fun _ => true) true m 9 (List.take (Tryz.prog.cellsOf 9) (List.drop 2 l)) = xs[2]? := hat 2 _ rfl
   have h3 : DataW.trod enc Tryz.prog w 0 (fun _ => true) true m 28 (List.take (Tryz.prog.cellsOf 28) (List.drop 3 l)) = xs[3]? := hat 3 _ rfl
   have h4 : DataW.trod enc Tryz.prog w 0 (fun _ => true) true m 30 (List.take (Tryz.prog.cellsOf 30) (List.drop 4 l)) = xs[4]? := hat 4 _ rfl
   rw [List.getElem?_eq_getElem (by omega)] at h0 h1 h2 h3 h4
   rw [show Tryz.prog.cellsOf 3 = 1 by kernel_rfl] at h0 h1
   rw [show Tryz.prog.cellsOf 9 = 1 by kernel_rfl] at h2
   rw [show Tryz.prog.cellsOf 28 = 1 by kernel_rfl] at h3
   rw [show Tryz.prog.cellsOf 30 = 1 by kernel_rfl] at h4
   obtain ⟨k, e0, _, _⟩ := DataW.trod_int Tryz.underlying3 h0
   obtain ⟨p, e1, _, _⟩ := DataW.trod_int Tryz.underlying3 h1
   obtain ⟨s, e2, _, _⟩ := DataW.trod_string Tryz.underlying9 h2
   obtain ⟨A, c, ws, e3, hc3, hm3, hS3, _⟩ := ls_lt (g := wdC) (P := fun y => y.1.size ≤ maxLen) wd0 2 (fun _ => rfl) (by omega) Tryz.underlying28 (by kernel_rfl) (fun m' _ cs x h => wd_open m' cs x h) h3
   obtain ⟨B, d, ks, e4, hc4, hm4, hS4, hR4⟩ := ls_lt (g := ntC) (P := fun y => NtOk w y) nt0 5 (fun _ => rfl) (by omega) Tryz.underlying30 (by kernel_rfl) (fun m' hm' cs x h => ih m' (by omega) cs x h) h4
   match l, hsz with
   | [v0, v1, v2, v3, v4], _ =>
     simp at e0 e1 e2 e3 e4
     subst e0 e1 e2 e3 e4
     exact ⟨⟨k, p, s, A, ws.length, c, B, ks.length, d⟩, rfl, .mk _ ks rfl hS4 (by show ws.length ≤ maxLen; omega) (by omega) hR4 ws rfl hS3⟩
theorem open_cmd {v : Value} {d : DataW H} {ps : List MemPlace} (hval : Value.okWide Tryz.prog w2 r b0 34 v) (hd : DataW.Trod enc Tryz.prog w 0 (fun _ => true) true 34 v d ps) :
 ∃ x : Cd, v = .agg (cdv x) ∧ CdIn w x := by
 obtain ⟨cs, rfl, hsz⟩ := okWide_struct Tryz.underlying34 hval
 rw [show Tryz.prog.cellsOf 34 = 17 by kernel_rfl] at hsz
 obtain ⟨l⟩ := cs
 replace hsz : l.length = 17 := hsz
 obtain ⟨fuel, hf⟩ := hd
 obtain ⟨xs, m, _, _, _, hlen, hat⟩ := DataW.trod_struct Tryz.underlying34 hf
 have hlen8 : xs.length = 8 := hlen
 have h0 : DataW.trod enc Tryz.prog w 0 (fun _ => true) true m 3 (List.take (Tryz.prog.cellsOf 3) (List.drop 0 l)) = xs[0]? := hat 0 _ rfl
 have h1 : DataW.trod enc Tryz.prog w 0 (fun _ => true) true m 3 (List.take (Tryz.prog.cellsOf 3) (List.drop 1 l)) = xs[1]? := hat 1 _ rfl
 have h2 : DataW.trod enc Tryz.prog w 0 (fun _ => true) true m 27 (List.take (Tryz.prog.cellsOf 27) (List.drop 2 l)) = xs[2]? := hat 2 _ rfl
 have h3 : DataW.trod enc Tryz.prog w 0 (fun _ => true) true m 28 (List.take (Tryz.prog.cellsOf 28) (List.drop 4 l)) = xs[3]? := hat 3 _ rfl
 have h4 : DataW.trod enc Tryz.prog w 0 (fun _ => true) true m 29 (List.take (Tryz.prog.cellsOf 29) (List.drop 5 l)) = xs[4]? := hat 4 _ rfl
 have h5 : DataW.trod enc Tryz.prog w 0 (fun _ => true) true m 3 (List.take (Tryz.prog.cellsOf 3) (List.drop 6 l)) = xs[5]? := hat 5 _ rfl
 have h6 : DataW.trod enc Tryz.prog w 0 (fun _ => true) true m 32 (List.take (Tryz.prog.cellsOf 32) (List.drop 7 l)) = xs[6]? := hat 6 _ rfl
 have h7 : DataW.trod enc Tryz.prog w 0 (fun _ => true) true m 32 (List.take (Tryz.prog.cellsOf 32) (List.drop 12 l)) = xs[7]? := hat 7 _ rfl
 rw [List.getElem?_eq_getElem (by omega)] at h0 h1 h2 h3 h4 h5 h6 h7
 rw [show Tryz.prog.cellsOf 3 = 1 by kernel_rfl] at h0 h1 h5
 rw [show Tryz.prog.cellsOf 27 = 2 by kernel_rfl] at h2
 rw [show Tryz.prog.cellsOf 28 = 1 by kernel_rfl] at h3
 rw [show Tryz.prog.cellsOf 29 = 1 by kernel_rfl] at h4
 rw [show Tryz.prog.cellsOf 32 = 5 by kernel_rfl] at h6 h7
 obtain ⟨op, e0, _, _⟩ := DataW.trod_int Tryz.underlying3 h0
 obtain ⟨p, e1, _, _⟩ := DataW.trod_int Tryz.underlying3 h1
 obtain ⟨n, e2, hn⟩ := wd_open _ _ _ h2
 obtain ⟨A, c, ws, e3, hc3, hm3, hS3, hP3⟩ := ls_lt (g := wdC) (P := fun y => y.1.size ≤ maxLen) wd0 2 (fun _ => rfl) (by omega) Tryz.underlying28 (by kernel_rfl) (fun m' _ cs x h => wd_open m' cs x h) h3
 obtain ⟨B, d, pp, e4, hc4, hm4, hS4, hP4⟩ := ls_lt (g := pwC) (P := fun y => y.1.1.size ≤ maxLen ∧ y.2.1.size ≤ maxLen) pw0 4 (fun _ => rfl) (by omega) Tryz.underlying29 (by kernel_rfl) (fun m' _ cs x h => pw_open m' cs x h) h4
 obtain ⟨pa, e5, _, _⟩ := DataW.trod_int Tryz.underlying3 h5
 obtain ⟨zl, e6, hl⟩ := nt_open _ _ _ h6
 obtain ⟨zr, e7, hr⟩ := nt_open _ _ _ h7
 match l, hsz with
 | [v0, v1, v2, v3, v4, v5, v6, v7, v8, v9, v10, v11, v12, v13, v14, v15, v16], _ =>
   simp [wdC, ntC] at e0 e1 e2 e3 e4 e5 e6 e7
   obtain ⟨rfl, rfl⟩ := e2
   obtain ⟨rfl, rfl, rfl, rfl, rfl⟩ := e6
   obtain ⟨rfl, rfl, rfl, rfl, rfl⟩ := e7
   subst e0 e1 e3 e4 e5
   refine ⟨⟨op, p, n, A, c, ws, B, d, pp, pa, ntC zl ++ ntC zr⟩, rfl, ⟨hS3, hS4, ⟨zl, zr, rfl, hl, hr⟩, by show ws.length ≤ maxLen; omega, by show pp.length ≤ maxLen; omega, hn, fun t ht => ?_, hP4⟩⟩
   obtain ⟨z, hz, rfl⟩ := List.mem_map.1 ht
   exact hP3 z hz
end
end
end Go.Proofs.YteachpfpcceamaaGreatDoor
