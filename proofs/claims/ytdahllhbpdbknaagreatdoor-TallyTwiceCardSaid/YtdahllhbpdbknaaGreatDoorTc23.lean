/- Texts that all the claims need. Conditions: those that each states. -/
import Derived.Carry
import Derived.ChangeArms
import Derived.Deep.DeepHandedRow
import Derived.Deep.Slices
import Derived.Great.BuildSlice
import Derived.Lib.SliceRun
import Derived.OpenShut
import Derived.ProofKit
import Derived.SliceStrings
import Derived.Test.YtdahllhbpdbknaaGreatDoorTc11
import Derived.Test.YtdahllhbpdbknaaGreatDoorTc12
set_option linter.unusedSimpArgs false
set_option linter.unusedVariables false
set_option maxRecDepth 100000
set_option maxHeartbeats 40000000
namespace Go.Proofs.YtdahllhbpdbknaaGreatDoor
section
open Go.ChangeShapes Go.WideShapes Go.ChangeAt Go.RowKit RM
section
variable {H : Type} {enc : TypeId × Value → H} {w w2 : World} {r : Reach} {b0 : Nat}
theorem flatZ_len {α : Type} (g : α → List Value) (k : Nat) (hk : ∀ x, (g x).length = k) : ∀ fs : List α, (fs.flatMap g).length = fs.length * k
 | [] => by simp
 | y :: ys => by rw [List.flatMap_cons, zA7, hk, flatZ_len g k hk ys, zA8, Nat.add_mul]; omega
theorem list_of' {α : Type} (d : α) {P : Nat → α → Prop} : ∀ n, (∀ i, i < n → ∃ f, P i f) → ∃ fs : List α, fs.length = n ∧ ∀ i, i < n → P i (fs.getD i d)
 | 0, _ => ⟨[], rfl, fun i hi => by omega⟩
 | n + 1, h => by
   obtain ⟨xs, hl, hx⟩ := list_of' d n fun i hi => h i (by omega)
   obtain ⟨f, hp⟩ := h n (by omega)
   refine ⟨xs ++ [f], by simp [hl], fun i hi2 => ?_⟩
   by_cases e : i = n
   ·subst e
    rw [List.getD_eq_getElem?_getD, List.getElem?_append_right (by omega), hl]
    simpa using hp
   ·rw [List.getD_eq_getElem?_getD, List.getElem?_append_left (by omega), ← List.getD_eq_getElem?_getD]
    exact hx i (by omega)
theorem ls_open {α : Type} {g : α → List Value} {P : α → Prop} (d : α) (k : Nat) (hk : ∀ x, (g x).length = k) (hk0 : 0 < k) {t e : TypeId} (ht : Tryz.prog.underlying t = some (.slice e)) (hc : Tryz.prog.cellsOf e = k)
 (each : ∀ (fuel : Nat) (cs : List Value) (x : DataW H × List MemPlace), DataW.trod enc Tryz.prog w 0 (fun _ => true) true fuel e cs = some x → ∃ y, cs = g y ∧ P y)
 {fuel : Nat} {cs : List Value} {x : DataW H × List MemPlace} (hf : DataW.trod enc Tryz.prog w 0 (fun _ => true) true fuel t cs = some x) :
 ∃ A c, ∃ xs : List α, cs = [.slice A xs.length c] ∧ (A = none → c = 0) ∧ xs.length ≤ c ∧ c ≤ maxLen ∧ Ls g w A xs ∧ ∀ y ∈ xs, P y := by
 rcases Go.Deep.open_slice ht hf with ⟨hcs, _⟩ | ⟨a, len', cap', m, n, D, Pl, hcs, _, hl, hm, hmm, _, hi⟩
 ·exact ⟨none, 0, [], hcs, fun _ => rfl, zL _, Nat.zero_le _, Ls.nil, fun y hy => by simp at hy⟩
 ·have hlm : len' ≤ m := by rw [hmm]; split <;> omega
  rw [hc] at hi
  obtain ⟨fs, hfl, hfx⟩ := list_of' (P := fun i f => w.cells? 0 (a.add (i * k)) k = some (g f) ∧ P f) d len' fun i hi2 => by
   obtain ⟨cs', h1, h2⟩ := hi i (by omega)
   obtain ⟨f, rfl, hok⟩ := each _ _ _ h2
   exact ⟨f, h1, hok⟩
  subst hfl
  have hok : ∀ f ∈ fs, P f := fun f hf => by
   obtain ⟨i, hi2, rfl⟩ := List.mem_iff_getElem.1 hf
   have := (hfx i hi2).2
   rw [List.getD_eq_getElem?_getD, List.getElem?_eq_getElem hi2] at this
   exact this
  refine ⟨some a, cap', fs, hcs, (fun h => by cases h), hl, hm, fun hne => ?_, hok⟩
  have hp : 0 < fs.length := by
   rcases Nat.eq_zero_or_pos fs.length with h | h
   ·rw [List.eq_nil_of_length_eq_zero h] at hne; simp at hne
   ·exact h
  have hcell : ∀ i j, i < fs.length → j < k → w.cell? ((a.add (i * k)).add j) = (g (fs.getD i d))[j]? := fun i j h1 h2 => by
   obtain ⟨_, _, hat⟩ := World.cells?_some (hfx i h1).1
   exact hat j h2
  obtain ⟨b, off, spot⟩ := a
  have h00 := hcell 0 0 hp hk0
  rw [List.getElem?_eq_getElem (by rw [hk]; exact hk0)] at h00
  have hspot : spot = none := by simpa [Addr.add] using World.cell?_spot h00
  subst hspot
  have hcc : ∀ i j, i < fs.length → j < k → w.cell? ⟨b, off + i * k + j, none⟩ = (g (fs.getD i d))[j]? := fun i j h1 h2 => by
   rw [← hcell i j h1 h2, Go.WideShapes.add_plain, Go.WideShapes.add_plain]
  have h00' := hcc 0 0 hp hk0
  rw [List.getElem?_eq_getElem (by rw [hk]; exact hk0)] at h00'
  refine ⟨b, off, rfl, World.block_lt_of_cell? w ⟨b, off + 0 * k + 0, none⟩ h00', fun j u hu => ?_⟩
  have hlen := flatZ_len g k hk fs
  have hj : j < fs.length * k := by
   have := (List.getElem?_eq_some_iff.1 hu).1
   rw [hlen] at this
   exact this
  have hd : j / k < fs.length := by rw [Nat.div_lt_iff_lt_mul hk0]; exact hj
  have hmo := Nat.mod_lt j hk0
  have hdm : j / k * k + j % k = j := by rw [Nat.mul_comm]; exact Nat.div_add_mod j k
  have h1 := flat_at g k hk d fs (j / k) (j % k) hd hmo
  rw [hdm] at h1
  have h2 := hcc (j / k) (j % k) hd hmo
  rw [show off + j / k * k + j % k = off + j by omega] at h2
  rw [h2, ← h1]; exact hu
end
end
end Go.Proofs.YtdahllhbpdbknaaGreatDoor
