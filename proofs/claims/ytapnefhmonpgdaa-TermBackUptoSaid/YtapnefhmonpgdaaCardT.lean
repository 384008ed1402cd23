/-
  An argument that is a slice of tokens, opened: a list. Conditions: none.
-/
import Derived.Test.YtapnefhmonpgdaaBaseX
import Derived.Test.YtapnefhmonpgdaaLexP
import Derived.SliceStrings
set_option linter.unusedSimpArgs false
set_option linter.unusedVariables false
namespace Go.Proofs.Ytapnefhmonpgdaa
open Go.ChangeShapes Go.WideShapes Go.ChangeAt Go.RowKit LX

theorem bounds_u8' {n : Int} (h : (Lit.int .u8 n).wf = true) : 0 ≤ n ∧ n ≤ 255 := by
  simp [Lit.wf, IntKind.min, IntKind.max, IntKind.signed, IntKind.bits] at h
  omega
section
variable {H : Type} {enc : TypeId × Value → H} {w w2 : World} {r : Reach} {b0 : Nat}
set_option maxRecDepth 8000 in
theorem tok_open {base fuel : Nat} {spare : Nat → Bool} {held : Bool} {cs : List Value} {x : DataW H × List MemPlace} (hf : DataW.trod enc Try.prog w base spare held fuel 55 cs = some x) : ∃ t : Tk, cs = tcells t ∧ t.k < 256 := by
  obtain ⟨xs, m, _, _, hsz, hlen, hat⟩ := DataW.trod_struct Try.underlying55 hf
  rw [show Try.prog.cellsOf 55 = 3 by kernel_rfl] at hsz
  have hlen3 : xs.length = 3 := hlen
  have h0 : DataW.trod enc Try.prog w base spare held m 5 (List.take (Try.prog.cellsOf 5) (List.drop 0 cs)) = xs[0]? := hat 0 _ rfl
  have h1 : DataW.trod enc Try.prog w base spare held m 9 (List.take (Try.prog.cellsOf 9) (List.drop 1 cs)) = xs[1]? := hat 1 _ rfl
  have h2 : DataW.trod enc Try.prog w base spare held m 3 (List.take (Try.prog.cellsOf 3) (List.drop 2 cs)) = xs[2]? := hat 2 _ rfl
  rw [List.getElem?_eq_getElem (by omega)] at h0 h1 h2
  rw [show Try.prog.cellsOf 5 = 1 by kernel_rfl] at h0
  rw [show Try.prog.cellsOf 9 = 1 by kernel_rfl] at h1
  rw [show Try.prog.cellsOf 3 = 1 by kernel_rfl] at h2
  obtain ⟨k, e0, _, hw⟩ := DataW.trod_int Try.underlying5 h0
  obtain ⟨s, e1, _, _⟩ := DataW.trod_string Try.underlying9 h1
  obtain ⟨p, e2, _, _⟩ := DataW.trod_int Try.underlying3 h2
  have hbd := bounds_u8' hw
  obtain ⟨z, rfl⟩ := Int.eq_ofNat_of_zero_le hbd.1
  match cs, hsz with
  | [c0, c1, c2], _ =>
    simp at e0 e1 e2
    subst e0 e1 e2
    exact ⟨⟨z, s, p⟩, rfl, by show z < 256; omega⟩
set_option maxRecDepth 8000 in
theorem list_of_tok {P : Nat → Tk → Prop} : ∀ n, (∀ i, i < n → ∃ f, P i f) → ∃ fs : List Tk, fs.length = n ∧ ∀ i, i < n → P i (fs.getD i t0)
  | 0, _ => ⟨[], rfl, fun i hi => by omega⟩
  | n + 1, h => by
    obtain ⟨xs, hl, hx⟩ := list_of_tok n fun i hi => h i (by omega)
    obtain ⟨f, hp⟩ := h n (by omega)
    refine ⟨xs ++ [f], by simp [hl], fun i hi2 => ?_⟩
    by_cases e : i = n
    · subst e
      rw [List.getD_eq_getElem?_getD, List.getElem?_append_right (by omega), hl]
      simpa using hp
    · rw [List.getD_eq_getElem?_getD, List.getElem?_append_left (by omega), ← List.getD_eq_getElem?_getD]
      exact hx i (by omega)
set_option maxRecDepth 8000 in
theorem toks_open {fuel : Nat} {cs : List Value} {x : DataW H × List MemPlace} (hf : DataW.trod enc Try.prog w 0 (fun _ => true) true fuel 43 cs = some x) :
    ∃ A c, ∃ l : List Tk, cs = [.slice A l.length c] ∧ l.length ≤ c ∧ (∀ i, i < l.length → (l.getD i t0).k < 256) ∧ Toks w A l := by
  rcases Go.Deep.open_slice Try.underlying43 hf with ⟨hcs, _⟩ | ⟨a, len', cap', m, k, D, Pl, hcs, _, hl, hm, hmm, _, hi⟩
  · exact ⟨none, 0, [], hcs, Nat.le_refl _, (fun i hi => by simp at hi), Toks.nil _ _⟩
  · have hlm : len' ≤ m := by rw [hmm]; split <;> omega
    rw [show Try.prog.cellsOf 55 = 3 by kernel_rfl] at hi
    obtain ⟨l, hll, hlx⟩ := list_of_tok (P := fun i t => w.cells? 0 (a.add (i * 3)) 3 = some (tcells t) ∧ t.k < 256) len' fun i hi2 => by
      obtain ⟨cs', h1, h2⟩ := hi i (by omega)
      obtain ⟨t, rfl, hok⟩ := tok_open h2
      exact ⟨t, h1, hok⟩
    subst hll
    refine ⟨some a, cap', l, hcs, hl, fun i hi2 => (hlx i hi2).2, fun hne => ?_⟩
    have hp : 0 < l.length := by
      rcases Nat.eq_zero_or_pos l.length with h | h
      · rw [List.eq_nil_of_length_eq_zero h] at hne; simp [tkcells] at hne
      · exact h
    have hcell : ∀ i j, i < l.length → j < 3 → w.cell? ((a.add (i * 3)).add j) = (tcells (l.getD i t0))[j]? := fun i j h1 h2 => by
      obtain ⟨_, _, hat⟩ := World.cells?_some (hlx i h1).1
      exact hat j h2
    obtain ⟨b, off, spot⟩ := a
    have h00 := hcell 0 0 hp (by omega)
    rw [List.getElem?_eq_getElem (by rw [tcells_length]; omega)] at h00
    have hspot : spot = none := by simpa [Addr.add] using World.cell?_spot h00
    subst hspot
    have hcc : ∀ i j, i < l.length → j < 3 → w.cell? ⟨b, off + i * 3 + j, none⟩ = (tcells (l.getD i t0))[j]? := fun i j h1 h2 => by
      rw [← hcell i j h1 h2, Go.WideShapes.add_plain, Go.WideShapes.add_plain]
    have h00' := hcc 0 0 hp (by omega)
    rw [List.getElem?_eq_getElem (by rw [tcells_length]; omega)] at h00'
    refine ⟨b, off, rfl, World.block_lt_of_cell? w ⟨b, off + 0 * 3 + 0, none⟩ h00', fun j u hu => ?_⟩
    have hj : j < l.length * 3 := by
      have := (List.getElem?_eq_some_iff.1 hu).1
      rw [tkcells_length] at this
      exact this
    have h1 := tkcells_at l (j / 3) (j % 3) (by omega) (Nat.mod_lt _ (by omega))
    rw [show j / 3 * 3 + j % 3 = j by omega] at h1
    have h2 := hcc (j / 3) (j % 3) (by omega) (Nat.mod_lt _ (by omega))
    rw [show off + j / 3 * 3 + j % 3 = off + j by omega] at h2
    rw [h2, ← h1]; exact hu
set_option maxRecDepth 8000 in
theorem open_toks {v : Value} {d : DataW H} {ps : List MemPlace} (hval : Value.okWide Try.prog w2 r b0 43 v) (hd : DataW.Trod enc Try.prog w 0 (fun _ => true) true 43 v d ps) :
    ∃ A c, ∃ l : List Tk, v = .slice A l.length c ∧ l.length ≤ c ∧ (∀ i, i < l.length → (l.getD i t0).k < 256) ∧ Toks w A l := by
  obtain ⟨A, len, c, rfl⟩ := okWide_slice Try.underlying43 hval
  obtain ⟨fuel, hf⟩ := hd
  obtain ⟨A', c', l, hcs, hc, hk, hT⟩ := toks_open hf
  have hcs2 : Value.slice A len c = Value.slice A' l.length c' := by simpa [Value.cells] using hcs
  injection hcs2 with e1 e2 e3
  subst e1 e2 e3
  exact ⟨A, c, l, rfl, hc, hk, hT⟩
end
end Go.Proofs.Ytapnefhmonpgdaa
