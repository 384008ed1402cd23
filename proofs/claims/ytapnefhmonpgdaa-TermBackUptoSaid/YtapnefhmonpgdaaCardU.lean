/-
  An argument that is a slice of trees, opened: a list of trees, and what its bulk bounds; the same of tokens. Conditions: none.
-/
import Derived.Test.YtapnefhmonpgdaaCardT
import Derived.Test.YtapnefhmonpgdaaTreP
set_option linter.unusedSimpArgs false
set_option linter.unusedVariables false
namespace Go.Proofs.Ytapnefhmonpgdaa
open Go.ChangeShapes Go.WideShapes Go.ChangeAt Go.RowKit LX TR

theorem bulk_pos {H : Type} (d : DataW H) : 1 ≤ Rows.uptoBulk d := by
  cases d with
  | lit l => cases l <;> simp [Rows.uptoBulk]
  | nil => simp [Rows.uptoBulk]
  | ptr d => simp [Rows.uptoBulk]
  | slice elems spare => simp [Rows.uptoBulk]
  | agg parts => simp [Rows.uptoBulk]
  | iface t d => simp [Rows.uptoBulk]
  | map entries => simp [Rows.uptoBulk]
  | held h => simp [Rows.uptoBulk]
theorem bulk_length {H : Type} (l : List (DataW H)) : l.length ≤ Rows.uptoBulkAll l := by
  induction l with
  | nil => simp [Rows.uptoBulkAll]
  | cons x r ih =>
    have := bulk_pos x
    simp only [Rows.uptoBulkAll, List.length_cons]; omega
theorem bulk_sum {H : Type} : ∀ (l : List Tr) (es : List (DataW H)), l.length = es.length → (∀ i, i < l.length → (nodes (l.getD i r0).ks).length + 1 ≤ Rows.uptoBulk (es.getD i .nil)) → sumN l ≤ Rows.uptoBulkAll es
  | [], [], _, _ => Nat.le_refl _
  | [], _ :: _, h, _ => by simp at h
  | _ :: _, [], h, _ => by simp at h
  | x :: l, d :: es, h, hh => by
    have h1 := hh 0 (by simp)
    have h2 := bulk_sum l es (by simpa using h) (fun i hi => by
      have := hh (i + 1) (by simpa using hi)
      simpa using this)
    simp only [List.getD_cons_zero] at h1
    simp only [sumN, Rows.uptoBulkAll]
    omega
theorem kids_all {w : World} {B : Nat} : ∀ l : List Tr, (∀ x ∈ l, Trs w B x.A x.ks ∧ x.ks.length ≤ x.c) → ∀ y ∈ nodes l, Sl w B y.A (tcs y.ks) ∧ y.ks.length ≤ y.c
  | [], _, y, hy => by simp [nodes] at hy
  | .mk t A c ks e :: r, h, y, hy => by
    rw [nodes] at hy
    rcases List.mem_cons.1 hy with rfl | hy
    · exact ⟨(h _ (by simp)).1.1, (h _ (by simp)).2⟩
    · rcases List.mem_append.1 hy with hy | hy
      · exact (h (.mk t A c ks e) (by simp)).1.2 y hy
      · exact kids_all r (fun x hx => h x (by simp [hx])) y hy
theorem list_of_tr {P : Nat → Tr → Prop} : ∀ n, (∀ i, i < n → ∃ f, P i f) → ∃ fs : List Tr, fs.length = n ∧ ∀ i, i < n → P i (fs.getD i r0)
  | 0, _ => ⟨[], rfl, fun i hi => by omega⟩
  | n + 1, h => by
    obtain ⟨xs, hl, hx⟩ := list_of_tr n fun i hi => h i (by omega)
    obtain ⟨f, hp⟩ := h n (by omega)
    refine ⟨xs ++ [f], by simp [hl], fun i hi2 => ?_⟩
    by_cases e : i = n
    · subst e
      rw [List.getD_eq_getElem?_getD, List.getElem?_append_right (by omega), hl]
      simpa using hp
    · rw [List.getD_eq_getElem?_getD, List.getElem?_append_left (by omega), ← List.getD_eq_getElem?_getD]
      exact hx i (by omega)
section
variable {H : Type} {enc : TypeId × Value → H} {w w2 : World} {r : Reach} {b0 : Nat}
theorem slice_bulk {t e : TypeId} {fuel n c : Nat} {A : Option Addr} {x : DataW H × List MemPlace} (ht : Try.prog.underlying t = some (.slice e)) (hf : DataW.trod enc Try.prog w 0 (fun _ => true) true fuel t [.slice A n c] = some x) : n ≤ Rows.uptoBulk x.1 := by
  rcases DataW.trod_slice ht hf with ⟨hcs, _⟩ | ⟨a, len, cap, elems, rest, m, _, hcs, rfl, _, _, _, hlen, _⟩
  · have : n = 0 := by simp at hcs; exact hcs.2.1
    omega
  · have hn : n = len := by simp at hcs; exact hcs.2.1
    have h1 := bulk_length (elems.map (·.1))
    rw [List.length_map] at h1
    simp only [Rows.uptoBulk]
    omega
set_option maxRecDepth 8000 in
theorem trees_open : ∀ (fuel : Nat) (cs : List Value) (x : DataW H × List MemPlace), DataW.trod enc Try.prog w 0 (fun _ => true) true fuel 22 cs = some x →
    ∃ A c, ∃ l : List Tr, cs = [.slice A l.length c] ∧ l.length ≤ c ∧ Trs w w.heap.size A l ∧ (nodes l).length ≤ Rows.uptoBulk x.1 := by
  intro fuel
  induction fuel using Nat.strongRecOn with
  | ind fuel ih =>
    intro cs x hf
    rcases DataW.trod_slice Try.underlying22 hf with ⟨hcs, rfl⟩ | ⟨a, len, cap, elems, rest, n, rfl, hcs, rfl, _, hl, _, hlen, hel, _⟩
    · exact ⟨none, 0, [], hcs, Nat.le_refl _, Trs.nil _ _ _, by simp [nodes]⟩
    · rw [show Try.prog.cellsOf 57 = 5 by kernel_rfl] at hel
      obtain ⟨l, hll, hlx⟩ := list_of_tr (P := fun i x => w.cells? 0 (a.add (i * 5)) 5 = some (rcells x) ∧ Trs w w.heap.size x.A x.ks ∧ x.ks.length ≤ x.c ∧ (nodes x.ks).length + 1 ≤ Rows.uptoBulk ((elems.map (·.1)).getD i .nil)) len fun i hi => by
        have h1 := hel i hi
        rw [List.getElem?_eq_getElem (by omega)] at h1
        obtain ⟨cs', hc1, hc2⟩ := Option.bind_eq_some_iff.1 h1
        obtain ⟨xs, m, hm, hx, hsz, hlen3, hat⟩ := DataW.trod_struct Try.underlying57 hc2
        rw [show Try.prog.cellsOf 57 = 5 by kernel_rfl] at hsz
        have hlx : xs.length = 3 := hlen3
        have h0 : DataW.trod enc Try.prog w 0 (fun _ => true) true m 55 (List.take (Try.prog.cellsOf 55) (List.drop 0 cs')) = xs[0]? := hat 0 _ rfl
        have h1 : DataW.trod enc Try.prog w 0 (fun _ => true) true m 22 (List.take (Try.prog.cellsOf 22) (List.drop 3 cs')) = xs[1]? := hat 1 _ rfl
        have h2 : DataW.trod enc Try.prog w 0 (fun _ => true) true m 3 (List.take (Try.prog.cellsOf 3) (List.drop 4 cs')) = xs[2]? := hat 2 _ rfl
        rw [List.getElem?_eq_getElem (by omega)] at h0 h1 h2
        rw [show Try.prog.cellsOf 55 = 3 by kernel_rfl] at h0
        rw [show Try.prog.cellsOf 22 = 1 by kernel_rfl] at h1
        rw [show Try.prog.cellsOf 3 = 1 by kernel_rfl] at h2
        obtain ⟨t, e0, _⟩ := tok_open h0
        obtain ⟨A1, c1, ks, e1, hc, hT, hB⟩ := ih m (by omega) _ _ h1
        obtain ⟨p, e2, _, _⟩ := DataW.trod_int Try.underlying3 h2
        refine ⟨.mk t A1 c1 ks p, ?_, hT, hc, ?_⟩
        · rw [hc1]
          congr 1
          match cs', hsz with
          | [v0, v1, v2, v3, v4], _ =>
            simp [tcells] at e0 e1 e2
            obtain ⟨rfl, rfl, rfl⟩ := e0
            subst e1 e2
            rfl
        · rw [List.getD_eq_getElem?_getD, List.getElem?_map, List.getElem?_eq_getElem (by omega), hx]
          match xs, hlx with
          | [y0, y1, y2], _ =>
            simp only [Option.map_some, Option.getD_some, Rows.uptoBulk, Rows.uptoBulkAll, List.map_cons, List.map_nil]
            have hB' : (nodes ks).length ≤ Rows.uptoBulk y1.1 := hB
            show (nodes ks).length + 1 ≤ _
            omega
      subst hll
      have htr : ∀ y ∈ nodes l, Sl w w.heap.size y.A (tcs y.ks) ∧ y.ks.length ≤ y.c := kids_all l fun x hx => by
        obtain ⟨i, hi, rfl⟩ := List.mem_iff_getElem.1 hx
        have h := hlx i hi
        rw [List.getD_eq_getElem?_getD, List.getElem?_eq_getElem hi, Option.getD_some] at h
        exact ⟨h.2.1, h.2.2.1⟩
      refine ⟨some a, cap, l, hcs, hl, ⟨fun hne => ?_, htr⟩, ?_⟩
      · have hp : 0 < l.length := by
          rcases Nat.eq_zero_or_pos l.length with h | h
          · rw [List.eq_nil_of_length_eq_zero h] at hne; simp [tcs] at hne
          · exact h
        have hcell : ∀ i j, i < l.length → j < 5 → w.cell? ((a.add (i * 5)).add j) = (rcells (l.getD i r0))[j]? := fun i j h1 h2 => by
          obtain ⟨_, _, hat⟩ := World.cells?_some (hlx i h1).1
          exact hat j h2
        obtain ⟨b, off, spot⟩ := a
        have h00 := hcell 0 0 hp (by omega)
        rw [List.getElem?_eq_getElem (by rw [rcells_length]; omega)] at h00
        have hspot : spot = none := by simpa [Addr.add] using World.cell?_spot h00
        subst hspot
        have hcc : ∀ i j, i < l.length → j < 5 → w.cell? ⟨b, off + i * 5 + j, none⟩ = (rcells (l.getD i r0))[j]? := fun i j h1 h2 => by
          rw [← hcell i j h1 h2, Go.WideShapes.add_plain, Go.WideShapes.add_plain]
        have h00' := hcc 0 0 hp (by omega)
        rw [List.getElem?_eq_getElem (by rw [rcells_length]; omega)] at h00'
        refine ⟨b, off, rfl, World.block_lt_of_cell? w ⟨b, off + 0 * 5 + 0, none⟩ h00', fun j u hu => ?_⟩
        have hj : j < l.length * 5 := by
          have := (List.getElem?_eq_some_iff.1 hu).1
          rw [tcs_length] at this
          exact this
        have h1 := fm_at rcells_length r0 l (j / 5) (j % 5) (by omega) (Nat.mod_lt _ (by omega))
        rw [show j / 5 * 5 + j % 5 = j by omega] at h1
        have h2 := hcc (j / 5) (j % 5) (by omega) (Nat.mod_lt _ (by omega))
        rw [show off + j / 5 * 5 + j % 5 = off + j by omega] at h2
        rw [h2, ← h1]; exact hu
      · rw [nodes_sum]
        have h := bulk_sum l (elems.map (·.1)) (by rw [List.length_map]; omega) (fun i hi => (hlx i hi).2.2.2)
        simp only [Rows.uptoBulk]
        omega
set_option maxRecDepth 100000 in
theorem open_trees {v : Value} {d : DataW H} {ps : List MemPlace} (hval : Value.okWide Try.prog w2 r b0 22 v) (hd : DataW.Trod enc Try.prog w 0 (fun _ => true) true 22 v d ps) :
    ∃ A c, ∃ l : List Tr, v = .slice A l.length c ∧ l.length ≤ c ∧ Trs w w.heap.size A l ∧ (nodes l).length ≤ Rows.uptoBulk d := by
  obtain ⟨A, len, c, rfl⟩ := okWide_slice Try.underlying22 hval
  obtain ⟨fuel, hf⟩ := hd
  obtain ⟨A', c', l, hcs, hc, hT, hB⟩ := trees_open fuel _ _ hf
  have hcs2 : Value.slice A len c = Value.slice A' l.length c' := by simpa [Value.cells] using hcs
  injection hcs2 with e1 e2 e3
  subst e1 e2 e3
  exact ⟨A, c, l, rfl, hc, hT, hB⟩
set_option maxRecDepth 100000 in
theorem open_toksU {v : Value} {d : DataW H} {ps : List MemPlace} (hval : Value.okWide Try.prog w2 r b0 43 v) (hd : DataW.Trod enc Try.prog w 0 (fun _ => true) true 43 v d ps) :
    ∃ A c, ∃ l : List Tk, v = .slice A l.length c ∧ Toks w A l ∧ l.length ≤ Rows.uptoBulk d := by
  obtain ⟨A, c, l, rfl, _, _, hT⟩ := open_toks hval hd
  obtain ⟨fuel, hf⟩ := hd
  exact ⟨A, c, l, rfl, hT, slice_bulk Try.underlying43 hf⟩
end
theorem small_two {H : Type} {d e : DataW H} {l : List (DataW H)} (hk : Rows.uptoSmall H (d :: e :: l) = true) : Rows.uptoBulk d ≤ 1048576 ∧ Rows.uptoBulk e ≤ 1048576 := by
  have h : Rows.uptoBulkAll (d :: e :: l) ≤ 1048576 := of_decide_eq_true hk
  simp only [Rows.uptoBulkAll] at h
  omega
end Go.Proofs.Ytapnefhmonpgdaa
