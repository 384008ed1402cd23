/- Texts that all the claims need. Conditions: those that each states. -/
import Derived.Great.BuildSlice
import Derived.Test.YtkgonoejnochjaaGreatDoorY16
set_option linter.unusedSimpArgs false
set_option linter.unusedVariables false
set_option maxRecDepth 8000
namespace Go.Proofs.YtkgonoejnochjaaGreatDoor
namespace TM
theorem lst_text10 (z : Nd) : LX.lst (text10 z) = tx z := by simp [text10, LX.lst]
end TM
open Go.RowKit LX TR TM
theorem infoNd : (Tryz.prog.info? 28).map (fun i => (i.zero.isSome, i.size)) = some (true, 5) := by kernel_rfl
set_option maxRecDepth 100000 in
theorem wpList_nodes {ops : Array Oper} {rest : List Oper} {o : Oper} {a : Act} {w : World} {Q : Exit → Act → World → Prop} (hgd : Region.wanted o (yielded ops a.tmps) = true) (xs : Array (Nat × Operand)) (m : Nat) (ho : o.op = .buildSlice 26 m xs)
 (L : List Nd) (hm : L.length = m) (h0 : 0 < m) (h1 : m ≤ 100) (hx : (xs.map fun (i, x) => (i, a.eval x)).toList = ((L.map fun s => Value.agg (nv s)).zipIdx 0).map fun x => (x.2, x.1))
 (h : ∀ w', Sl w' w'.heap.size (some ⟨w.heap.size, 0, none⟩) (ncs L) → Below w.heap.size w w' → wpList Tryz.prog ops Q rest (a.put o.dst (.slice (some ⟨w.heap.size, 0, none⟩) m m)) w') : wpList Tryz.prog ops Q (o :: rest) a w := by
 refine wpList_wanted hgd fun K hK => ?_
 cases hi : Tryz.prog.info? 28 with
 | none => have h0 := infoNd; rw [hi] at h0; cases h0
 | some i =>
   have h2 := infoNd
   rw [hi] at h2
   simp only [Option.map_some, Option.some.injEq, Prod.mk.injEq] at h2
   obtain ⟨z, hz⟩ := Option.isSome_iff_exists.1 h2.1
   have hs := h2.2
   refine wp_buildSlice 26 28 m _ ho (ncs L).toArray i z Tryz.underlying26 hi hz (by rw [hs]; omega) (by rw [hs]; omega) ?_ ?_
   ·rw [hx, hs]
    have := Great.fill_whole (s := 5) (by decide) (L.map fun s => Value.agg (nv s)) ((Array.range (m * 5)).map (z.cells[· % z.cells.size]!)) (by
        intro v hv
        obtain ⟨s, _, rfl⟩ := List.mem_map.1 hv
        rfl) (by simp [hm])
    rw [this]
    congr 1
    unfold ncs
    rw [List.flatMap_map]
    rfl
   ·refine hK _ _ (h _ (fun _ => ⟨w.heap.size, 0, rfl, by simp, fun j u hu => ?_⟩) ((Below.refl _ _).alloc (Nat.le_refl _) _))
    rw [Nat.zero_add, cell_of_row _ w.heap.size j _ 28 (0, 0) (heap_alloc_new w _)]
    simpa using hu
theorem wpList_nodes1 {ops : Array Oper} {rest : List Oper} {o : Oper} {a : Act} {w : World} {Q : Exit → Act → World → Prop} (hgd : Region.wanted o (yielded ops a.tmps) = true) (x : Operand) (ho : o.op = .buildSlice 26 1 #[(0, x)])
 (s : Nd) (hx : a.eval x = .agg (nv s))
 (h : ∀ w', Sl w' w'.heap.size (some ⟨w.heap.size, 0, none⟩) (ncs [s]) → Below w.heap.size w w' → wpList Tryz.prog ops Q rest (a.put o.dst (.slice (some ⟨w.heap.size, 0, none⟩) 1 1)) w') : wpList Tryz.prog ops Q (o :: rest) a w :=
 wpList_nodes hgd _ 1 ho [s] rfl (by omega) (by omega) (by simp [hx]) h
end Go.Proofs.YtkgonoejnochjaaGreatDoor

