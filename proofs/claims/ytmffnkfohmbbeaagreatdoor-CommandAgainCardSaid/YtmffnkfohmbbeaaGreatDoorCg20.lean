/- Texts that all the claims need. Conditions: those that each states. -/
import Derived.Test.YtmffnkfohmbbeaaGreatDoorRows
import Derived.Test.YtmffnkfohmbbeaaGreatDoorCg12
set_option linter.unusedSimpArgs false
set_option linter.unusedVariables false
set_option maxRecDepth 100000
set_option maxHeartbeats 40000000
namespace Go.Proofs.YtmffnkfohmbbeaaGreatDoor
section
open Go.RowKit LX CM
namespace CM
theorem str_of {s t : ByteArray} (h : s.data.toList = lst t) : s = t := by
 cases s with | mk a => cases t with | mk b =>
 have h2 : a.toList = b.toList := h
 have h3 : a = b := Array.ext' h2
 rw [h3]
def tabD (H : Type) : List (DataW H) := match (Rows.laid_clearance_command_commands : DataW H) with
 | .agg l => l
 | _ => []
theorem tabD_at {H : Type} : ∀ i, i < 16 → (tabD H)[i]? = some (.agg [.lit (.string (lst (kws.getD i ⟨#[]⟩))), .lit (.string (lst (lts.getD i ⟨#[]⟩)))])
 | 0, _ => rfl | 1, _ => rfl | 2, _ => rfl | 3, _ => rfl | 4, _ => rfl | 5, _ => rfl | 6, _ => rfl | 7, _ => rfl
 | 8, _ => rfl | 9, _ => rfl | 10, _ => rfl | 11, _ => rfl | 12, _ => rfl | 13, _ => rfl | 14, _ => rfl | 15, _ => rfl
 | n + 16, h => absurd h (by omega)
theorem laid_tabD {H : Type} : (Rows.laid_clearance_command_commands : DataW H) = .agg (tabD H) := rfl
end CM
theorem cells_of_cmds {H : Type} {enc : TypeId × Value → H} {w : World} {base : Nat} {sp : Nat → Bool} {held : Bool} {fuel : Nat} {cs : List Value} {p : List MemPlace}
 (h : DataW.trod enc Tryz.prog w base sp held fuel 75 cs = some (.agg (tabD H), p)) : ∀ i, i < 16 → cs[i * 2]? = some (.string (kws.getD i ⟨#[]⟩)) ∧ cs[i * 2 + 1]? = some (.string (lts.getD i ⟨#[]⟩)) := by
 intro i hi
 have hce : Tryz.prog.cellsOf 74 = 2 := by kernel_rfl
 have hct : Tryz.prog.cellsOf 75 = 32 := by kernel_rfl
 have hcs : Tryz.prog.cellsOf 9 = 1 := by kernel_rfl
 cases fuel with
 | zero => simp [DataW.trod] at h
 | succ fuel =>
   simp only [DataW.trod, Tryz.underlying75, hce, hct] at h
   split at h
   ·rename_i hl
    obtain ⟨xs, hm, hx⟩ := Option.map_eq_some_iff.1 h
    have hxs : xs.map (·.1) = tabD H := by
        have := congrArg Prod.fst hx
        simpa using this
    obtain ⟨b, hb, hf⟩ := Lib.mapM_at hm i i (by simp [hi])
    have hb1 : b.1 = .agg [.lit (.string (lst (kws.getD i ⟨#[]⟩))), .lit (.string (lst (lts.getD i ⟨#[]⟩)))] := by
        have h2 : (xs.map (·.1))[i]? = some b.1 := by simp [hb]
        rw [hxs, tabD_at i hi] at h2
        exact (Option.some.inj h2).symm
    obtain ⟨ys, n, _, rfl, _, hyl, hfs⟩ := DataW.trod_struct Tryz.underlying74 hf
    have hys := hb1
    simp only [DataW.agg.injEq] at hys
    obtain ⟨y0, y1, rfl⟩ : ∃ y0 y1, ys = [y0, y1] := by
        match ys, hys with
        | [y0, y1], _ => exact ⟨y0, y1, rfl⟩
    have g0 := hfs 0 _ rfl
    have g1 := hfs 1 _ rfl
    simp only [zA3, zA2] at g0 g1
    obtain ⟨s0', c0', e0', _⟩ := DataW.trod_string Tryz.underlying9 g0
    obtain ⟨s1', c1', e1', _⟩ := DataW.trod_string Tryz.underlying9 g1
    simp only [List.map_cons, List.map_nil, List.cons.injEq, and_true, e0', e1', DataW.lit.injEq, Lit.string.injEq] at hys
    have k0 := str_of hys.1
    have k1 := str_of hys.2
    subst k0 k1
    constructor
    ·have := congrArg (·[0]?) c0'
     simpa [List.getElem?_take, List.getElem?_drop, hcs] using this
    ·have := congrArg (·[0]?) c1'
     simpa [List.getElem?_take, List.getElem?_drop, hcs] using this
   ·cases h
theorem gCmds : Tryz.prog.globalNamed "clearance/command.commands" = some 0 := by kernel_rfl
theorem gCmdsType : (Tryz.prog.globals[0]?).map (·.type) = some 75 := by kernel_rfl
theorem cmds_of_laid {W : World} {rest : List (String × DataW Unit)} (h : laidMet Tryz.prog (("clearance/command.commands", Rows.laid_clearance_command_commands) :: rest) W) : Cmds W := by
 obtain ⟨ps, ⟨g', t', cs, fuel, p, q, hg', ht', hvar, hd, _, _⟩, _⟩ := h
 obtain rfl := Option.some.inj (gCmds.symm.trans hg')
 obtain rfl := Option.some.inj (gCmdsType.symm.trans ht')
 rw [laid_tabD] at hd
 have hc := cells_of_cmds hd
 intro j v hj
 have hj2 : j < 32 := by
  rcases Nat.lt_or_ge j 32 with h | h
  ·exact h
  ·rw [List.getElem?_eq_none (show ccells.length ≤ j from h)] at hj; cases hj
 have hv := World.var?_cell gCmds hvar j
 rw [Nat.zero_add]
 rw [hv]
 have hq := ccells_at (k := j / 2) (j := j % 2) (by omega) (by omega)
 rw [show j / 2 * 2 + j % 2 = j by omega] at hq
 rw [hq] at hj
 obtain ⟨a, b⟩ := hc (j / 2) (by omega)
 rcases Nat.mod_two_eq_zero_or_one j with h | h
 ·rw [h] at hj
  rw [show j / 2 * 2 = j by omega] at a
  rw [← Array.getElem?_toList, a]
  exact hj
 ·rw [h] at hj
  rw [show j / 2 * 2 + 1 = j by omega] at b
  rw [← Array.getElem?_toList, b]
  exact hj
end
end Go.Proofs.YtmffnkfohmbbeaaGreatDoor
