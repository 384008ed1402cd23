/-
  AssignFields: for every input its function returns true and leaves the arguments as they were. Conditions: those of the given card.
-/
import Derived.Test.YtnfndapgcpdcpaaGreatDoorCards
import Derived.Test.YtnfndapgcpdcpaaGreatDoorTie
import Derived.Test.YtnfndapgcpdcpaaGreatDoorFa0
import Derived.Test.YtnfndapgcpdcpaaGreatDoorFa1
import Derived.Test.YtnfndapgcpdcpaaGreatDoorFa2
import Derived.Test.YtnfndapgcpdcpaaGreatDoorFa3
import Derived.Test.YtnfndapgcpdcpaaGreatDoorFa4
import Derived.Test.YtnfndapgcpdcpaaGreatDoorFa5
import Derived.Test.YtnfndapgcpdcpaaGreatDoorFa6
import Derived.Test.YtnfndapgcpdcpaaGreatDoorFa7
import Derived.Test.YtnfndapgcpdcpaaGreatDoorFa8
import Derived.Test.YtnfndapgcpdcpaaGreatDoorFa9
import Derived.Test.YtnfndapgcpdcpaaGreatDoorFa10
import Derived.Test.YtnfndapgcpdcpaaGreatDoorFa11
import Derived.Test.YtnfndapgcpdcpaaGreatDoorFa12
import Derived.Test.YtnfndapgcpdcpaaGreatDoorFa13
import Derived.Test.YtnfndapgcpdcpaaGreatDoorFa14
import Derived.Test.YtnfndapgcpdcpaaGreatDoorFa15
import Derived.Test.YtnfndapgcpdcpaaGreatDoorFa16
import Derived.Test.YtnfndapgcpdcpaaGreatDoorFa17
import Derived.Test.YtnfndapgcpdcpaaGreatDoorFa18
import Derived.Test.YtnfndapgcpdcpaaGreatDoorFa19
import Derived.Test.YtnfndapgcpdcpaaGreatDoorFa20
import Derived.Test.YtnfndapgcpdcpaaGreatDoorFa21
import Derived.Test.YtnfndapgcpdcpaaGreatDoorFa22
import Derived.Test.YtnfndapgcpdcpaaGreatDoorFa23
import Derived.Test.YtnfndapgcpdcpaaGreatDoorFa24
import Derived.Test.YtnfndapgcpdcpaaGreatDoorFa25
import Derived.Test.YtnfndapgcpdcpaaGreatDoorFa26
import Derived.Test.YtnfndapgcpdcpaaGreatDoorFa27
import Derived.Test.YtnfndapgcpdcpaaGreatDoorFa28
import Derived.Test.YtnfndapgcpdcpaaGreatDoorFa29
import Derived.Test.YtnfndapgcpdcpaaGreatDoorFa30
import Derived.Test.YtnfndapgcpdcpaaGreatDoorFa31
import Derived.Test.YtnfndapgcpdcpaaGreatDoorFa32
import Derived.Test.YtnfndapgcpdcpaaGreatDoorFa33
import Derived.Test.YtnfndapgcpdcpaaGreatDoorFa34
import Derived.Test.YtnfndapgcpdcpaaGreatDoorFa35
import Derived.Test.YtnfndapgcpdcpaaGreatDoorFa36
import Derived.Test.YtnfndapgcpdcpaaGreatDoorFa37
import Derived.Test.YtnfndapgcpdcpaaGreatDoorFa38
import Derived.Test.YtnfndapgcpdcpaaGreatDoorFa39
namespace Go.Proofs.YtnfndapgcpdcpaaGreatDoor.assignFieldsC
open Go.ChangeShapes Go.WideShapes Go.ChangeAt Go.RowKit

theorem own : ownKnob Tryz.prog.godebug = none := by kernel_rfl
theorem gTab : Tryz.prog.globalNamed "math/bits.deBruijn64tab" = some 0 := by kernel_rfl
theorem gTabType : (Tryz.prog.globals[0]?).map (·.type) = some 200 := by kernel_rfl
theorem cellsT : Tryz.prog.cellsOf 200 = 64 := by kernel_rfl
theorem cells5 : Tryz.prog.cellsOf 5 = 1 := by kernel_rfl
theorem table {W : World} (h : laidMetH Tryz.prog Rows.assignFieldsRow.laid W) : Tab W := by
  have ht : Lib.TabIs Tryz.prog W "math/bits.deBruijn64tab" .u8 (Lib.deBruijn64tab.map Int.ofNat) :=
    Lib.tabIs_of_head (rest := []) gTab gTabType Tryz.underlying200 Tryz.underlying5 cells5 cellsT h
  intro j hj
  have hc := ht.cell gTab j (by simpa [Lib.deBruijn64tab] using hj)
  rw [hc]
  have hl : j < Lib.deBruijn64tab.length := by simpa [Lib.deBruijn64tab] using hj
  simp only [List.getD_eq_getElem?_getD, List.getElem?_map, List.getElem?_eq_getElem hl, Option.map_some, Option.getD_some, Int.ofNat_eq_natCast]
theorem laidOut : laidOutB Tryz.prog = true := by kernel_rfl
theorem readable : ∀ t ∈ Tryz.f5.params.toList, Tryz.prog.readableRec t = true ∧ t < Tryz.prog.types.size := by
  intro t ht
  rw [Tryz.params5] at ht
  simp only [List.mem_cons, List.not_mem_nil, or_false] at ht
  rcases ht with rfl | rfl | rfl
  all_goals exact ⟨by kernel_rfl, of_decide_eq_true (by kernel_rfl)⟩

set_option maxRecDepth 100000 in
theorem contract (H : Type) (enc : TypeId × Value → H) (W : World) (base : Nat) (args : Array Value) (ds gs : List (DataW H)) (before : List MemPlace)
    (hval : ∀ (j : Nat) t v, Tryz.f5.params[j]? = some t → args[j]? = some v → Value.okWide Tryz.prog W .any base t v)
    (hW : DataW.Whole enc Tryz.prog Tryz.f5.params.toList Rows.assignFieldsSpec.vars false W args.toList ds gs before) (hL : laidMetH Tryz.prog Rows.assignFieldsRow.laid W) :
    Calls Tryz.prog 5 args W fun e W' => ∃ v, e = .returned v ∧ Rows.assignFieldsSpec.post enc Tryz.prog Tryz.f5 false true false false W args v W' := by
  have hW' := hW
  obtain ⟨p, q, hA0, hV, hpq, _, _⟩ := hW
  have hA : DataW.TrodAll enc Tryz.prog W 0 (fun _ => true) true Tryz.f5.params.toList args.toList ds p := hA0
  have hgs := hV
  rw [Tryz.params5] at hA hval
  obtain ⟨v0, vs0, d0, ds0, p0, q0, hargs, rfl, rfl, h0, r0⟩ := trodAll_cons hA
  obtain ⟨v1, vs1, d1, ds1, p1, q1, rfl, rfl, rfl, h1, r1⟩ := trodAll_cons r0
  obtain ⟨v2, vs2, d2, ds2, p2, q2, rfl, rfl, rfl, h2, r2⟩ := trodAll_cons r1
  obtain ⟨rfl, rfl, rfl⟩ := trodAll_nil r2
  obtain rfl : args = #[v0, v1, v2] := by cases args; simp_all
  obtain ⟨rfl, rfl⟩ := trodVars_none hV
  have hclose : ∀ W' : World, Below W.heap.size W W' → Rows.assignFieldsSpec.post enc Tryz.prog Tryz.f5 false true false false W #[v0, v1, v2] (.bool true) W' := fun W' hb =>
    post_true laidOut readable rfl rfl Tryz.underlying4 rfl hW' hb
  have hT := table hL
  obtain ⟨A0, c0, l0, rfl, hL0⟩ := open_vals (hval 0 38 v0 rfl rfl) h0
  obtain ⟨y1, rfl, hY1⟩ := open_vl (hval 1 43 v1 rfl rfl) h1
  obtain ⟨a2, rfl, rfl, rfl, wf2⟩ := Go.ChangeMaps.open_string Tryz.underlying9 (hval 2 9 v2 rfl rfl) h2
  refine (assignFields_any A0 c0 l0 y1 a2 W hT hL0).mono fun e W' ⟨he, hb⟩ => ?_
  exact ⟨_, he, hclose W' hb⟩

/-- A world for the witness. -/
noncomputable def laidWorld (os : Os) : World :=
  { World.holding Tryz.prog os ⟨#[], #[], []⟩ with heap := (World.holding Tryz.prog os ⟨#[], #[], []⟩).heap.modify 0 fun
      | .cells _ t frozen => .cells (Lib.deBruijn64tab.map fun (z : Nat) => Value.int .u8 (Int.ofNat z)).toArray t frozen
      | o => o }
theorem laid_met (os : Os) : laidMet Tryz.prog Rows.assignFieldsRow.laid ((laidWorld os).forCall (fun _ _ => 0) ⟨#[], #[.slice none 0 0, .agg (vlC vl0).toArray, .string ByteArray.empty], []⟩).memory :=
  laidMet_of_run' 8 (by kernel_rfl) (by kernel_rfl)
theorem reads (os : Os) {H : Type} (enc : TypeId × Value → H) : ∃ places, DataW.whole enc Tryz.prog ((laidWorld os).forCall (fun _ _ => 0) ⟨#[], #[.slice none 0 0, .agg (vlC vl0).toArray, .string ByteArray.empty], []⟩).memory Tryz.f5.params.toList Rows.assignFieldsSpec.vars false #[(.slice none 0 0 : Value), .agg (vlC vl0).toArray, .string ByteArray.empty].toList 8 = some ([.nil, .agg [.lit (.string []), .agg (List.replicate 8 (.lit (.int .u64 0)))], .lit (.string [])], [], places) :=
  ⟨[], by kernel_rfl⟩

set_option maxRecDepth 100000 in
theorem lifted (os : Os) (started : os.Started) (H : Type) (enc : TypeId × Value → H) (F : Stop.Interp) :
    ReturnsInHanded {} Tryz.checked os 5 .any ((OpenSpec.ofChange Rows.assignFieldsSpec).preRow enc Tryz.prog Tryz.f5 Rows.assignFieldsRow.domain false Rows.assignFieldsRow.laid) (((OpenSpec.ofChange Rows.assignFieldsSpec).at F).post enc Tryz.prog Tryz.f5 false true false false) := by
  obtain ⟨places, hx⟩ := reads os enc
  refine returnsInHanded_of_row (C := Tryz.checked) (s := OpenSpec.ofChange Rows.assignFieldsSpec) own started (by kernel_rfl) Tryz.func5
    (witness_row_at (enc := enc) (C := Tryz.checked) false (laidWorld os) #[.slice none 0 0, .agg (vlC vl0).toArray, .string ByteArray.empty] rfl (by kernel_rfl) (by kernel_rfl) (by kernel_rfl)
      (OpenSpec.preRow_of_cond 8 hx (by kernel_rfl) (fun k hk => by cases hk) (by kernel_rfl) (laid_met os))) ?_
  intro W base args ds gs before hval hW _ _ _ hL _ _
  exact contract H enc W base args ds gs before hval hW hL

theorem said : Rows.AssignFieldsSaid :=
  OpenClaim.holds_of_cond 5 Tryz.f5 rfl rfl rfl rfl rfl rfl rfl ⟨rfl, rfl, rfl, rfl, rfl⟩ rfl rfl rfl rfl rfl (by kernel_rfl) Tryz.func5 (by kernel_rfl)
    (of_decide_eq_true (by kernel_rfl)) (by unfold Func.isWrapper; first | (rw [if_pos (by decide +kernel)]; kernel_rfl) | (rw [if_neg (by decide +kernel)]; exact ⟨rfl, rfl⟩))
    (fun os started H enc _ F => by rw [OpenClaim.pre_eq_preRow]; exact lifted os started H enc F)

theorem plain (f : FuncId) (fn : Func) (hf : Tryz.pinned.checked.prog.funcNamed "clearance/clearancelaw18.AssignFields" = some f) (hfn : Tryz.pinned.checked.prog.funcs[f]? = some fn) :
    false = Tryz.pinned.checked.prog.looks [] ∧ ∀ (j : Nat) t, fn.params[j]? = some t → Tryz.pinned.checked.prog.wantsStandIn t = false := by
  obtain rfl : f = 5 := Option.some.inj ((show Tryz.prog.funcNamed "clearance/clearancelaw18.AssignFields" = some 5 by kernel_rfl).symm.trans hf) |>.symm
  obtain rfl : fn = Tryz.f5 := (Option.some.inj (Tryz.func5.symm.trans hfn)).symm
  refine ⟨by kernel_rfl, fun j t ht => ?_⟩
  rw [Tryz.params5] at ht
  have hm := List.mem_of_getElem? (by simpa using ht)
  simp only [List.mem_cons, List.not_mem_nil, or_false] at hm
  rcases hm with rfl | rfl | rfl
  · exact (show Tryz.prog.wantsStandIn 38 = false by kernel_rfl)
  · exact (show Tryz.prog.wantsStandIn 43 = false by kernel_rfl)
  · exact (show Tryz.prog.wantsStandIn 9 = false by kernel_rfl)

theorem card : Rows.AssignFieldsCardSaid :=
  Claim7.holds_tied_plain_at .later [] _ _ _ _ said (fun _ h => by cases h) (by kernel_rfl) (fun _ h => by cases h) assignFields_row_tie rfl ⟨rfl, rfl⟩ (by kernel_rfl) rfl plain (by kernel_rfl)

end Go.Proofs.YtnfndapgcpdcpaaGreatDoor.assignFieldsC
