/-
  CommandTells: for every input its function returns true and leaves the arguments as they were. Conditions: those of the given card.
-/
import Derived.Test.YtmffnkfohmbbeaaGreatDoorCards
import Derived.Test.YtmffnkfohmbbeaaGreatDoorTie
import Derived.Test.YtmffnkfohmbbeaaGreatDoorCi0
import Derived.Test.YtmffnkfohmbbeaaGreatDoorCi1
import Derived.Test.YtmffnkfohmbbeaaGreatDoorCi2
import Derived.Test.YtmffnkfohmbbeaaGreatDoorCi3
import Derived.Test.YtmffnkfohmbbeaaGreatDoorCi4
import Derived.Test.YtmffnkfohmbbeaaGreatDoorCi5
import Derived.Test.YtmffnkfohmbbeaaGreatDoorCi6
import Derived.Test.YtmffnkfohmbbeaaGreatDoorCi7
import Derived.Test.YtmffnkfohmbbeaaGreatDoorCi8
import Derived.Test.YtmffnkfohmbbeaaGreatDoorCi9
import Derived.Test.YtmffnkfohmbbeaaGreatDoorCi10
import Derived.Test.YtmffnkfohmbbeaaGreatDoorCi11
import Derived.Test.YtmffnkfohmbbeaaGreatDoorCi12
import Derived.Test.YtmffnkfohmbbeaaGreatDoorCi13
import Derived.Test.YtmffnkfohmbbeaaGreatDoorCi14
import Derived.Test.YtmffnkfohmbbeaaGreatDoorCi15
import Derived.Test.YtmffnkfohmbbeaaGreatDoorCi16
import Derived.Test.YtmffnkfohmbbeaaGreatDoorCi17
import Derived.Test.YtmffnkfohmbbeaaGreatDoorCi18
import Derived.Test.YtmffnkfohmbbeaaGreatDoorCi19
import Derived.Test.YtmffnkfohmbbeaaGreatDoorCi20
import Derived.Test.YtmffnkfohmbbeaaGreatDoorCi21
import Derived.Test.YtmffnkfohmbbeaaGreatDoorCi22
import Derived.Test.YtmffnkfohmbbeaaGreatDoorCi23
import Derived.Test.YtmffnkfohmbbeaaGreatDoorCi24
set_option linter.unusedSimpArgs false
set_option linter.unusedVariables false
namespace Go.Proofs.YtmffnkfohmbbeaaGreatDoor.commandTellsC
open Go.ChangeShapes Go.WideShapes Go.ChangeAt Go.RowKit CM

theorem own : ownKnob Tryz.prog.godebug = none := by kernel_rfl
theorem table {W : World} (h : laidMetH Tryz.prog Rows.commandTellsRow.laid W) : Cmds W := cmds_of_laid (rest := []) h
theorem laidOut : laidOutB Tryz.prog = true := by kernel_rfl
theorem readable : ∀ t ∈ Tryz.f3.params.toList, Tryz.prog.readableRec t = true ∧ t < Tryz.prog.types.size := by
  intro t ht
  rw [Tryz.params3] at ht
  simp only [List.mem_cons, List.not_mem_nil, or_false] at ht
  rcases ht with rfl | rfl | rfl
  all_goals exact ⟨by kernel_rfl, of_decide_eq_true (by kernel_rfl)⟩

set_option maxRecDepth 100000 in
theorem contract (H : Type) (enc : TypeId × Value → H) (W : World) (base : Nat) (args : Array Value) (ds gs : List (DataW H)) (before : List MemPlace)
    (hval : ∀ (j : Nat) t v, Tryz.f3.params[j]? = some t → args[j]? = some v → Value.okWide Tryz.prog W .any base t v)
    (hW : DataW.Whole enc Tryz.prog Tryz.f3.params.toList Rows.commandTellsSpec.vars false W args.toList ds gs before) (hL : laidMetH Tryz.prog Rows.commandTellsRow.laid W) (hk : Rows.uptoSmall H (ds ++ gs) = true) :
    Calls Tryz.prog 3 args W fun e W' => ∃ v, e = .returned v ∧ Rows.commandTellsSpec.post enc Tryz.prog Tryz.f3 false true false false W args v W' := by
  have hW' := hW
  obtain ⟨p, q, hA0, hV, hpq, _, _⟩ := hW
  have hA : DataW.TrodAll enc Tryz.prog W 0 (fun _ => true) true Tryz.f3.params.toList args.toList ds p := hA0
  have hgs := hV
  rw [Tryz.params3] at hA hval
  obtain ⟨v0, vs0, d0, ds0, p0, q0, hargs, rfl, rfl, h0, r0⟩ := trodAll_cons hA
  obtain ⟨v1, vs1, d1, ds1, p1, q1, rfl, rfl, rfl, h1, r1⟩ := trodAll_cons r0
  obtain ⟨v2, vs2, d2, ds2, p2, q2, rfl, rfl, rfl, h2, r2⟩ := trodAll_cons r1
  obtain ⟨rfl, rfl, rfl⟩ := trodAll_nil r2
  obtain rfl : args = #[v0, v1, v2] := by cases args; simp_all
  obtain ⟨rfl, rfl⟩ := trodVars_none hV
  have hsm := small_two hk
  have hclose : ∀ W' : World, Below W.heap.size W W' → Rows.commandTellsSpec.post enc Tryz.prog Tryz.f3 false true false false W #[v0, v1, v2] (.bool true) W' := fun W' hb =>
    post_true laidOut readable rfl rfl Tryz.underlying4 rfl hW' hb
  have hT := table hL
  obtain ⟨x0, rfl, hN0, hB0⟩ := open_cmdU (hval 0 30 v0 rfl rfl) h0
  obtain ⟨x1, rfl, hN1, hB1⟩ := open_cmdU (hval 1 30 v1 rfl rfl) h1
  obtain ⟨a2, rfl, rfl, rfl, wf2⟩ := open_int Tryz.underlying3 (hval 2 3 v2 rfl rfl) h2
  refine (commandTells_any x0 x1 a2 W hT hN0 hN1 (volC_sml (by omega)) (volC_sml (by omega)) (ctx_len (by omega))).mono fun e W' ⟨he, hb⟩ => ?_
  exact ⟨_, he, hclose W' hb⟩

/-- A world for the witness. -/
noncomputable def laidWorld (os : Os) : World :=
  { World.holding Tryz.prog os ⟨#[], #[], []⟩ with heap := (World.holding Tryz.prog os ⟨#[], #[], []⟩).heap.modify 0 fun
      | .cells _ t frozen => .cells ccells.toArray t frozen
      | o => o }
theorem laid_met (os : Os) : laidMet Tryz.prog Rows.commandTellsUptoRow.laid ((laidWorld os).forCall (fun _ _ => 0) ⟨#[], #[.agg (cv c0), .agg (cv c0), .int .i64 0], []⟩).memory :=
  laidMet_of_run' 8 (by kernel_rfl) (by kernel_rfl)
theorem reads (os : Os) {H : Type} (enc : TypeId × Value → H) : ∃ places, DataW.whole enc Tryz.prog ((laidWorld os).forCall (fun _ _ => 0) ⟨#[], #[.agg (cv c0), .agg (cv c0), .int .i64 0], []⟩).memory Tryz.f3.params.toList Rows.commandTellsSpec.vars false #[(.agg (cv c0) : Value), .agg (cv c0), .int .i64 0].toList 8 = some ([.agg [.lit (.int .i64 0), .lit (.int .i64 0), .agg [.lit (.string []), .lit (.int .i64 0)], .nil, .nil, .lit (.int .i64 0), .agg [.lit (.int .i64 0), .lit (.int .i64 0), .lit (.string []), .nil, .nil], .agg [.lit (.int .i64 0), .lit (.int .i64 0), .lit (.string []), .nil, .nil]], .agg [.lit (.int .i64 0), .lit (.int .i64 0), .agg [.lit (.string []), .lit (.int .i64 0)], .nil, .nil, .lit (.int .i64 0), .agg [.lit (.int .i64 0), .lit (.int .i64 0), .lit (.string []), .nil, .nil], .agg [.lit (.int .i64 0), .lit (.int .i64 0), .lit (.string []), .nil, .nil]], .lit (.int .i64 0)], [], places) :=
  ⟨[], by kernel_rfl⟩

set_option maxRecDepth 100000 in
theorem lifted (os : Os) (started : os.Started) (H : Type) (enc : TypeId × Value → H) (F : Stop.Interp) :
    ReturnsInHanded {} Tryz.checked os 3 .any ((Rows.OpenSpec.upto Rows.commandTellsSpec).preRow enc Tryz.prog Tryz.f3 Rows.commandTellsUptoRow.domain false Rows.commandTellsUptoRow.laid) (((Rows.OpenSpec.upto Rows.commandTellsSpec).at F).post enc Tryz.prog Tryz.f3 false true false false) := by
  obtain ⟨places, hx⟩ := reads os enc
  refine returnsInHanded_of_row (C := Tryz.checked) (s := Rows.OpenSpec.upto Rows.commandTellsSpec) own started (by kernel_rfl) Tryz.func3
    (witness_row_at (enc := enc) (C := Tryz.checked) false (laidWorld os) #[.agg (cv c0), .agg (cv c0), .int .i64 0] rfl (by kernel_rfl) (by kernel_rfl) (by kernel_rfl)
      (OpenSpec.preRow_of_cond 8 hx (by kernel_rfl) (fun k hk => by cases hk; kernel_rfl) (by kernel_rfl) (laid_met os))) ?_
  intro W base args ds gs before hval hW _ hcond _ hL _ _
  exact contract H enc W base args ds gs before hval hW hL (hcond _ rfl)

theorem said : Rows.CommandTellsUptoSaid :=
  OpenClaim.holds_of_cond 3 Tryz.f3 rfl rfl rfl rfl rfl rfl rfl ⟨rfl, rfl, rfl, rfl, rfl⟩ rfl rfl rfl rfl rfl (by kernel_rfl) Tryz.func3 (by kernel_rfl)
    (of_decide_eq_true (by kernel_rfl)) (by unfold Func.isWrapper; first | (rw [if_pos (by decide +kernel)]; kernel_rfl) | (rw [if_neg (by decide +kernel)]; exact ⟨rfl, rfl⟩))
    (fun os started H enc _ F => by rw [OpenClaim.pre_eq_preRow]; exact lifted os started H enc F)

theorem plain (f : FuncId) (fn : Func) (hf : Tryz.pinned.checked.prog.funcNamed "clearance/clearancelaw12.CommandTells" = some f) (hfn : Tryz.pinned.checked.prog.funcs[f]? = some fn) :
    false = Tryz.pinned.checked.prog.looks [] ∧ ∀ (j : Nat) t, fn.params[j]? = some t → Tryz.pinned.checked.prog.wantsStandIn t = false := by
  obtain rfl : f = 3 := Option.some.inj ((show Tryz.prog.funcNamed "clearance/clearancelaw12.CommandTells" = some 3 by kernel_rfl).symm.trans hf) |>.symm
  obtain rfl : fn = Tryz.f3 := (Option.some.inj (Tryz.func3.symm.trans hfn)).symm
  refine ⟨by kernel_rfl, fun j t ht => ?_⟩
  rw [Tryz.params3] at ht
  have hm := List.mem_of_getElem? (by simpa using ht)
  simp only [List.mem_cons, List.not_mem_nil, or_false] at hm
  rcases hm with rfl | rfl | rfl
  · exact (show Tryz.prog.wantsStandIn 30 = false by kernel_rfl)
  · exact (show Tryz.prog.wantsStandIn 30 = false by kernel_rfl)
  · exact (show Tryz.prog.wantsStandIn 3 = false by kernel_rfl)

theorem card : Rows.CommandTellsUptoCardSaid :=
  Claim7.holds_tied_plain_at .later [] _ _ _ _ said (fun _ h => by cases h) (by kernel_rfl) (fun _ h => by cases h) commandTellsUpto_row_tie rfl ⟨rfl, rfl⟩ (by kernel_rfl) rfl plain (by kernel_rfl)

end Go.Proofs.YtmffnkfohmbbeaaGreatDoor.commandTellsC
