/-
  CodeRuns: for every input its function returns true and leaves the arguments as they were. Conditions: those of the given card.
-/
import Derived.Test.YtppcjocmjpbmmaaGreatDoorCards
import Derived.Test.YtppcjocmjpbmmaaGreatDoorTie
import Derived.Test.YtppcjocmjpbmmaaGreatDoorCk0
import Derived.Test.YtppcjocmjpbmmaaGreatDoorCk1
import Derived.Test.YtppcjocmjpbmmaaGreatDoorCk2
import Derived.Test.YtppcjocmjpbmmaaGreatDoorCk3
import Derived.Test.YtppcjocmjpbmmaaGreatDoorCk4
import Derived.Test.YtppcjocmjpbmmaaGreatDoorCk5
import Derived.Test.YtppcjocmjpbmmaaGreatDoorCk6
import Derived.Test.YtppcjocmjpbmmaaGreatDoorCk7
import Derived.Test.YtppcjocmjpbmmaaGreatDoorCk8
import Derived.Test.YtppcjocmjpbmmaaGreatDoorCk9
import Derived.Test.YtppcjocmjpbmmaaGreatDoorCk10
import Derived.Test.YtppcjocmjpbmmaaGreatDoorCk11
import Derived.Test.YtppcjocmjpbmmaaGreatDoorCk12
import Derived.Test.YtppcjocmjpbmmaaGreatDoorCk13
import Derived.Test.YtppcjocmjpbmmaaGreatDoorCk14
import Derived.Test.YtppcjocmjpbmmaaGreatDoorCk15
import Derived.Test.YtppcjocmjpbmmaaGreatDoorCk16
import Derived.Test.YtppcjocmjpbmmaaGreatDoorCk17
import Derived.Test.YtppcjocmjpbmmaaGreatDoorCk18
import Derived.Test.YtppcjocmjpbmmaaGreatDoorCk19
import Derived.Test.YtppcjocmjpbmmaaGreatDoorCk20
import Derived.Test.YtppcjocmjpbmmaaGreatDoorCk21
import Derived.Test.YtppcjocmjpbmmaaGreatDoorCk22
import Derived.Test.YtppcjocmjpbmmaaGreatDoorCk23
import Derived.Test.YtppcjocmjpbmmaaGreatDoorCk24
import Derived.Test.YtppcjocmjpbmmaaGreatDoorCk25
import Derived.Test.YtppcjocmjpbmmaaGreatDoorCk26
import Derived.Test.YtppcjocmjpbmmaaGreatDoorCk27
import Derived.Test.YtppcjocmjpbmmaaGreatDoorCk28
import Derived.Test.YtppcjocmjpbmmaaGreatDoorCk29
import Derived.Test.YtppcjocmjpbmmaaGreatDoorCk30
import Derived.Test.YtppcjocmjpbmmaaGreatDoorCk31
import Derived.Test.YtppcjocmjpbmmaaGreatDoorCk32
namespace Go.Proofs.YtppcjocmjpbmmaaGreatDoor.codeRunsC
open Go.ChangeShapes Go.WideShapes Go.ChangeAt Go.RowKit

theorem own : ownKnob Tryz.prog.godebug = none := by kernel_rfl
theorem gTab : Tryz.prog.globalNamed "math/bits.deBruijn64tab" = some 0 := by kernel_rfl
theorem gTabType : (Tryz.prog.globals[0]?).map (·.type) = some 187 := by kernel_rfl
theorem cellsT : Tryz.prog.cellsOf 187 = 64 := by kernel_rfl
theorem cells5 : Tryz.prog.cellsOf 5 = 1 := by kernel_rfl
theorem table {W : World} (h : laidMetH Tryz.prog Rows.codeRunsRow.laid W) : Tab W := by
  have ht : Lib.TabIs Tryz.prog W "math/bits.deBruijn64tab" .u8 (Lib.deBruijn64tab.map Int.ofNat) :=
    Lib.tabIs_of_head (rest := []) gTab gTabType Tryz.underlying187 Tryz.underlying5 cells5 cellsT h
  intro j hj
  have hc := ht.cell gTab j (by simpa [Lib.deBruijn64tab] using hj)
  rw [hc]
  have hl : j < Lib.deBruijn64tab.length := by simpa [Lib.deBruijn64tab] using hj
  simp only [List.getD_eq_getElem?_getD, List.getElem?_map, List.getElem?_eq_getElem hl, Option.map_some, Option.getD_some, Int.ofNat_eq_natCast]
theorem laidOut : laidOutB Tryz.prog = true := by kernel_rfl
theorem readable : ∀ t ∈ Tryz.f3.params.toList, Tryz.prog.readableRec t = true ∧ t < Tryz.prog.types.size := by
  intro t ht
  rw [Tryz.params3] at ht
  simp only [List.mem_cons, List.not_mem_nil, or_false] at ht
  rcases ht with rfl | rfl | rfl
  all_goals exact ⟨by kernel_rfl, of_decide_eq_true (by kernel_rfl)⟩

set_option maxRecDepth 100000 in
theorem contract (H : Type) (enc : TypeId × Value → H) (W : World) (base : Nat) (args : Array Value) (ds gs : List (DataW H)) (before : List MemPlace)
    (hval : ∀ (j : Nat) t v, Tryz.f3.params[j]? = some t → args[j]? = some v → Value.okWide Tryz.prog W .any base t v)
    (hW : DataW.Whole enc Tryz.prog Tryz.f3.params.toList Rows.codeRunsSpec.vars false W args.toList ds gs before) (hL : laidMetH Tryz.prog Rows.codeRunsRow.laid W) :
    Calls Tryz.prog 3 args W fun e W' => ∃ v, e = .returned v ∧ Rows.codeRunsSpec.post enc Tryz.prog Tryz.f3 false true false false W args v W' := by
  have hW' := hW
  obtain ⟨p, q, hA0, hV, hpq, _, _⟩ := hW
  have hA : DataW.TrodAll enc Tryz.prog W 0 (fun _ => true) true Tryz.f3.params.toList args.toList ds p := hA0
  have hgs := hV
  rw [Tryz.params3] at hA hval
  obtain ⟨v0, vs0, d0, ds0, p0, q0, hargs, rfl, rfl, h0, r0⟩ := trodAll_cons hA
  obtain ⟨v1, vs1, d1, ds1, p1, q1, rfl, rfl, rfl, h1, r1⟩ := trodAll_cons r0
  obtain ⟨v2, vs2, d2, ds2, p2, q2, rfl, rfl, rfl, h2, r2⟩ := trodAll_cons r1
  obtain ⟨rfl, rfl, rfl⟩ := trodAll_nil r2
  obtain rfl : args = #[v0, v1, v2] := by cases args; simp_all
  obtain ⟨rfl, rfl⟩ := trodVars_none hV
  have hclose : ∀ W' : World, Below W.heap.size W W' → Rows.codeRunsSpec.post enc Tryz.prog Tryz.f3 false true false false W #[v0, v1, v2] (.bool true) W' := fun W' hb =>
    post_true laidOut readable rfl rfl Tryz.underlying4 rfl hW' hb
  have hT := table hL
  obtain ⟨t0, A0, c0, f0, rfl, hn0, hF0⟩ := open_shape (hval 0 24 v0 rfl rfl) h0
  obtain ⟨A1, c1, l1, rfl, hL1⟩ := open_inss (hval 1 25 v1 rfl rfl) h1
  obtain ⟨B2, d2x, e2, rfl, hE2, hL2⟩ := open_elems (hval 2 26 v2 rfl rfl) h2
  refine (codeRuns_any t0 A0 c0 f0 A1 c1 l1 B2 d2x e2 W hT hF0 hL1 hL2 hE2).mono fun e W' ⟨he, hb⟩ => ?_
  exact ⟨_, he, hclose W' hb⟩

/-- A world for the witness. -/
noncomputable def laidWorld (os : Os) : World :=
  { World.holding Tryz.prog os ⟨#[], #[], []⟩ with heap := (World.holding Tryz.prog os ⟨#[], #[], []⟩).heap.modify 0 fun
      | .cells _ t frozen => .cells (Lib.deBruijn64tab.map fun (z : Nat) => Value.int .u8 (Int.ofNat z)).toArray t frozen
      | o => o }
theorem laid_met (os : Os) : laidMet Tryz.prog Rows.codeRunsRow.laid ((laidWorld os).forCall (fun _ _ => 0) ⟨#[], #[.agg (sv false none 0 0), .slice none 0 0, .slice none 0 0], []⟩).memory :=
  laidMet_of_run' 8 (by kernel_rfl) (by kernel_rfl)
theorem reads (os : Os) {H : Type} (enc : TypeId × Value → H) : ∃ places, DataW.whole enc Tryz.prog ((laidWorld os).forCall (fun _ _ => 0) ⟨#[], #[.agg (sv false none 0 0), .slice none 0 0, .slice none 0 0], []⟩).memory Tryz.f3.params.toList Rows.codeRunsSpec.vars false #[(.agg (sv false none 0 0) : Value), .slice none 0 0, .slice none 0 0].toList 8 = some ([.agg [.lit (.bool false), .nil], .nil, .nil], [], places) :=
  ⟨[], by kernel_rfl⟩

set_option maxRecDepth 100000 in
theorem lifted (os : Os) (started : os.Started) (H : Type) (enc : TypeId × Value → H) (F : Stop.Interp) :
    ReturnsInHanded {} Tryz.checked os 3 .any ((OpenSpec.ofChange Rows.codeRunsSpec).preRow enc Tryz.prog Tryz.f3 Rows.codeRunsRow.domain false Rows.codeRunsRow.laid) (((OpenSpec.ofChange Rows.codeRunsSpec).at F).post enc Tryz.prog Tryz.f3 false true false false) := by
  obtain ⟨places, hx⟩ := reads os enc
  refine returnsInHanded_of_row (C := Tryz.checked) (s := OpenSpec.ofChange Rows.codeRunsSpec) own started (by kernel_rfl) Tryz.func3
    (witness_row_at (enc := enc) (C := Tryz.checked) false (laidWorld os) #[.agg (sv false none 0 0), .slice none 0 0, .slice none 0 0] rfl (by kernel_rfl) (by kernel_rfl) (by kernel_rfl)
      (OpenSpec.preRow_of_cond 8 hx (by kernel_rfl) (fun k hk => by cases hk) (by kernel_rfl) (laid_met os))) ?_
  intro W base args ds gs before hval hW _ _ _ hL _ _
  exact contract H enc W base args ds gs before hval hW hL

theorem said : Rows.CodeRunsSaid :=
  OpenClaim.holds_of_cond 3 Tryz.f3 rfl rfl rfl rfl rfl rfl rfl ⟨rfl, rfl, rfl, rfl, rfl⟩ rfl rfl rfl rfl rfl (by kernel_rfl) Tryz.func3 (by kernel_rfl)
    (of_decide_eq_true (by kernel_rfl)) (by unfold Func.isWrapper; first | (rw [if_pos (by decide +kernel)]; kernel_rfl) | (rw [if_neg (by decide +kernel)]; exact ⟨rfl, rfl⟩))
    (fun os started H enc _ F => by rw [OpenClaim.pre_eq_preRow]; exact lifted os started H enc F)

theorem plain (f : FuncId) (fn : Func) (hf : Tryz.pinned.checked.prog.funcNamed "clearance/clearancelaw14.CodeRuns" = some f) (hfn : Tryz.pinned.checked.prog.funcs[f]? = some fn) :
    false = Tryz.pinned.checked.prog.looks [] ∧ ∀ (j : Nat) t, fn.params[j]? = some t → Tryz.pinned.checked.prog.wantsStandIn t = false := by
  obtain rfl : f = 3 := Option.some.inj ((show Tryz.prog.funcNamed "clearance/clearancelaw14.CodeRuns" = some 3 by kernel_rfl).symm.trans hf) |>.symm
  obtain rfl : fn = Tryz.f3 := (Option.some.inj (Tryz.func3.symm.trans hfn)).symm
  refine ⟨by kernel_rfl, fun j t ht => ?_⟩
  rw [Tryz.params3] at ht
  have hm := List.mem_of_getElem? (by simpa using ht)
  simp only [List.mem_cons, List.not_mem_nil, or_false] at hm
  rcases hm with rfl | rfl | rfl
  · exact (show Tryz.prog.wantsStandIn 24 = false by kernel_rfl)
  · exact (show Tryz.prog.wantsStandIn 25 = false by kernel_rfl)
  · exact (show Tryz.prog.wantsStandIn 26 = false by kernel_rfl)

theorem card : Rows.CodeRunsCardSaid :=
  Claim7.holds_tied_plain_at .later [] _ _ _ _ said (fun _ h => by cases h) (by kernel_rfl) (fun _ h => by cases h) codeRuns_row_tie rfl ⟨rfl, rfl⟩ (by kernel_rfl) rfl plain (by kernel_rfl)

end Go.Proofs.YtppcjocmjpbmmaaGreatDoor.codeRunsC
