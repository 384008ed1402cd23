/-
  TallyTwice: for every input its function returns true and leaves the arguments as they were. Conditions: those of the given card.
-/
import Derived.Test.YtdahllhbpdbknaaGreatDoorCards
import Derived.Test.YtdahllhbpdbknaaGreatDoorTie
import Derived.Test.YtdahllhbpdbknaaGreatDoorTc0
import Derived.Test.YtdahllhbpdbknaaGreatDoorTc1
import Derived.Test.YtdahllhbpdbknaaGreatDoorTc2
import Derived.Test.YtdahllhbpdbknaaGreatDoorTc3
import Derived.Test.YtdahllhbpdbknaaGreatDoorTc4
import Derived.Test.YtdahllhbpdbknaaGreatDoorTc5
import Derived.Test.YtdahllhbpdbknaaGreatDoorTc6
import Derived.Test.YtdahllhbpdbknaaGreatDoorTc7
import Derived.Test.YtdahllhbpdbknaaGreatDoorTc8
import Derived.Test.YtdahllhbpdbknaaGreatDoorTc9
import Derived.Test.YtdahllhbpdbknaaGreatDoorTc10
import Derived.Test.YtdahllhbpdbknaaGreatDoorTc11
import Derived.Test.YtdahllhbpdbknaaGreatDoorTc12
import Derived.Test.YtdahllhbpdbknaaGreatDoorTc13
import Derived.Test.YtdahllhbpdbknaaGreatDoorTc14
import Derived.Test.YtdahllhbpdbknaaGreatDoorTc15
import Derived.Test.YtdahllhbpdbknaaGreatDoorTc16
import Derived.Test.YtdahllhbpdbknaaGreatDoorTc17
import Derived.Test.YtdahllhbpdbknaaGreatDoorTc18
import Derived.Test.YtdahllhbpdbknaaGreatDoorTc19
import Derived.Test.YtdahllhbpdbknaaGreatDoorTc20
import Derived.Test.YtdahllhbpdbknaaGreatDoorTc21
import Derived.Test.YtdahllhbpdbknaaGreatDoorTc22
import Derived.Test.YtdahllhbpdbknaaGreatDoorTc23
import Derived.Test.YtdahllhbpdbknaaGreatDoorTc24
import Derived.Test.YtdahllhbpdbknaaGreatDoorTc25
import Derived.Test.YtdahllhbpdbknaaGreatDoorTc26
import Derived.Test.YtdahllhbpdbknaaGreatDoorTc27
import Derived.Test.YtdahllhbpdbknaaGreatDoorTc28
import Derived.Test.YtdahllhbpdbknaaGreatDoorTc29
import Derived.Test.YtdahllhbpdbknaaGreatDoorTc30
import Derived.Test.YtdahllhbpdbknaaGreatDoorTc31
namespace Go.Proofs.YtdahllhbpdbknaaGreatDoor.tallyTwiceC
open Go.ChangeShapes Go.WideShapes Go.ChangeAt Go.RowKit

theorem own : ownKnob Tryz.prog.godebug = none := by kernel_rfl
theorem gTab : Tryz.prog.globalNamed "math/bits.deBruijn64tab" = some 0 := by kernel_rfl
theorem gTabType : (Tryz.prog.globals[0]?).map (·.type) = some 174 := by kernel_rfl
theorem cellsT : Tryz.prog.cellsOf 174 = 64 := by kernel_rfl
theorem cells5 : Tryz.prog.cellsOf 5 = 1 := by kernel_rfl
theorem table {W : World} (h : laidMetH Tryz.prog Rows.tallyTwiceRow.laid W) : Tab W := by
  have ht : Lib.TabIs Tryz.prog W "math/bits.deBruijn64tab" .u8 (Lib.deBruijn64tab.map Int.ofNat) :=
    Lib.tabIs_of_head (rest := []) gTab gTabType Tryz.underlying174 Tryz.underlying5 cells5 cellsT h
  intro j hj
  have hc := ht.cell gTab j (by simpa [Lib.deBruijn64tab] using hj)
  rw [hc]
  have hl : j < Lib.deBruijn64tab.length := by simpa [Lib.deBruijn64tab] using hj
  simp only [List.getD_eq_getElem?_getD, List.getElem?_map, List.getElem?_eq_getElem hl, Option.map_some, Option.getD_some, Int.ofNat_eq_natCast]
theorem laidOut : laidOutB Tryz.prog = true := by kernel_rfl
theorem readable : ∀ t ∈ Tryz.f5.params.toList, Tryz.prog.readableRec t = true ∧ t < Tryz.prog.types.size := by
  intro t ht
  rw [Tryz.params5] at ht
  simp only [List.mem_cons, List.not_mem_nil, or_false] at ht
  rcases ht with rfl | rfl
  all_goals exact ⟨by kernel_rfl, of_decide_eq_true (by kernel_rfl)⟩

set_option maxRecDepth 100000 in
theorem contract (H : Type) (enc : TypeId × Value → H) (W : World) (base : Nat) (args : Array Value) (ds gs : List (DataW H)) (before : List MemPlace)
    (hval : ∀ (j : Nat) t v, Tryz.f5.params[j]? = some t → args[j]? = some v → Value.okWide Tryz.prog W .any base t v)
    (hW : DataW.Whole enc Tryz.prog Tryz.f5.params.toList Rows.tallyTwiceSpec.vars false W args.toList ds gs before) (hL : laidMetH Tryz.prog Rows.tallyTwiceRow.laid W) :
    Calls Tryz.prog 5 args W fun e W' => ∃ v, e = .returned v ∧ Rows.tallyTwiceSpec.post enc Tryz.prog Tryz.f5 false true false false W args v W' := by
  have hW' := hW
  obtain ⟨p, q, hA0, hV, hpq, _, _⟩ := hW
  have hA : DataW.TrodAll enc Tryz.prog W 0 (fun _ => true) true Tryz.f5.params.toList args.toList ds p := hA0
  have hgs := hV
  rw [Tryz.params5] at hA hval
  obtain ⟨v0, vs0, d0, ds0, p0, q0, hargs, rfl, rfl, h0, r0⟩ := trodAll_cons hA
  obtain ⟨v1, vs1, d1, ds1, p1, q1, rfl, rfl, rfl, h1, r1⟩ := trodAll_cons r0
  obtain ⟨rfl, rfl, rfl⟩ := trodAll_nil r1
  obtain rfl : args = #[v0, v1] := by cases args; simp_all
  obtain ⟨rfl, rfl⟩ := trodVars_none hV
  have hclose : ∀ W' : World, Below W.heap.size W W' → Rows.tallyTwiceSpec.post enc Tryz.prog Tryz.f5 false true false false W #[v0, v1] (.bool true) W' := fun W' hb =>
    post_true laidOut readable rfl rfl Tryz.underlying4 rfl hW' hb
  have hT := table hL
  obtain ⟨t0, A0, c0, f0, rfl, hn0, hF0⟩ := open_shape (hval 0 24 v0 rfl rfl) h0
  obtain ⟨A1, c1, l1, rfl, hc1, hm1, hn1, hL1, hP1⟩ := open_opxs (hval 1 25 v1 rfl rfl) h1
  refine (tallyTwice_any t0 A0 c0 f0 A1 c1 l1 W ⟨hT, hF0, hn0, hL1, hP1⟩).mono fun e W' ⟨he, hb⟩ => ?_
  exact ⟨_, he, hclose W' hb⟩

/-- A world for the witness. -/
noncomputable def laidWorld (os : Os) : World :=
  { World.holding Tryz.prog os ⟨#[], #[], []⟩ with heap := (World.holding Tryz.prog os ⟨#[], #[], []⟩).heap.modify 0 fun
      | .cells _ t frozen => .cells (Lib.deBruijn64tab.map fun (z : Nat) => Value.int .u8 (Int.ofNat z)).toArray t frozen
      | o => o }
theorem laid_met (os : Os) : laidMet Tryz.prog Rows.tallyTwiceRow.laid ((laidWorld os).forCall (fun _ _ => 0) ⟨#[], #[.agg (sv false none 0 0), .slice none 0 0], []⟩).memory :=
  laidMet_of_run' 8 (by kernel_rfl) (by kernel_rfl)
theorem reads (os : Os) {H : Type} (enc : TypeId × Value → H) : ∃ places, DataW.whole enc Tryz.prog ((laidWorld os).forCall (fun _ _ => 0) ⟨#[], #[.agg (sv false none 0 0), .slice none 0 0], []⟩).memory Tryz.f5.params.toList Rows.tallyTwiceSpec.vars false #[(.agg (sv false none 0 0) : Value), .slice none 0 0].toList 8 = some ([.agg [.lit (.bool false), .nil], .nil], [], places) :=
  ⟨[], by kernel_rfl⟩

set_option maxRecDepth 100000 in
theorem lifted (os : Os) (started : os.Started) (H : Type) (enc : TypeId × Value → H) (F : Stop.Interp) :
    ReturnsInHanded {} Tryz.checked os 5 .any ((OpenSpec.ofChange Rows.tallyTwiceSpec).preRow enc Tryz.prog Tryz.f5 Rows.tallyTwiceRow.domain false Rows.tallyTwiceRow.laid) (((OpenSpec.ofChange Rows.tallyTwiceSpec).at F).post enc Tryz.prog Tryz.f5 false true false false) := by
  obtain ⟨places, hx⟩ := reads os enc
  refine returnsInHanded_of_row (C := Tryz.checked) (s := OpenSpec.ofChange Rows.tallyTwiceSpec) own started (by kernel_rfl) Tryz.func5
    (witness_row_at (enc := enc) (C := Tryz.checked) false (laidWorld os) #[.agg (sv false none 0 0), .slice none 0 0] rfl (by kernel_rfl) (by kernel_rfl) (by kernel_rfl)
      (OpenSpec.preRow_of_cond 8 hx (by kernel_rfl) (fun k hk => by cases hk) (by kernel_rfl) (laid_met os))) ?_
  intro W base args ds gs before hval hW _ _ _ hL _ _
  exact contract H enc W base args ds gs before hval hW hL

theorem said : Rows.TallyTwiceSaid :=
  OpenClaim.holds_of_cond 5 Tryz.f5 rfl rfl rfl rfl rfl rfl rfl ⟨rfl, rfl, rfl, rfl, rfl⟩ rfl rfl rfl rfl rfl (by kernel_rfl) Tryz.func5 (by kernel_rfl)
    (of_decide_eq_true (by kernel_rfl)) (by unfold Func.isWrapper; first | (rw [if_pos (by decide +kernel)]; kernel_rfl) | (rw [if_neg (by decide +kernel)]; exact ⟨rfl, rfl⟩))
    (fun os started H enc _ F => by rw [OpenClaim.pre_eq_preRow]; exact lifted os started H enc F)

theorem plain (f : FuncId) (fn : Func) (hf : Tryz.pinned.checked.prog.funcNamed "clearance/clearancelaw17.TallyTwice" = some f) (hfn : Tryz.pinned.checked.prog.funcs[f]? = some fn) :
    false = Tryz.pinned.checked.prog.looks [] ∧ ∀ (j : Nat) t, fn.params[j]? = some t → Tryz.pinned.checked.prog.wantsStandIn t = false := by
  obtain rfl : f = 5 := Option.some.inj ((show Tryz.prog.funcNamed "clearance/clearancelaw17.TallyTwice" = some 5 by kernel_rfl).symm.trans hf) |>.symm
  obtain rfl : fn = Tryz.f5 := (Option.some.inj (Tryz.func5.symm.trans hfn)).symm
  refine ⟨by kernel_rfl, fun j t ht => ?_⟩
  rw [Tryz.params5] at ht
  have hm := List.mem_of_getElem? (by simpa using ht)
  simp only [List.mem_cons, List.not_mem_nil, or_false] at hm
  rcases hm with rfl | rfl
  · exact (show Tryz.prog.wantsStandIn 24 = false by kernel_rfl)
  · exact (show Tryz.prog.wantsStandIn 25 = false by kernel_rfl)

theorem card : Rows.TallyTwiceCardSaid :=
  Claim7.holds_tied_plain_at .later [] _ _ _ _ said (fun _ h => by cases h) (by kernel_rfl) (fun _ h => by cases h) tallyTwice_row_tie rfl ⟨rfl, rfl⟩ (by kernel_rfl) rfl plain (by kernel_rfl)

end Go.Proofs.YtdahllhbpdbknaaGreatDoor.tallyTwiceC
