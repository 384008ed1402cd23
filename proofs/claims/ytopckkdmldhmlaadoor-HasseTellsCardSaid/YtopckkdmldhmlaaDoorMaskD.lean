/-
  What the functions of layer 1 return that make a slice. Conditions: a set below 2^64.
-/
import Derived.Test.YtopckkdmldhmlaaDoorMaskC
import Derived.Deep.LoopGhost
namespace Go.Proofs.YtopckkdmldhmlaaDoor
open Go.RowKit

theorem infoInt : (Tryd.prog.info? 3).map (fun i => (i.zero, i.size, i.bytes)) = some (some (.int .i64 0), 1, 8) := by kernel_rfl
/-- The elements as numbers of the language, and as cells. -/
def ei (l : List Nat) : List Int := l.map Int.ofNat
def cells (xs : List Int) : List Value := xs.map (Value.int .i64)
theorem cells_snoc (xs : List Int) (x : Int) : cells (xs ++ [x]) = cells xs ++ [.int .i64 x] := by simp [cells]
theorem ei_snoc (l : List Nat) (k : Nat) : ei (l ++ [k]) = ei l ++ [(k : Int)] := by simp [ei]
theorem ei_length (l : List Nat) : (ei l).length = l.length := by simp [ei]
/-- A slice of ints of the call's own. -/
def OwnI (w : World) (B : Nat) (A : Option Addr) (c : Nat) (xs : List Int) : Prop := w.ownsRow B 3 1 (.slice A xs.length c) xs.length (cells xs)
theorem OwnI.ints {w : World} {B c : Nat} {A : Option Addr} {xs : List Int} (h : OwnI w B A c xs) : Ints w A xs := Sl.of_own h

set_option maxHeartbeats 800000 in
/-- Each, at whatever function value with whatever is captured: what is known behind j elements is handed on from call to call. -/
theorem each_any (s : Nat) (hs : s < 18446744073709551616) (f : FuncId) (cap : Array Value) (w : World)
    (hf : ∀ args w, (callFunc f args).run Tryd.prog w = .ok (.enter f args) w) (Inv : Nat → World → Prop) (Fin : World → Prop)
    (hT : ∀ j W, Inv j W → Tab W) (h0 : Inv 0 w) (hend : ∀ W, Inv (MM.els s).length W → Fin W)
    (H : ∀ j W, j < (MM.els s).length → Inv j W → Calls Tryd.prog f (#[.int .i64 ((MM.els s).getD j 0 : Nat)] ++ cap) W fun e W' => (e = .returned (.bool true) ∧ Inv (j + 1) W') ∨ (e = .returned (.bool false) ∧ Fin W')) :
    Calls Tryd.prog 53 #[.int .u64 s, .func (.func f) #[] cap] w fun e w' => e = .returned (.tuple #[]) ∧ Fin w' := by
  have heq : ∀ w : World, (binOp .eql 65 (.func (.func f) #[] cap) .nilFunc).run Tryd.prog w = .ok (.bool false) w := fun _ => by kernel_rfl
  have h64 := MM.els_length s
  have HT := Lib.hid hT; clear hT
  have HE := Lib.hid hend; clear hend
  have HH := Lib.hid H; clear H
  have H0 := Lib.hid h0; clear h0
  generalize hn : (MM.els s).length = n at *
  have HN := Lib.hid hn; clear hn
  go_enter Tryd.func53, Tryd.ntmps53
  go_wp2_with fail
  go_loopg [0] n (fun m sv wr => ∃ (i q : Nat), i + m = n ∧ sv = .int .u64 q ∧ q < 18446744073709551616 ∧ Hid (MM.els q = (MM.els s).drop i) ∧ Hid (Inv i wr))
  case atStart => exact ⟨0, s, by omega, rfl, hs, by show MM.els s = (MM.els s).drop 0; simp, H0.out⟩
  case round =>
    obtain ⟨i, q, him, rfl, hq, HQ, HI⟩ := hrel
    have HIM := Lib.hid him
    have hi : i ≤ n := by omega
    clear him
    by_cases hlt : i < n
    · have hq0 : q ≠ 0 := by
        intro h0
        have := HQ.out
        rw [h0, MM.els_zero] at this
        have h2 := congrArg List.length this
        rw [List.length_drop, HN.out] at h2
        simp at h2
        omega
      have hqb : ((q : Int) != 0) = true := by simp; omega
      obtain ⟨t, ht, hq2, hq3, hq4⟩ := low_ex q hq hq0
      have hvt : (MM.els s).getD i 0 = t := by
        have h5 := HQ.out
        rw [hq3] at h5
        rw [List.getD_eq_getElem?_getD]
        have h6 := List.getElem?_drop (xs := MM.els s) (i := i) (j := 0)
        rw [← h5] at h6
        simp at h6
        rw [← h6]
        rfl
      have H2 := Lib.hid hq2; clear hq2
      have H3 := Lib.hid hq3; clear hq3
      have HC := HH.out i wr hlt HI.out
      rw [hvt] at HC
      have HC2 := Lib.hid HC; clear HC hvt
      go_wp2_with fail
      refine (zeros_any q t hq hq0 H2.out _ (HT.out i _ HI.out)).mono ?_
      rintro e w' ⟨rfl, rfl⟩
      go_wp2_with fail
      refine HC2.out.mono ?_
      rintro e w2 (⟨rfl, hI2⟩ | ⟨rfl, hF⟩)
      · have HI2 := Lib.hid hI2; clear hI2
        go_wp2_with (go_at_call 61; refine (rest_any _ hq hq0 _).mono ?_; rintro e w' ⟨rfl, rfl⟩)
        go_roundg (gk - 1)
        case measure => have := HIM.out; omega
        case rel =>
          refine ⟨i + 1, q &&& (q - 1), by have := HIM.out; omega, rfl, hq4, ?_, HI2.out⟩
          show MM.els (q &&& (q - 1)) = _
          rw [← List.drop_drop, ← HQ.out, H3.out]
          rfl
      · have HF := Lib.hid hF; clear hF
        go_wp2
        refine bodyPost_ret (results_none rfl _ _ _) rfl ⟨rfl, HF.out⟩
    · have e : i = n := by omega
      subst e
      have hq0 : q = 0 := by
        have h5 := HQ.out
        rw [List.drop_of_length_le (by rw [HN.out]; omega)] at h5
        refine Decidable.byContradiction fun h => ?_
        obtain ⟨t, ht, hq2, hq3, hq4⟩ := low_ex q hq h
        rw [h5] at hq3
        cases hq3
      subst hq0
      have HF := Lib.hid (HE.out _ HI.out)
      go_wp2
      go_end0
      exact ⟨rfl, HF.out⟩

/-- What stands behind j elements, where a variable in block g holds the list so far. -/
def Got (B g : Nat) (w : World) (l : List Int) (W : World) : Prop :=
  ∃ A c, Box W g 55 (.slice A l.length c) ∧ OwnI W B A c l ∧ Below B w W

theorem new_ints (w : World) (xs : List Int) (e : TypeId) : Ints (w.alloc (.cells (xs.map (Value.int .i64)).toArray e)) (some ⟨w.heap.size, 0, none⟩) xs := fun _ =>
  ⟨w.heap.size, 0, rfl, by simp, fun j u hu => by
    rw [Nat.zero_add, cell_of_row _ w.heap.size j _ e (0, 0) (heap_alloc_new w _)]
    simpa using hu⟩
theorem Tab.below {w w' : World} (h : Tab w) (hb : Below w.heap.size w w') : Tab w' := fun j hj => by
  have h1 := h j hj
  have hlt : 0 < w.heap.size := World.block_lt_of_cell? w ⟨0, j, none⟩ h1
  exact (hb.cell (p := ⟨0, j, none⟩) hlt).trans h1
theorem ei_take (l : List Nat) (j : Nat) (h : j < l.length) : ei (l.take (j + 1)) = ei (l.take j) ++ [((l.getD j 0 : Nat) : Int)] := by
  rw [List.take_succ_eq_append_getElem h, ei_snoc, List.getD_eq_getElem?_getD, List.getElem?_eq_getElem h]; rfl

end Go.Proofs.YtopckkdmldhmlaaDoor
