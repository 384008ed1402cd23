/-
  What the functions of layer 1 return that make a slice. Conditions: a set below 2^64.
-/
import Derived.Test.YtojbmahapomoeaaMaskC
import Derived.Deep.LoopGhost
namespace Go.Proofs.Ytojbmahapomoeaa
open Go.RowKit

theorem infoInt : (Try.prog.info? 3).map (fun i => (i.zero, i.size, i.bytes)) = some (some (.int .i64 0), 1, 8) := by kernel_rfl
/-- The elements as numbers of the language, and as cells. -/
def ei (l : List Nat) : List Int := l.map Int.ofNat
def cells (xs : List Int) : List Value := xs.map (Value.int .i64)
theorem cells_snoc (xs : List Int) (x : Int) : cells (xs ++ [x]) = cells xs ++ [.int .i64 x] := by simp [cells]
theorem ei_snoc (l : List Nat) (k : Nat) : ei (l ++ [k]) = ei l ++ [(k : Int)] := by simp [ei]
theorem ei_length (l : List Nat) : (ei l).length = l.length := by simp [ei]
/-- A slice of ints of the call's own. -/
def OwnI (w : World) (B : Nat) (A : Option Addr) (c : Nat) (xs : List Int) : Prop := w.ownsRow B 3 1 (.slice A xs.length c) xs.length (cells xs)
theorem OwnI.ints {w : World} {B c : Nat} {A : Option Addr} {xs : List Int} (h : OwnI w B A c xs) : Ints w A xs := Sl.of_own h

/-- What stands behind j elements, where a variable in block g holds the list so far. -/
def Got (B g : Nat) (w : World) (l : List Int) (W : World) : Prop :=
  ∃ A c, Box W g 36 (.slice A l.length c) ∧ OwnI W B A c l ∧ Below B w W

theorem new_ints (w : World) (xs : List Int) (e : TypeId) : Ints (w.alloc (.cells (xs.map (Value.int .i64)).toArray e)) (some ⟨w.heap.size, 0, none⟩) xs := fun _ =>
  ⟨w.heap.size, 0, rfl, by simp, fun j u hu => by
    rw [Nat.zero_add, cell_of_row _ w.heap.size j _ e (0, 0) (heap_alloc_new w _)]
    simpa using hu⟩
theorem ei_take (l : List Nat) (j : Nat) (h : j < l.length) : ei (l.take (j + 1)) = ei (l.take j) ++ [((l.getD j 0 : Nat) : Int)] := by
  rw [List.take_succ_eq_append_getElem h, ei_snoc, List.getD_eq_getElem?_getD, List.getElem?_eq_getElem h]; rfl

set_option maxHeartbeats 800000 in
theorem refBelow_any (m : Int) (w : World) :
    Calls Try.prog 16 #[.int .i64 m] w fun e w' => e = .returned (.int .u64 (MM.belowN m : Int)) ∧ Below w.heap.size w w' := by
  obtain ⟨n, hn64, hnm⟩ : ∃ n : Nat, n ≤ 64 ∧ ∀ i : Nat, i < 64 → (i < n ↔ (i : Int) < m) :=
    ⟨min 64 m.toNat, by omega, fun i hi => by omega⟩
  have hval : MM.ofN (ei (List.range n)) = MM.belowN m := by
    refine MM.ext64 (MM.ofN_lt _) (MM.ofP_lt _ _) fun i hi => ?_
    rw [MM.ofN_bit, MM.belowN, MM.ofP_bit, Bool.eq_iff_iff]
    have h := hnm i hi
    simp only [hi, decide_true, Bool.true_and, List.contains_iff_mem, ei, List.mem_map, List.mem_range, Int.ofNat_eq_natCast, Int.natCast_inj, exists_eq_right, decide_eq_true_eq]
    exact h
  have HV := Lib.hid hval; clear hval
  have HM := Lib.hid hnm; clear hnm
  go_enter Try.func16, Try.ntmps16
  go_wp2
  go_loopw [3, 4] (fun v iv wr => ∃ (i : Nat) (A : Option Addr) (c : Nat), i ≤ n ∧ iv = .int .i64 i ∧ v = .slice A i c ∧ wr.ownsRow w.heap.size 3 1 (.slice A i c) i (cells (ei (List.range i))) ∧ Below w.heap.size w wr) (fun _ iv _ => n - (intOf iv).toNat)
  case atStart => exact ⟨0, none, 0, by omega, rfl, rfl, World.ownsRow_nil _ _ _ _, Below.refl _ _⟩
  case round =>
    obtain ⟨i, A, c, hi, rfl, rfl, hown, hb⟩ := hrel
    have hbs := hb.size
    by_cases hlt : i < n
    · have hlm : (i : Int) < m := (HM.out i (by omega)).1 hlt
      have hl64 : (i : Int) < 64 := by omega
      go_wp2_with (at_builtin; refine wpList_more _ rfl _ _ 36 rfl 3 (.int .i64 0) 1 8 Try.underlying36 infoInt rfl (by decide) (by decide) w.heap.size A i c (cells (ei (List.range i))) rfl (hown.alloc _) wr.heap.size 1 1 [.int .i64 i] rfl rfl (by decide) (one_new _ _ _) ?c1 ?c2 ?c3 ?_; (case c1 => simp [Value.oneCell']); (case c2 => omega); (case c3 => simp; omega); intro A2 c2 w2 hown2 hb2 _)
      go_roundw
      case rel =>
        refine ⟨i + 1, A2, c2, by omega, by go_num, by rfl, ?_, (hb.alloc hbs _).trans hb2⟩
        rw [List.range_succ, ei_snoc, cells_snoc]
        exact hown2
      case measure => simp [intOf]; omega
    · have e : i = n := by omega
      subst e
      have hI : Ints wr A (ei (List.range i)) := Sl.of_own hown
      have hlen : (ei (List.range i)).length = i := by simp [ei]
      have hcall := refOf_any A c (ei (List.range i)) wr (by omega) hI
      rw [hlen, HV.out] at hcall
      have HC := Lib.hid hcall; clear hcall hlen hI
      by_cases hlm : (i : Int) < m
      · have h64 : ¬ ((i : Int) < 64) := fun h => by have := (HM.out i (by omega)).2 hlm; omega
        go_wp2_with (go_at_call 20; refine HC.out.mono ?_; rintro e w' ⟨rfl, rfl⟩)
        go_ret
        exact ⟨rfl, hb⟩
      · go_wp2_with (go_at_call 20; refine HC.out.mono ?_; rintro e w' ⟨rfl, rfl⟩)
        go_ret
        exact ⟨rfl, hb⟩
end Go.Proofs.Ytojbmahapomoeaa
