/-
  What the functions of layer 1 return that make a slice. Conditions: a set below 2^64.
-/
import Derived.Test.YtmnbeejckojkjaaDoorMaskC
import Derived.Deep.LoopGhost
namespace Go.Proofs.YtmnbeejckojkjaaDoor
open Go.RowKit

theorem infoInt : (Tryd.prog.info? 3).map (fun i => (i.zero, i.size, i.bytes)) = some (some (.int .i64 0), 1, 8) := by kernel_rfl
/-- The elements as numbers of the language, and as cells. -/
def ei (l : List Nat) : List Int := l.map Int.ofNat
def cells (xs : List Int) : List Value := xs.map (Value.int .i64)
theorem cells_snoc (xs : List Int) (x : Int) : cells (xs ++ [x]) = cells xs ++ [.int .i64 x] := by simp [cells]
theorem ei_snoc (l : List Nat) (k : Nat) : ei (l ++ [k]) = ei l ++ [(k : Int)] := by simp [ei]
theorem ei_length (l : List Nat) : (ei l).length = l.length := by simp [ei]
/-- A slice of ints of the call's own. -/
def OwnI (w : World) (B : Nat) (A : Option Addr) (c : Nat) (xs : List Int) : Prop := w.ownsRow B 3 1 (.slice A xs.length c) xs.length (cells xs)
theorem OwnI.ints {w : World} {B c : Nat} {A : Option Addr} {xs : List Int} (h : OwnI w B A c xs) : Ints w A xs := Sl.of_own h

set_option maxHeartbeats 800000 in
/-- Each, at whatever function value with whatever is captured: what is known behind j elements is handed on from call to call. -/
theorem each_any (s : Nat) (hs : s < 18446744073709551616) (f : FuncId) (cap : Array Value) (w : World)
    (hf : ∀ args w, (callFunc f args).run Tryd.prog w = .ok (.enter f args) w) (Inv : Nat → World → Prop) (Fin : World → Prop)
    (hT : ∀ j W, Inv j W → Tab W) (h0 : Inv 0 w) (hend : ∀ W, Inv (MM.els s).length W → Fin W)
    (H : ∀ j W, j < (MM.els s).length → Inv j W → Calls Tryd.prog f (#[.int .i64 ((MM.els s).getD j 0 : Nat)] ++ cap) W fun e W' => (e = .returned (.bool true) ∧ Inv (j + 1) W') ∨ (e = .returned (.bool false) ∧ Fin W')) :
    Calls Tryd.prog 37 #[.int .u64 s, .func (.func f) #[] cap] w fun e w' => e = .returned (.tuple #[]) ∧ Fin w' := by
  have heq : ∀ w : World, (binOp .eql 46 (.func (.func f) #[] cap) .nilFunc).run Tryd.prog w = .ok (.bool false) w := fun _ => by kernel_rfl
  have h64 := MM.els_length s
  have HT := Lib.hid hT; clear hT
  have HE := Lib.hid hend; clear hend
  have HH := Lib.hid H; clear H
  have H0 := Lib.hid h0; clear h0
  generalize hn : (MM.els s).length = n at *
  have HN := Lib.hid hn; clear hn
  go_enter Tryd.func37, Tryd.ntmps37
  go_wp2_with fail
  go_loopg [0] n (fun m sv wr => ∃ (i q : Nat), i + m = n ∧ sv = .int .u64 q ∧ q < 18446744073709551616 ∧ Hid (MM.els q = (MM.els s).drop i) ∧ Hid (Inv i wr))
  case atStart => exact ⟨0, s, by omega, rfl, hs, by show MM.els s = (MM.els s).drop 0; simp, H0.out⟩
  case round =>
    obtain ⟨i, q, him, rfl, hq, HQ, HI⟩ := hrel
    have HIM := Lib.hid him
    have hi : i ≤ n := by omega
    clear him
    by_cases hlt : i < n
    · have hq0 : q ≠ 0 := by
        intro h0
        have := HQ.out
        rw [h0, MM.els_zero] at this
        have h2 := congrArg List.length this
        rw [List.length_drop, HN.out] at h2
        simp at h2
        omega
      have hqb : ((q : Int) != 0) = true := by simp; omega
      obtain ⟨t, ht, hq2, hq3, hq4⟩ := low_ex q hq hq0
      have hvt : (MM.els s).getD i 0 = t := by
        have h5 := HQ.out
        rw [hq3] at h5
        rw [List.getD_eq_getElem?_getD]
        have h6 := List.getElem?_drop (xs := MM.els s) (i := i) (j := 0)
        rw [← h5] at h6
        simp at h6
        rw [← h6]
        rfl
      have H2 := Lib.hid hq2; clear hq2
      have H3 := Lib.hid hq3; clear hq3
      have HC := HH.out i wr hlt HI.out
      rw [hvt] at HC
      have HC2 := Lib.hid HC; clear HC hvt
      go_wp2_with fail
      refine (zeros_any q t hq hq0 H2.out _ (HT.out i _ HI.out)).mono ?_
      rintro e w' ⟨rfl, rfl⟩
      go_wp2_with fail
      refine HC2.out.mono ?_
      rintro e w2 (⟨rfl, hI2⟩ | ⟨rfl, hF⟩)
      · have HI2 := Lib.hid hI2; clear hI2
        go_wp2_with (go_at_call 60; refine (rest_any _ hq hq0 _).mono ?_; rintro e w' ⟨rfl, rfl⟩)
        go_roundg (gk - 1)
        case measure => have := HIM.out; omega
        case rel =>
          refine ⟨i + 1, q &&& (q - 1), by have := HIM.out; omega, rfl, hq4, ?_, HI2.out⟩
          show MM.els (q &&& (q - 1)) = _
          rw [← List.drop_drop, ← HQ.out, H3.out]
          rfl
      · have HF := Lib.hid hF; clear hF
        go_wp2
        refine bodyPost_ret (results_none rfl _ _ _) rfl ⟨rfl, HF.out⟩
    · have e : i = n := by omega
      subst e
      have hq0 : q = 0 := by
        have h5 := HQ.out
        rw [List.drop_of_length_le (by rw [HN.out]; omega)] at h5
        refine Decidable.byContradiction fun h => ?_
        obtain ⟨t, ht, hq2, hq3, hq4⟩ := low_ex q hq h
        rw [h5] at hq3
        cases hq3
      subst hq0
      have HF := Lib.hid (HE.out _ HI.out)
      go_wp2
      go_end0
      exact ⟨rfl, HF.out⟩

/-- What stands behind j elements, where a variable in block g holds the list so far. -/
def Got (B g : Nat) (w : World) (l : List Int) (W : World) : Prop :=
  ∃ A c, Box W g 37 (.slice A l.length c) ∧ OwnI W B A c l ∧ Below B w W

set_option maxHeartbeats 800000 in
theorem push_any (B g : Nat) (w : World) (l : List Int) (x : Int) (W : World) (hl : l.length ≤ 4294967296) (hg : B ≤ g) (h : Got B g w l W) :
    Calls Tryd.prog 50 #[.int .i64 x, .pointer (some ⟨g, 0, none⟩)] W fun e W' => e = .returned (.bool true) ∧ Got B g w (l ++ [x]) W' := by
  obtain ⟨A, c, hbox, hown, hb⟩ := h
  have hcell := hbox.cell
  have hfree := hbox.free
  have hBs : B ≤ W.heap.size := by have := hbox.lt; omega
  have hboxa : ∀ o, Box (W.alloc o) g 37 (.slice A l.length c) := fun o => hbox.alloc o
  generalize hn : l.length = n at *
  have HN := Lib.hid hn; clear hn
  have hown' : W.ownsRow B 3 1 (.slice A n c) n (cells l) := by
    have h4 := hown
    unfold OwnI at h4
    rw [HN.out] at h4
    exact h4
  clear hown
  have hne : (Value.slice A n c).ownBlock ≠ some g := own_ne hown' hbox (by decide)
  have HNE := Lib.hid hne; clear hne
  go_enter Tryd.func50, Tryd.ntmps50
  go_wp2_with (at_builtin; refine wpList_more _ rfl _ _ 37 rfl 3 (.int .i64 0) 1 8 Tryd.underlying37 infoInt rfl (by decide) (by decide) B A n c (cells l) rfl (hown'.alloc _) W.heap.size 1 1 [.int .i64 x] rfl rfl (by decide) (one_new _ _ _) ?c1 ?c2 ?c3 ?_; (case c1 => simp [Value.oneCell']); (case c2 => omega); (case c3 => simp; omega); intro A2 c2 w2 hown2 hb2 hg2; have hbox2 := (hboxa (.cells #[.int .i64 x] 3)).grown hg2 HNE.out; have hcell2 := hbox2.cell; have hfree2 := hbox2.free)
  go_ret
  refine ⟨rfl, A2, c2, ?_, ?_, ?_⟩
  · have := hbox2.put (.slice A2 (n + 1) c2)
    rw [List.length_append, HN.out]
    exact this
  · unfold OwnI
    rw [cells_snoc, List.length_append, HN.out]
    exact own_put hown2 hbox2 (by decide) _
  · exact ((hb.alloc hBs _).trans hb2).setCell hg _

theorem new_ints (w : World) (xs : List Int) (e : TypeId) : Ints (w.alloc (.cells (xs.map (Value.int .i64)).toArray e)) (some ⟨w.heap.size, 0, none⟩) xs := fun _ =>
  ⟨w.heap.size, 0, rfl, by simp, fun j u hu => by
    rw [Nat.zero_add, cell_of_row _ w.heap.size j _ e (0, 0) (heap_alloc_new w _)]
    simpa using hu⟩
theorem Tab.below {w w' : World} (h : Tab w) (hb : Below w.heap.size w w') : Tab w' := fun j hj => by
  have h1 := h j hj
  have hlt : 0 < w.heap.size := World.block_lt_of_cell? w ⟨0, j, none⟩ h1
  exact (hb.cell (p := ⟨0, j, none⟩) hlt).trans h1
theorem ei_take (l : List Nat) (j : Nat) (h : j < l.length) : ei (l.take (j + 1)) = ei (l.take j) ++ [((l.getD j 0 : Nat) : Int)] := by
  rw [List.take_succ_eq_append_getElem h, ei_snoc, List.getD_eq_getElem?_getD, List.getElem?_eq_getElem h]; rfl

set_option maxHeartbeats 800000 in
theorem list_any (s : Nat) (hs : s < 18446744073709551616) (w : World) (hT : Tab w) :
    Calls Tryd.prog 25 #[.int .u64 s] w fun e w' => ∃ A c, e = .returned (.slice A (MM.els s).length c) ∧ OwnI w' w.heap.size A c (ei (MM.els s)) ∧ Below w.heap.size w w' := by
  have hmf : ∀ (fn : Fn) (first cap : Array Value) (w : World), (Instr.makeFunc fn first cap).run Tryd.prog w = .ok (.func fn first cap) w := fun _ _ _ _ => rfl
  have h64 := MM.els_length s
  have HT := Lib.hid hT; clear hT
  generalize hn : (MM.els s).length = n at *
  have HN := Lib.hid hn; clear hn
  obtain ⟨i0, hi0, hz0, hi1, hi2⟩ := info_parts infoInt
  go_enter Tryd.func25, Tryd.ntmps25
  go_wp2_with fail
  refine (count_any s hs _).mono ?_
  rintro e w' ⟨rfl, rfl⟩
  rw [HN.out]
  have hb2 : i0.bytes * n ≤ 281474976710656 := by rw [hi2]; omega
  have hb3 : n ≤ maxLen := by simp only [maxLen]; omega
  go_wp2_with (at_make; refine wpList_make_own _ rfl _ _ 37 rfl w.heap.size 3 i0 (.int .i64 0) 1 Tryd.underlying37 hi0 hz0 hi1 .i64 .i64 (n : Int) n rfl rfl rfl hb2 hb3 (Nat.le_refl _) ?_; intro w1 hown1 hg1)
  have hbw : Below w.heap.size w (w1.alloc (.cells #[.slice (some ⟨w.heap.size, 0, none⟩) 0 n] 37)) := ((Below.refl _ _).grown hg1 (Nat.le_refl _) (fun k hk => by cases hk)).alloc hg1.size _
  have hgot : Got w.heap.size w1.heap.size w (ei ((MM.els s).take 0)) (w1.alloc (.cells #[.slice (some ⟨w.heap.size, 0, none⟩) 0 n] 37)) :=
    ⟨_, n, Box.new _ _ _, hown1.alloc _, hbw⟩
  refine (each_any s hs 50 #[.pointer (some ⟨w1.heap.size, 0, none⟩)] _ (fun _ _ => by kernel_rfl) (fun j W => Got w.heap.size w1.heap.size w (ei ((MM.els s).take j)) W) (fun W => Got w.heap.size w1.heap.size w (ei (MM.els s)) W)
    (fun j W h => HT.out.below (by obtain ⟨_, _, _, _, h⟩ := h; exact h)) hgot (fun W h => by rw [List.take_length] at h; exact h) ?_).mono ?_
  · intro j W hj h
    refine (push_any w.heap.size w1.heap.size w _ _ W ?_ hg1.size h).mono ?_
    · rw [ei_length, List.length_take, HN.out]; omega
    · rintro e W' ⟨rfl, hG⟩
      exact .inl ⟨rfl, by rw [ei_take _ _ hj]; exact hG⟩
  · rintro e w2 ⟨rfl, A, c, hbox, hown, hb⟩
    have hcell := hbox.cell
    rw [ei_length, HN.out] at hcell
    go_wp2
    go_ret
    exact ⟨A, c, rfl, hown, hb⟩

set_option maxHeartbeats 800000 in
theorem refBelow_any (m : Int) (w : World) :
    Calls Tryd.prog 48 #[.int .i64 m] w fun e w' => e = .returned (.int .u64 (MM.belowN m : Int)) ∧ Below w.heap.size w w' := by
  obtain ⟨n, hn64, hnm⟩ : ∃ n : Nat, n ≤ 64 ∧ ∀ i : Nat, i < 64 → (i < n ↔ (i : Int) < m) :=
    ⟨min 64 m.toNat, by omega, fun i hi => by omega⟩
  have hval : MM.ofN (ei (List.range n)) = MM.belowN m := by
    refine MM.ext64 (MM.ofN_lt _) (MM.ofP_lt _ _) fun i hi => ?_
    rw [MM.ofN_bit, MM.belowN, MM.ofP_bit, Bool.eq_iff_iff]
    have h := hnm i hi
    simp only [hi, decide_true, Bool.true_and, List.contains_iff_mem, ei, List.mem_map, List.mem_range, Int.ofNat_eq_natCast, Int.natCast_inj, exists_eq_right, decide_eq_true_eq]
    exact h
  have HV := Lib.hid hval; clear hval
  have HM := Lib.hid hnm; clear hnm
  go_enter Tryd.func48, Tryd.ntmps48
  go_wp2
  go_loopw [3, 4] (fun v iv wr => ∃ (i : Nat) (A : Option Addr) (c : Nat), i ≤ n ∧ iv = .int .i64 i ∧ v = .slice A i c ∧ wr.ownsRow w.heap.size 3 1 (.slice A i c) i (cells (ei (List.range i))) ∧ Below w.heap.size w wr) (fun _ iv _ => n - (intOf iv).toNat)
  case atStart => exact ⟨0, none, 0, by omega, rfl, rfl, World.ownsRow_nil _ _ _ _, Below.refl _ _⟩
  case round =>
    obtain ⟨i, A, c, hi, rfl, rfl, hown, hb⟩ := hrel
    have hbs := hb.size
    by_cases hlt : i < n
    · have hlm : (i : Int) < m := (HM.out i (by omega)).1 hlt
      have hl64 : (i : Int) < 64 := by omega
      go_wp2_with (at_builtin; refine wpList_more _ rfl _ _ 37 rfl 3 (.int .i64 0) 1 8 Tryd.underlying37 infoInt rfl (by decide) (by decide) w.heap.size A i c (cells (ei (List.range i))) rfl (hown.alloc _) wr.heap.size 1 1 [.int .i64 i] rfl rfl (by decide) (one_new _ _ _) ?c1 ?c2 ?c3 ?_; (case c1 => simp [Value.oneCell']); (case c2 => omega); (case c3 => simp; omega); intro A2 c2 w2 hown2 hb2 _)
      go_roundw
      case rel =>
        refine ⟨i + 1, A2, c2, by omega, by go_num, by rfl, ?_, (hb.alloc hbs _).trans hb2⟩
        rw [List.range_succ, ei_snoc, cells_snoc]
        exact hown2
      case measure => simp [intOf]; omega
    · have e : i = n := by omega
      subst e
      have hI : Ints wr A (ei (List.range i)) := Sl.of_own hown
      have hlen : (ei (List.range i)).length = i := by simp [ei]
      have hcall := refOf_any A c (ei (List.range i)) wr (by omega) hI
      rw [hlen, HV.out] at hcall
      have HC := Lib.hid hcall; clear hcall hlen hI
      by_cases hlm : (i : Int) < m
      · have h64 : ¬ ((i : Int) < 64) := fun h => by have := (HM.out i (by omega)).2 hlm; omega
        go_wp2_with (go_at_call 32; refine HC.out.mono ?_; rintro e w' ⟨rfl, rfl⟩)
        go_ret
        exact ⟨rfl, hb⟩
      · go_wp2_with (go_at_call 32; refine HC.out.mono ?_; rintro e w' ⟨rfl, rfl⟩)
        go_ret
        exact ⟨rfl, hb⟩
end Go.Proofs.YtmnbeejckojkjaaDoor
