/-
  The document's answers on trees, by recursion: how many there are, how deep, whether the same. Conditions: fewer than 2^31 trees.
-/
import Derived.Test.YtnaaejemanmgnaaTreeA
namespace Go.Proofs.Ytnaaejemanmgnaa
namespace TR
open LX
theorem drop_cons {l : List Tr} {i : Nat} (h : i < l.length) : l.drop i = l.getD i r0 :: l.drop (i + 1) := by
  rw [List.getD_eq_getElem?_getD, List.getElem?_eq_getElem h]
  exact List.drop_eq_getElem_cons h
/-- How many trees stand below the roots. -/
def sumK : List Tr → Nat
  | [] => 0
  | x :: r => (nodes x.ks).length + sumK r
theorem nodes_sumK (l : List Tr) : (nodes l).length = l.length + sumK l := by
  induction l with
  | nil => simp [nodes, sumK]
  | cons x l ih => obtain ⟨t, A, c, ks, e⟩ := x; simp [nodes, sumK, ih, Tr.ks]; omega
theorem sumK_drop (l : List Tr) (i : Nat) : sumK (l.drop i) ≤ sumK l := by
  induction l generalizing i with
  | nil => simp
  | cons x l ih =>
    cases i with
    | zero => simp
    | succ i => have := ih i; simp only [List.drop_succ_cons, sumK]; omega
theorem dep_cons (x : Tr) (r : List Tr) : dep (x :: r) = max (if cl x.t.k = 0 then 0 else 1 + dep x.ks) (dep r) := by cases x; rw [dep]; rfl
theorem flat_cons (x : Tr) (r : List Tr) : flat (x :: r) = if cl x.t.k = 0 then x.t :: flat r else x.t :: (flat x.ks ++ ⟨cl x.t.k, chr (cl x.t.k), x.e⟩ :: flat r) := by
  obtain ⟨t, A, c, ks, e⟩ := x
  unfold flat
  rw [evs]
  by_cases h : cl t.k = 0 <;> simp [Tr.t, Tr.ks, Tr.e, h]
theorem same_cons (x y : Tr) (r q : List Tr) : same (x :: r) (y :: q) = ((decide (x.t = y.t) && decide (x.e = y.e)) && same x.ks y.ks && same r q) := by
  cases x; cases y
  rw [same, Bool.eq_iff_iff]
  simp [Tr.t, Tr.e, Tr.ks, and_assoc]
  exact ⟨fun ⟨h1, h2, h3, h4⟩ => ⟨decide_eq_true h1, decide_eq_true h2, h3, h4⟩, fun ⟨h1, h2, h3, h4⟩ => ⟨of_decide_eq_true h1, of_decide_eq_true h2, h3, h4⟩⟩
theorem dep_drop (l : List Tr) (i : Nat) : dep (l.drop i) ≤ dep l := by
  have := dep_append (l.take i) (l.drop i)
  rw [List.take_append_drop] at this
  omega
theorem dep_nodes : ∀ l, dep l ≤ (nodes l).length := by
  refine ind (by simp [dep]) fun t A c ks e r h1 h2 => ?_
  rw [dep, nodes]
  simp only [List.length_cons, List.length_append]
  split <;> omega
end TR
open Go.RowKit LX TR

set_option maxHeartbeats 400000 in
theorem many_any : ∀ (N : Nat) (l : List Tr) (A : Option Addr) (c : Nat) (w : World), (nodes l).length ≤ N → N ≤ 2147483648 → Trs w w.heap.size A l →
    Calls Try.prog 25 #[.slice A l.length c] w fun e w' => e = .returned (.int .i64 ((nodes l).length : Nat)) ∧ w = w' := by
  intro N
  induction N with
  | zero =>
    intro l A c w hl _ _
    obtain rfl : l = [] := List.eq_nil_of_length_eq_zero (by have := length_nodes l; omega)
    simp only [nodes, List.length_nil]
    go_enter Try.func25, Try.ntmps25
    go_wp2
    go_loop [3, 4] (fun nv iv => nv = .int .i64 0 ∧ iv = .int .i64 0) (fun _ _ => 0)
    case atStart => exact ⟨rfl, rfl⟩
    case round =>
      obtain ⟨rfl, rfl⟩ := hrel
      go_wp2
      go_ret
      exact ⟨rfl, rfl⟩
  | succ N ih =>
    intro l A c w hl hN hA
    have IH := Lib.hid ih; clear ih
    have HA := Lib.hid hA; clear hA
    have hnl := nodes_sumK l
    have HTOT : Hid (∀ i, sumK (l.drop i) ≤ sumK l) := sumK_drop l
    have HDR : Hid (∀ i, i < l.length → l.drop i = l.getD i r0 :: l.drop (i + 1)) := fun i => drop_cons
    have HND : Hid (∀ i, i < l.length → (nodes (l.getD i r0).ks).length ≤ N) := fun i hi => by
      have := nodes_kid (getD_mem hi)
      omega
    have HN0 : Hid (sumK l = sumK (l.drop 0)) := by rw [List.drop_zero]; exact rfl
    have HNE : Hid (∀ i, ¬ i < l.length → sumK (l.drop i) = 0) := fun i hi => by rw [List.drop_eq_nil_of_le (by omega)]; rfl
    have HKS := Lib.hid (fun i (hi : i < l.length) => HA.out.kidAt hi)
    generalize hT : (nodes l).length = T at *
    generalize hn : l.length = n at *
    generalize hs : sumK l = S at *
    have HT := Lib.hid hT; have HN := Lib.hid hn; have HS := Lib.hid hs; clear hT hn hs
    go_enter Try.func25, Try.ntmps25
    go_wp2
    go_loop [3, 4] (fun nv iv => ∃ i a : Nat, i ≤ n ∧ nv = .int .i64 a ∧ iv = .int .i64 i ∧ Hid (a + sumK (l.drop i) = T)) (fun _ iv => n - (intOf iv).toNat)
    case atStart => exact ⟨0, n, by omega, rfl, rfl, by rw [← HN0.out]; exact hnl.symm⟩
    case round =>
      obtain ⟨i, a, hi, rfl, rfl, HI⟩ := hrel
      have hai : a ≤ T := by have := HI.out; omega
      by_cases hlt : i < n
      · obtain ⟨b, o, rfl, _, hc⟩ := HA.out.at (k := i) (by rw [HN.out]; exact hlt)
        obtain ⟨_, _, _, hc3, _⟩ := hc i (by rw [HN.out]; exact hlt)
        clear hc
        have hdr := HDR.out i hlt
        have HI2 : Hid ((a + (nodes (l.getD i r0).ks).length) + sumK (l.drop (i + 1)) = T) := by
          have := HI.out
          rw [hdr, sumK] at this
          show _ = T
          omega
        have HC := Lib.hid (IH.out (l.getD i r0).ks (l.getD i r0).A (l.getD i r0).c w (HND.out i hlt) (by omega) (HKS.out i hlt))
        clear hdr
        generalize (l.getD i r0).A = A1 at *
        generalize (l.getD i r0).c = c1 at *
        generalize (l.getD i r0).ks = ks at *
        generalize ks.length = k1 at *
        have hq : a + (nodes ks).length ≤ T := by have := HI2.out; omega
        generalize (nodes ks).length = q at *
        go_wp2_with fail
        refine HC.out.mono ?_
        rintro e w' ⟨rfl, rfl⟩
        go_wp2
        go_round
        case rel => exact ⟨i + 1, a + q, by omega, by go_num, by go_num, HI2⟩
        case measure => simp [intOf]; omega
      · have hend := HNE.out i hlt
        have HR : Hid (a = T) := by have := HI.out; show a = T; omega
        clear hend
        obtain rfl : i = n := by omega
        go_wp2
        go_ret
        exact ⟨ret_eq (int_eq (by have := HR.out; omega)), rfl⟩
theorem big9_any (l : List Tr) (A : Option Addr) (c : Nat) (w : World) (hl : (nodes l).length ≤ 2147483648) (hA : Trs w w.heap.size A l) :
    Calls Try.prog 12 #[.slice A l.length c] w fun e w' => e = .returned (.bool (decide (300 < (nodes l).length))) ∧ w = w' := by
  have HC := Lib.hid (many_any _ l A c w (Nat.le_refl _) hl hA)
  clear hA
  generalize (nodes l).length = T at *
  generalize l.length = n at *
  by_cases h : 300 < T
  · rw [decide_eq_true h]
    go_enter Try.func12, Try.ntmps12
    go_wp2_with fail
    refine HC.out.mono ?_
    rintro e w' ⟨rfl, rfl⟩
    go_wp2
    go_ret
    exact ⟨ret_eq (bool_eq (by simp; omega)), rfl⟩
  · rw [decide_eq_false h]
    go_enter Try.func12, Try.ntmps12
    go_wp2_with fail
    refine HC.out.mono ?_
    rintro e w' ⟨rfl, rfl⟩
    go_wp2
    go_ret
    exact ⟨ret_eq (bool_eq (by simp; omega)), rfl⟩
end Go.Proofs.Ytnaaejemanmgnaa
