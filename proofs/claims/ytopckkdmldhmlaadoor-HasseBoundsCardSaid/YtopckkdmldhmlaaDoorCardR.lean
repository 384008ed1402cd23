/-
  Arguments that are relations or pairs, opened. Conditions: none.
-/
import Derived.Test.YtopckkdmldhmlaaDoorCard
import Derived.Test.YtopckkdmldhmlaaDoorRelKit
import Derived.ChangeArms
import Derived.Deep.Slices
import Derived.Test.YtopckkdmldhmlaaDoorRelH
namespace Go.Proofs.YtopckkdmldhmlaaDoor
open Go.ChangeShapes Go.WideShapes Go.ChangeAt Go.RowKit RM

theorem words_of : ∀ (cs : List Value), (∀ v ∈ cs, ∃ m : Nat, v = .int .u64 (m : Int) ∧ m < 18446744073709551616) → ∃ l : List Nat, cs = l.map (fun x : Nat => Value.int .u64 (x : Int)) ∧ ∀ x ∈ l, x < 18446744073709551616
  | [], _ => ⟨[], rfl, fun x hx => by cases hx⟩
  | v :: cs, h => by
    obtain ⟨m, rfl, hm⟩ := h v (by simp)
    obtain ⟨l, rfl, hl⟩ := words_of cs fun u hu => h u (by simp [hu])
    exact ⟨m :: l, rfl, fun x hx => by
      rcases List.mem_cons.1 hx with rfl | hx
      · exact hm
      · exact hl x hx⟩
theorem open_rel {H : Type} {enc : TypeId × Value → H} {w w2 : World} {r : Reach} {b0 base : Nat} {spare : Nat → Bool} {held : Bool} {v : Value} {d : DataW H} {ps : List MemPlace}
    (hval : Value.okWide Tryd.prog w2 r b0 25 v) (hd : DataW.Trod enc Tryd.prog w base spare held 25 v d ps) : ∃ n l, v = .agg (rv n l) ∧ RW l := by
  obtain ⟨cs, rfl, hsz⟩ := okWide_struct Tryd.underlying25 hval
  rw [show Tryd.prog.cellsOf 25 = 65 by kernel_rfl] at hsz
  obtain ⟨l⟩ := cs
  replace hsz : l.length = 65 := hsz
  obtain ⟨fuel, hf⟩ := hd
  obtain ⟨xs, m, _, _, _, hlen, hat⟩ := DataW.trod_struct Tryd.underlying25 hf
  have hlen2 : xs.length = 2 := hlen
  have h0 : DataW.trod enc Tryd.prog w base spare held m 3 (List.take (Tryd.prog.cellsOf 3) (List.drop 0 l)) = xs[0]? := hat 0 _ rfl
  have h1 : DataW.trod enc Tryd.prog w base spare held m 23 (List.take (Tryd.prog.cellsOf 23) (List.drop 1 l)) = xs[1]? := hat 1 _ rfl
  rw [List.getElem?_eq_getElem (by omega)] at h0 h1
  rw [show Tryd.prog.cellsOf 3 = 1 by kernel_rfl] at h0
  rw [show Tryd.prog.cellsOf 23 = 64 by kernel_rfl] at h1
  obtain ⟨n, e0, _, _⟩ := DataW.trod_int Tryd.underlying3 h0
  obtain ⟨ys, m2, _, _, _, hyl, hya⟩ := DataW.trod_array Tryd.underlying23 h1
  match l, hsz with
  | c0 :: t, hsz =>
    have ht : t.length = 64 := by simpa using hsz
    have e0' : c0 = .int .i64 n := by simpa using e0
    subst e0'
    obtain ⟨k, hk, hb⟩ := words_of t fun v hv => by
      obtain ⟨i, hi, he⟩ := List.mem_iff_getElem.1 hv
      have h2 := hya i (by omega)
      rw [List.getElem?_eq_getElem (by omega), show Tryd.prog.cellsOf 22 = 1 by kernel_rfl] at h2
      obtain ⟨q, e1, _, hw⟩ := DataW.trod_int Tryd.underlying22 h2
      have e2 : (List.take 1 (List.drop (i * 1) (List.take 64 (List.drop 1 (Value.int IntKind.i64 n :: t))))) = [t[i]] := by
        simp only [List.drop_succ_cons, List.drop_zero, Nat.mul_one]
        rw [List.take_of_length_le (l := t) (by omega), List.drop_eq_getElem_cons hi]
        rfl
      have e3 : [t[i]] = [Value.int .u64 q] := e2.symm.trans e1
      rw [he] at e3
      have e4 : v = .int .u64 q := by simpa using e3
      have hbd := bounds_u64 hw
      obtain ⟨z, rfl⟩ := Int.eq_ofNat_of_zero_le (show 0 ≤ q by omega)
      exact ⟨z, e4, by omega⟩
    refine ⟨n, k, ?_, ?_, hb⟩
    · rw [hk]; rfl
    · have := congrArg List.length hk
      rw [List.length_map] at this
      omega
theorem open_pair {H : Type} {enc : TypeId × Value → H} {w w2 : World} {r : Reach} {b0 base : Nat} {spare : Nat → Bool} {held : Bool} {v : Value} {d : DataW H} {ps : List MemPlace}
    (hval : Value.okWide Tryd.prog w2 r b0 27 v) (hd : DataW.Trod enc Tryd.prog w base spare held 27 v d ps) : ∃ lo hi : Int, v = .agg #[.int .i64 lo, .int .i64 hi] := by
  obtain ⟨cs, rfl, hsz⟩ := okWide_struct Tryd.underlying27 hval
  rw [show Tryd.prog.cellsOf 27 = 2 by kernel_rfl] at hsz
  obtain ⟨l⟩ := cs
  replace hsz : l.length = 2 := hsz
  obtain ⟨fuel, hf⟩ := hd
  obtain ⟨xs, m, _, _, _, hlen, hat⟩ := DataW.trod_struct Tryd.underlying27 hf
  have hlen2 : xs.length = 2 := hlen
  have h0 : DataW.trod enc Tryd.prog w base spare held m 3 (List.take (Tryd.prog.cellsOf 3) (List.drop 0 l)) = xs[0]? := hat 0 _ rfl
  have h1 : DataW.trod enc Tryd.prog w base spare held m 3 (List.take (Tryd.prog.cellsOf 3) (List.drop 1 l)) = xs[1]? := hat 1 _ rfl
  rw [List.getElem?_eq_getElem (by omega), show Tryd.prog.cellsOf 3 = 1 by kernel_rfl] at h0 h1
  obtain ⟨n, e0, _, _⟩ := DataW.trod_int Tryd.underlying3 h0
  obtain ⟨k, e1, _, _⟩ := DataW.trod_int Tryd.underlying3 h1
  match l, hsz with
  | [a, b], _ =>
    simp at e0 e1
    subst e0 e1
    exact ⟨n, k, rfl⟩
theorem list_of {P : Nat → Int → Int → Prop} : ∀ n, (∀ i, i < n → ∃ lo hi, P i lo hi) → ∃ xs : List (Int × Int), xs.length = n ∧ ∀ i, i < n → P i (xs.getD i (0, 0)).1 (xs.getD i (0, 0)).2
  | 0, _ => ⟨[], rfl, fun i hi => by omega⟩
  | n + 1, h => by
    obtain ⟨xs, hl, hx⟩ := list_of n fun i hi => h i (by omega)
    obtain ⟨lo, hi, hp⟩ := h n (by omega)
    refine ⟨xs ++ [(lo, hi)], by simp [hl], fun i hi2 => ?_⟩
    by_cases e : i = n
    · subst e
      rw [List.getD_eq_getElem?_getD, List.getElem?_append_right (by omega), hl]
      simpa using hp
    · rw [List.getD_eq_getElem?_getD, List.getElem?_append_left (by omega), ← List.getD_eq_getElem?_getD]
      exact hx i (by omega)
theorem open_pairs {H : Type} {enc : TypeId × Value → H} {w w2 : World} {r : Reach} {b0 : Nat} {v : Value} {d : DataW H} {ps : List MemPlace}
    (hval : Value.okWide Tryd.prog w2 r b0 68 v) (hd : DataW.Trod enc Tryd.prog w 0 (fun _ => true) true 68 v d ps) :
    ∃ A c, ∃ xs : List (Int × Int), v = .slice A xs.length c ∧ (A = none → xs = [] ∧ c = 0) ∧ xs.length ≤ 9223372036854775807 ∧ Prs w A xs := by
  obtain ⟨A, len, c, rfl⟩ := okWide_slice Tryd.underlying68 hval
  obtain ⟨fuel, hf⟩ := hd
  rcases Go.Deep.open_slice Tryd.underlying68 hf with ⟨hcs, _⟩ | ⟨a, len', cap', m, k, D, Pl, hcs, _, hl, hm, hmm, _, hi⟩
  · have hcs2 : Value.slice A len c = Value.slice none 0 0 := by simpa [Value.cells] using hcs
    injection hcs2 with e1 e2 e3
    subst e1 e2 e3
    exact ⟨none, 0, [], rfl, fun _ => ⟨rfl, rfl⟩, by simp, Sl.nil _ _ _⟩
  · have hcs2 : Value.slice A len c = Value.slice (some a) len' cap' := by simpa [Value.cells] using hcs
    injection hcs2 with e1 e2 e3
    subst e1 e2 e3
    have hlm : len ≤ m := by rw [hmm]; split <;> omega
    have hget : ∀ i, i < len → ∃ lo hi : Int, w.cell? (a.add (i * 2)) = some (.int .i64 lo) ∧ w.cell? (a.add (i * 2 + 1)) = some (.int .i64 hi) := fun i hil => by
      obtain ⟨cs', h1, h2⟩ := hi i (by omega)
      rw [show Tryd.prog.cellsOf 27 = 2 by kernel_rfl] at h1
      obtain ⟨_, hlen, hat⟩ := World.cells?_some h1
      obtain ⟨xs, q, _, _, _, hxl, hx⟩ := DataW.trod_struct Tryd.underlying27 h2
      have hxl2 : xs.length = 2 := hxl
      have g0 : DataW.trod enc Tryd.prog w 0 (fun _ => true) true q 3 (List.take (Tryd.prog.cellsOf 3) (List.drop 0 cs')) = xs[0]? := hx 0 _ rfl
      have g1 : DataW.trod enc Tryd.prog w 0 (fun _ => true) true q 3 (List.take (Tryd.prog.cellsOf 3) (List.drop 1 cs')) = xs[1]? := hx 1 _ rfl
      rw [List.getElem?_eq_getElem (by omega), show Tryd.prog.cellsOf 3 = 1 by kernel_rfl] at g0 g1
      obtain ⟨lo, e0, _, _⟩ := DataW.trod_int Tryd.underlying3 g0
      obtain ⟨hi2, e1, _, _⟩ := DataW.trod_int Tryd.underlying3 g1
      match cs', hlen with
      | [u, v], _ =>
        simp at e0 e1
        subst e0 e1
        have h3 := hat 0 (by omega)
        have h4 := hat 1 (by omega)
        rw [Addr.add_zero'] at h3
        rw [Go.Deep.add_add] at h4
        exact ⟨lo, hi2, h3, h4⟩
    obtain ⟨xs, hxl, hx⟩ := list_of len hget
    subst hxl
    refine ⟨some a, c, xs, rfl, (fun h => by cases h), by unfold maxLen at hm; omega, fun hne => ?_⟩
    have hp : 0 < xs.length := by
      rcases Nat.eq_zero_or_pos xs.length with h | h
      · rw [List.eq_nil_of_length_eq_zero h] at hne; simp [pcells] at hne
      · exact h
    obtain ⟨b, off, spot⟩ := a
    have hspot : spot = none := by simpa [Addr.add] using World.cell?_spot (hx 0 hp).1
    subst hspot
    refine ⟨b, off, rfl, World.block_lt_of_cell? w _ (hx 0 hp).1, fun j u hu => ?_⟩
    have hj : j < 2 * xs.length := by
      have := (List.getElem?_eq_some_iff.1 hu).1
      rw [pcells_length] at this
      exact this
    obtain ⟨h1, h2⟩ := hx (j / 2) (by omega)
    obtain ⟨h3, h4⟩ := pcells_at xs (j / 2) (by omega)
    rw [Go.WideShapes.add_plain] at h1 h2
    by_cases hpar : j % 2 = 0
    · have e : j / 2 * 2 = j := by omega
      rw [e] at h1 h3
      rw [← hu, h3]; exact h1
    · have e : j / 2 * 2 + 1 = j := by omega
      rw [e] at h2 h4
      rw [← hu, h4]; exact h2
end Go.Proofs.YtopckkdmldhmlaaDoor
