/- Texts that all the claims need. Conditions: those that each states. -/

import Derived.Test.YtkgonoejnochjaaGreatDoorY20
import Derived.Test.YtkgonoejnochjaaGreatDoorY22
set_option linter.unusedSimpArgs false
set_option linter.unusedVariables false
set_option maxRecDepth 8000
namespace Go.Proofs.YtkgonoejnochjaaGreatDoor
namespace SP
open TM
theorem vol_nd (k p : Int) (s : ByteArray) (ws : List Wd) (ks : List Nd) : vol [nd k p s ws ks] = 1 + s.size + (ws.map fun x => x.s.size + 1).sum + vol ks := by
 unfold nd
 rw [vol, vol, Nat.add_zero]
theorem ws_le : ∀ {ws : List Wd}, (∀ x ∈ ws, x.s.size ≤ 16) → (ws.map fun x => x.s.size + 1).sum ≤ 17 * ws.length
 | [], _ => Nat.le_refl _
 | x :: r, h => by
   have h1 := h x (by simp)
   have h2 := ws_le (ws := r) fun y hy => h y (by simp [hy])
   rw [List.map_cons, List.sum_cons, List.length_cons]
   omega
theorem vol_le {B : Nat} : ∀ {l : List Nd}, (∀ z ∈ l, vol [z] ≤ B) → vol l ≤ l.length * B
 | [], _ => by rw [vol]; omega
 | x :: r, h => by
   have h1 := h x (by simp)
   have h2 := vol_le (l := r) fun y hy => h y (by simp [hy])
   rw [vol_cons, List.length_cons, Nat.add_mul]
   omega
theorem name_le {f : Fac} (h : facB f = true) (j : Nat) : (f.names.getD j ⟨#[]⟩).size ≤ 16 := by
 have hn : namedB f.names = true := by
  unfold facB at h
  exact (Bool.and_eq_true_iff.1 h).1
 unfold namedB at hn
 simp only [Bool.and_eq_true, List.all_eq_true] at hn
 rw [List.getD_eq_getElem?_getD]
 cases hg : f.names[j]? with
 | none => exact Nat.zero_le _
 | some s =>
   have h1 := hn.1.2 s (List.mem_of_getElem? hg)
   unfold NM.right at h1
   simp only [Bool.and_eq_true, decide_eq_true_eq] at h1
   exact h1.1.1.2
theorem nmd_vol {f : Fac} (h : facB f = true) (v : Nat) : ((nmd f.names v).map fun x => x.s.size + 1).sum ≤ 1088 := by
 have h1 := ws_le (ws := nmd f.names v) fun x hx => by
  unfold nmd nmdTo at hx
  obtain ⟨j, _, rfl⟩ := List.mem_map.1 hx
  exact name_le h j
 have h2 := nmd_le f.names v f.names.length
 have h3 := (facB_len h).2
 unfold nmd at h1 ⊢
 omega
theorem rul_vol {f : Fac} (h : facB f = true) (v : Nat) : vol (rulTo f.names f.n f.l v f.names.length) ≤ 70720 := by
 have h1 := vol_le (B := 1105) (l := rulTo f.names f.n f.l v f.names.length) fun z hz => by
  unfold rulTo at hz
  obtain ⟨j, _, rfl⟩ := List.mem_map.1 hz
  rw [vol_nd, vol]
  have h2 := name_le h j
  have h3 := nmd_vol h (gReaders f.n f.l v (j : Int))
  omega
 have h4 : (rulTo f.names f.n f.l v f.names.length).length ≤ f.names.length := by
  unfold rulTo
  rw [List.length_map]
  have := List.length_filter_le (fun j : Nat => MM.hasN (gOwners f.n f.l v) (j : Int)) (List.range f.names.length)
  rw [List.length_range] at this
  exact this
 have h5 := (facB_len h).2
 have h6 : (rulTo f.names f.n f.l v f.names.length).length * 1105 ≤ 64 * 1105 := Nat.mul_le_mul_right _ (by omega)
 omega
theorem con_vol {f : Fac} (h : facB f = true) (v : Nat) : vol [conN f v] ≤ 80000 := by
 unfold conN
 by_cases h2 : f.kind = 2
 ·rw [if_pos h2, vol_nd, vol]
  have := nmd_vol h v
  show 1 + 0 + _ + _ ≤ _
  omega
 ·rw [if_neg h2]
  by_cases h3 : f.kind = 3
  ·rw [if_pos h3, vol_nd]
   have := rul_vol h v
   show 1 + 0 + 0 + _ ≤ _
   omega
  ·rw [if_neg h3, vol_nd, vol]
   have := name_le h (ptK f v).toNat
   show 1 + _ + 0 + _ ≤ _
   omega
theorem node_vol (t : Bool) (fs : List Fac) (e : List Nat) : vol [nodeE t fs e] ≤ 1000000 := by
 unfold nodeE
 by_cases h : fitsE t fs e = true
 ·rw [if_pos h]
  obtain ⟨⟨h1, h8⟩, hs⟩ := fits_slot h
  by_cases h2 : t = true
  ·rw [if_pos h2, vol_nd]
   have h3 := vol_le (B := 80000) (l := (List.range fs.length).map fun i => conN (fs.getD i f0) (e.getD i 0)) fun z hz => by
        obtain ⟨j, hj, rfl⟩ := List.mem_map.1 hz
        exact con_vol (hs j (List.mem_range.1 hj)).1 _
   rw [List.length_map, List.length_range] at h3
   show 1 + 0 + 0 + _ ≤ _
   omega
  ·rw [if_neg h2]
   have := con_vol (hs 0 (by omega)).1 (e.getD 0 0)
   omega
 ·rw [if_neg h]
  unfold n0
  rw [vol_nd, vol]
  show 1 + 0 + 0 + 0 ≤ _
  omega
theorem cnt_er1 (y : Nd) : TM.cnt [er1 y] = TM.cnt [y] := by
 have h := TM.cnt_er [y]
 rw [er_one] at h
 exact h
end SP
open Go.RowKit LX TR TM SP RM
end Go.Proofs.YtkgonoejnochjaaGreatDoor
namespace Go.Proofs.YtkgonoejnochjaaGreatDoor
namespace SP
open TM RM
theorem tb64 {v i : Nat} (hv : v < 18446744073709551616) (h : v.testBit i = true) : i < 64 := by
 rcases Nat.lt_or_ge i 64 with hi | hi
 ·exact hi
 ·rw [Nat.testBit_lt_two_pow (Nat.lt_of_lt_of_le hv (Nat.le_trans (by decide : 18446744073709551616 ≤ 2 ^ 64) (Nat.pow_le_pow_right (by decide) hi)))] at h
  cases h
theorem set_bits {m v : Nat} (hv : v < 18446744073709551616) (h : MM.subN v (MM.belowN (m : Int)) = true) : ∀ i, v.testBit i = true → i < m := fun i hi => by
 unfold MM.subN at h
 have h1 := List.all_eq_true.1 h i (MM.mem_els.2 ⟨tb64 hv hi, hi⟩)
 rw [belowN_bit] at h1
 simp only [Bool.and_eq_true, decide_eq_true_eq] at h1
 omega
theorem rd_bits {n : Int} {l : List Nat} {v i : Nat} {o : Int} (h : (gReaders n l v o).testBit i = true) : i < pts n := by
 unfold gReaders at h
 split at h
 ·rw [MM.ofP_bit] at h
  simp only [Bool.and_eq_true, decide_eq_true_eq] at h
  exact h.2.1
 ·simp at h
theorem ow_bits {n : Int} {l : List Nat} {v i : Nat} (h : (gOwners n l v).testBit i = true) : i < pts n ∧ i < 64 := by
 unfold gOwners at h
 split at h
 ·rw [MM.ofP_bit] at h
  simp only [Bool.and_eq_true, decide_eq_true_eq] at h
  exact ⟨h.2.1, h.1⟩
 ·simp at h
end SP
end Go.Proofs.YtkgonoejnochjaaGreatDoor
namespace Go.Proofs.YtkgonoejnochjaaGreatDoor
namespace SP
open TM RM
def nxt (q : Option Int) (k p : Int) : Option Int := if k < 0 ∧ q = none then some p else q
def fcs (q : Option Int) : Array Value := #[.int .i64 (if q.isSome then 4 else 0), .int .i64 (q.getD 0)]
theorem nxt_some (p k p2 : Int) : nxt (some p) k p2 = some p := by
 unfold nxt
 rw [if_neg (by simp)]
theorem nxt_neg {k : Int} (h : k < 0) (p : Int) : nxt none k p = some p := by
 unfold nxt
 rw [if_pos ⟨h, rfl⟩]
theorem nxt_pos {k : Int} (h : ¬ k < 0) (q : Option Int) (p : Int) : nxt q k p = q := by
 unfold nxt
 rw [if_neg (by simp [h])]
def nxts (names : List ByteArray) : List Wd → Option Int → Option Int
 | [], q => q
 | v :: r, q => nxts names r (nxt q (idx names v.s) v.p)
theorem nxts_some (names : List ByteArray) (p : Int) : ∀ ws, nxts names ws (some p) = some p
 | [] => rfl
 | v :: r => by rw [nxts, nxt_some, nxts_some]
theorem nxts_drop (names : List ByteArray) {ws : List Wd} {i : Nat} (h : i < ws.length) (q : Option Int) : nxts names (ws.drop i) q = nxts names (ws.drop (i + 1)) (nxt q (idx names (ws.getD i w0).s) (ws.getD i w0).p) := by
 rw [List.drop_eq_getElem_cons h, nxts, List.getD_eq_getElem?_getD, List.getElem?_eq_getElem h]; rfl
theorem nxts_end (names : List ByteArray) (ws : List Wd) (q : Option Int) : nxts names (ws.drop ws.length) q = q := by rw [List.drop_length, nxts]
theorem nxts_find (names : List ByteArray) : ∀ ws, nxts names ws none = (ws.find? (miss names)).map (·.p)
 | [] => rfl
 | v :: r => by
   rw [nxts, List.find?_cons]
   by_cases h : idx names v.s < 0
   ·rw [nxt_neg h, nxts_some, show miss names v = true from decide_eq_true h]; rfl
   ·rw [nxt_pos h, show miss names v = false from decide_eq_false h]
    exact nxts_find names r
def setv (names : List ByteArray) (ws : List Wd) : Nat := MM.ofN (ws.map fun v => idx names v.s)
theorem setv_lt (names : List ByteArray) (ws : List Wd) : setv names ws < 18446744073709551616 := MM.ofN_lt _
theorem setv_nil (names : List ByteArray) (ws : List Wd) : setv names (ws.take 0) = 0 := by
 unfold setv
 rw [List.take_zero]
 exact MM.ofN_nil
theorem setv_take (names : List ByteArray) {ws : List Wd} {i : Nat} (h : i < ws.length) : setv names (ws.take (i + 1)) = MM.withN (setv names (ws.take i)) (idx names (ws.getD i w0).s) := by
 unfold setv
 rw [take_map (fun v : Wd => idx names v.s) ws w0 i h, MM.ofN_snoc]
theorem plc_of (names : List ByteArray) (ws : List Wd) : (∀ p, nxts names ws none = some p → plc names ws = .error p) ∧ (nxts names ws none = none → plc names ws = .ok (setv names ws)) := by
 rw [nxts_find]
 unfold plc
 cases ws.find? (miss names) with
 | none => exact ⟨fun p h => (by cases h), fun _ => rfl⟩
 | some v => exact ⟨fun p h => (by injection h with h; subst h; rfl), fun h => (by cases h)⟩
def ruls (f : Fac) : List Nd → Option Int → Nat → Option Int × Nat
 | [], q, a => (q, a)
 | k :: r, q, a => ruls f r (nxts f.names k.ws (nxt q (idx f.names k.s) k.p)) (a ||| gRule f.n f.l (idx f.names k.s) (setv f.names k.ws))
theorem ruls_drop (f : Fac) {ks : List Nd} {i : Nat} (h : i < ks.length) (q : Option Int) (a : Nat) :
 ruls f (ks.drop i) q a = ruls f (ks.drop (i + 1)) (nxts f.names (ks.getD i n0).ws (nxt q (idx f.names (ks.getD i n0).s) (ks.getD i n0).p)) (a ||| gRule f.n f.l (idx f.names (ks.getD i n0).s) (setv f.names (ks.getD i n0).ws)) := by
 rw [List.drop_eq_getElem_cons h, ruls, List.getD_eq_getElem?_getD, List.getElem?_eq_getElem h]; rfl
theorem ruls_end (f : Fac) (ks : List Nd) (q : Option Int) (a : Nat) : ruls f (ks.drop ks.length) q a = (q, a) := by rw [List.drop_length, ruls]
theorem ruls_some (f : Fac) (p : Int) : ∀ ks a, (ruls f ks (some p) a).1 = some p
 | [], a => rfl
 | k :: r, a => by rw [ruls, nxt_some, nxts_some, ruls_some f p r]
theorem ruls_of (f : Fac) : ∀ (ks : List Nd) (a : Nat), (∀ p, (ruls f ks none a).1 = some p → rls f ks a = .error p) ∧ ((ruls f ks none a).1 = none → rls f ks a = .ok (ruls f ks none a).2)
 | [], a => ⟨fun p h => (by cases h), fun _ => rfl⟩
 | k :: r, a => by
   rw [ruls, rls]
   by_cases h : idx f.names k.s < 0
   ·rw [nxt_neg h, nxts_some, if_pos h]
    refine ⟨fun p hp => ?_, fun hp => ?_⟩
    ·rw [ruls_some] at hp
     injection hp with hp
     rw [hp]
    ·rw [ruls_some] at hp; cases hp
   ·rw [nxt_pos h, if_neg h]
    obtain ⟨h1, h2⟩ := plc_of f.names k.ws
    cases e : nxts f.names k.ws none with
    | some q =>
      rw [h1 q e]
      refine ⟨fun p hp => ?_, fun hp => ?_⟩
      ·rw [ruls_some] at hp
       injection hp with hp
       show Except.error q = _
       rw [hp]
      ·rw [ruls_some] at hp; cases hp
    | none =>
      rw [h2 e]
      exact ruls_of f r _
def wdP (f : Fac) (x : Nd) : Option Int × Nat :=
 if f.kind = 2 then (if x.k = 3 then (nxts f.names x.ws none, setv f.names x.ws) else (some x.p, 0))
 else if f.kind = 3 then (if x.k = 5 then ruls f x.ks none 0 else (some x.p, 0))
 else if x.k = 2 then (nxt none (idx f.names x.s) x.p, if f.kind = 4 then wordN f.n f.l (idx f.names x.s) else RG.wR f.names.length (idx f.names x.s)) else (some x.p, 0)
theorem wdP_of (f : Fac) (x : Nd) : (∀ p, (wdP f x).1 = some p → wordC f x = .error p) ∧ ((wdP f x).1 = none → wordC f x = .ok (wdP f x).2) := by
 unfold wdP wordC
 have bad : (∀ p, ((some x.p, 0) : Option Int × Nat).1 = some p → (Except.error x.p : Except Int Nat) = .error p) ∧ (((some x.p, 0) : Option Int × Nat).1 = none → (Except.error x.p : Except Int Nat) = .ok ((some x.p, 0) : Option Int × Nat).2) :=
  ⟨fun p h => (by injection h with h; rw [h]), fun h => (by cases h)⟩
 by_cases h2 : f.kind = 2
 ·rw [if_pos h2, if_pos h2]
  by_cases hk : x.k = 3
  ·rw [if_pos hk, if_pos hk]
   exact plc_of f.names x.ws
  ·rw [if_neg hk, if_neg hk]
   exact bad
 ·rw [if_neg h2, if_neg h2]
  by_cases h3 : f.kind = 3
  ·rw [if_pos h3, if_pos h3]
   by_cases hk : x.k = 5
   ·rw [if_pos hk, if_pos hk]
    exact ruls_of f x.ks 0
   ·rw [if_neg hk, if_neg hk]
    exact bad
  ·rw [if_neg h3, if_neg h3]
   by_cases hk : x.k = 2
   ·rw [if_pos hk]
    by_cases hi : idx f.names x.s < 0
    ·rw [nxt_neg hi, if_neg (show ¬(x.k = 2 ∧ 0 ≤ idx f.names x.s) by omega)]
     exact ⟨fun p h => (by injection h with h; rw [h]), fun h => (by cases h)⟩
    ·rw [nxt_pos hi, if_pos (show x.k = 2 ∧ 0 ≤ idx f.names x.s from ⟨hk, by omega⟩)]
     refine ⟨fun p h => (by cases h), fun _ => ?_⟩
     by_cases h4 : f.kind = 4
     ·rw [if_pos h4, if_pos h4]
     ·rw [if_neg h4, if_neg h4]
   ·rw [if_neg hk, if_neg (show ¬(x.k = 2 ∧ 0 ≤ idx f.names x.s) from fun h => hk h.1)]
    exact bad
theorem wdP_er (f : Fac) (x : Nd) : erW (wordC f x) = (wdP f x).1 := by
 obtain ⟨h1, h2⟩ := wdP_of f x
 cases e : (wdP f x).1 with
 | some p => rw [h1 p e]; rfl
 | none => rw [h2 e]; rfl
theorem wdP_ok (f : Fac) (x : Nd) (h : (wdP f x).1 = none) : okW (wordC f x) = (wdP f x).2 := by
 rw [(wdP_of f x).2 h]; rfl
end SP
end Go.Proofs.YtkgonoejnochjaaGreatDoor
namespace Go.Proofs.YtkgonoejnochjaaGreatDoor
namespace SP
open TM RM
theorem flt_els {v m : Nat} (hb : ∀ i, v.testBit i = true → i < m) (h64 : m ≤ 64) : (List.range m).filter (fun j : Nat => MM.hasN v (j : Int)) = MM.els v := by
 unfold MM.els
 have h1 : List.range 64 = List.range m ++ (List.range (64 - m)).map (m + ·) := by
  rw [← List.range_add]; congr 1; omega
 rw [h1, List.filter_append]
 have h2 : ((List.range (64 - m)).map (m + ·)).filter (fun i => v.testBit i) = [] := by
  rw [List.filter_eq_nil_iff]
  intro i hi hx
  obtain ⟨k, _, rfl⟩ := List.mem_map.1 hi
  have := hb _ hx
  omega
 rw [h2, List.append_nil]
 refine List.filter_congr fun j hj => ?_
 have := List.mem_range.1 hj
 unfold MM.hasN
 rw [decide_eq_true (by omega), Bool.true_and]; rfl
def nmW (names : List ByteArray) (i : Nat) : Wd := ⟨names.getD i ⟨#[]⟩, 0⟩
theorem nmd_els {names : List ByteArray} {v : Nat} (hb : ∀ i, v.testBit i = true → i < names.length) (h64 : names.length ≤ 64) : nmd names v = (MM.els v).map (nmW names) := by
 unfold nmd nmdTo
 rw [flt_els hb h64]; rfl
def rulN (names : List ByteArray) (n : Int) (l : List Nat) (v i : Nat) : Nd := nd 6 0 (names.getD i ⟨#[]⟩) (nmd names (gReaders n l v (i : Int))) []
theorem rul_els {names : List ByteArray} {n : Int} {l : List Nat} {v : Nat} (hp : pts n = names.length) (h64 : names.length ≤ 64) : rulTo names n l v names.length = (MM.els (gOwners n l v)).map (rulN names n l v) := by
 unfold rulTo
 rw [flt_els (fun i hi => by rw [← hp]; exact (ow_bits hi).1) h64]; rfl
theorem map_take {α : Type} (f : Nat → α) (l : List Nat) (j : Nat) (h : j < l.length) : (l.take (j + 1)).map f = (l.take j).map f ++ [f (l.getD j 0)] := by
 rw [List.take_succ_eq_append_getElem h, List.map_append, List.getD_eq_getElem?_getD, List.getElem?_eq_getElem h]; rfl
theorem els_bit {v j : Nat} (h : j < (MM.els v).length) : v.testBit ((MM.els v).getD j 0) = true ∧ (MM.els v).getD j 0 < 64 := by
 have hm : (MM.els v).getD j 0 ∈ MM.els v := by
  rw [List.getD_eq_getElem?_getD, List.getElem?_eq_getElem h]
  exact List.getElem_mem h
 have := MM.mem_els.1 hm
 exact ⟨this.2, this.1⟩
end SP
end Go.Proofs.YtkgonoejnochjaaGreatDoor
namespace Go.Proofs.YtkgonoejnochjaaGreatDoor
open Go.RowKit LX TR TM SP RM
def SP.kdK (f : Fac) : Int := if f.kind = 2 then 3 else if f.kind = 3 then 5 else 2
set_option maxRecDepth 100000 in
set_option maxHeartbeats 800000 in
theorem skind_any (f : Fac) (w : World) (hl : RW f.l) :
 Calls Tryz.prog 43 #[.agg (fv f)] w fun e w' => e = .returned (.int .i64 (kdK f)) ∧ Below w.heap.size w w' := by
 have hb : Below w.heap.size w (w.alloc (.cells (fv f) 51)) := (Below.refl _ _).alloc (Nat.le_refl _) _
 have HB := Lib.hid hb
 obtain ⟨c0, c1, c2, _⟩ := fac_cells (RowAt.new w 51 (fv f))
 have HK : Hid (kdK f = if f.kind = 2 then 3 else if f.kind = 3 then 5 else 2) := rfl
 generalize kdK f = k at *
 generalize f.kind = kd at *
 clear hb c1 c2
 by_cases h2 : kd = 2
 ·have e := HK.out
  rw [if_pos h2] at e
  have HE := Lib.hid e
  have ta : (kd == 2) = true := by simp [h2]
  clear h2 e HK
  go_enter Tryz.func43, Tryz.ntmps43
  go_wp2_with fail
  go_ret
  exact ⟨by rw [HE.out]; rfl, HB.out⟩
 ·have ta : (kd == 2) = false := by simp [h2]
  by_cases h3 : kd = 3
  ·have e := HK.out
   rw [if_neg h2, if_pos h3] at e
   have HE := Lib.hid e
   have tb : (kd == 3) = true := by simp [h3]
   clear h2 h3 e HK
   go_enter Tryz.func43, Tryz.ntmps43
   go_wp2_with fail
   go_ret
   exact ⟨by rw [HE.out]; rfl, HB.out⟩
  ·have e := HK.out
   rw [if_neg h2, if_neg h3] at e
   have HE := Lib.hid e
   have tb : (kd == 3) = false := by simp [h3]
   clear h2 h3 e HK
   go_enter Tryz.func43, Tryz.ntmps43
   go_wp2_with fail
   go_ret
   exact ⟨by rw [HE.out]; rfl, HB.out⟩
set_option maxRecDepth 100000 in
set_option maxHeartbeats 800000 in
theorem swrong_any (p : Int) (w : World) :
 Calls Tryz.prog 23 #[.int .i64 p] w fun e w' => e = .returned (.agg #[.int .i64 4, .int .i64 p]) ∧ Below w.heap.size w w' := by
 have HG := Lib.hid (RowAt.new w 36 #[.int .i64 0, .int .i64 0])
 have HB : Hid (Below w.heap.size w (w.alloc (.cells #[.int .i64 0, .int .i64 0] 36))) := (Below.refl _ _).alloc (Nat.le_refl _) _
 go_enter Tryz.func23, Tryz.ntmps23
 go_upto_region 1 with fail
 generalize w.alloc (.cells #[.int .i64 0, .int .i64 0] 36) = w1 at *
 obtain ⟨m0, m1, v0, v1⟩ := row2 HG.out
 go_wp2_with fail
 have hrow := (HG.out.put 0 (.int .i64 4)).put 1 (.int .i64 p)
 exact bodyPost_ret (ret_cell rfl _ _ w.heap.size _ _ (0, 0) _ rfl hrow Tryz.underlying36 rfl (fault_info _ _)) rfl ⟨rfl, (HB.out.setCell (p := ⟨w.heap.size, 0, none⟩) (Nat.le_refl _) _).setCell (p := ⟨w.heap.size, 1, none⟩) (Nat.le_refl _) _⟩
def SP.GotW (g : Nat) (W1 : World) (l : List Wd) (W : World) : Prop :=
 ∃ A c, Box W g 25 (.slice A l.length c) ∧ W.ownsRow W1.heap.size 54 2 (.slice A l.length c) l.length (wcs l) ∧ Mv g W1 W
set_option maxRecDepth 100000 in
set_option maxHeartbeats 1600000 in
theorem snamed1_any (g gf : Nat) (W1 : World) (f : Fac) (hf : RowAt W1 gf 51 (fv f)) (hne : gf ≠ g) (hg : g < W1.heap.size) (bb o : Nat) (hA : f.A = some ⟨bb, o, none⟩) (hbg : bb ≠ g) (hbw : bb < W1.heap.size)
 (l : List Wd) (hl : l.length ≤ 4294967296) (i : Nat) (hi : i < f.names.length) (hci : W1.cell? ⟨bb, o + i, none⟩ = some (.string (f.names.getD i ⟨#[]⟩))) (hn : f.names.length ≤ 4294967296) (W : World) (h : GotW g W1 l W) :
 Calls Tryz.prog 103 #[.int .i64 i, .pointer (some ⟨g, 0, none⟩), .pointer (some ⟨gf, 0, none⟩)] W fun e W' => e = .returned (.bool true) ∧ GotW g W1 (l ++ [nmW f.names i]) W' := by
 obtain ⟨A, c, hbox, hown, hm⟩ := h
 have HNM : Hid (nmW f.names i = ⟨f.names.getD i ⟨#[]⟩, 0⟩) := rfl
 obtain ⟨S, hSe⟩ : ∃ S : World → Prop, S = fun w' => Mv g W1 w' := ⟨_, rfl⟩
 have SI : Hid (∀ w', Mv g W1 w' → S w') := fun w' h => by rw [hSe]; exact h
 have C1 : ∀ w', S w' → w'.cell? ⟨gf, 1, none⟩ = some (.slice (some ⟨bb, o, none⟩) f.names.length f.c) := fun w' h => by
  rw [hSe] at h
  rw [← hA]
  exact (fac_cells (hf.mv h hne)).2.1
 have C2 : ∀ w', S w' → w'.cell? ⟨bb, o + i, none⟩ = some (.string (f.names.getD i ⟨#[]⟩)) := fun w' h => by
  rw [hSe] at h
  exact (World.cell?_of_block (w := W1) (h.block bb hbw hbg)).trans hci
 have HO := Lib.hid hown
 have HM := Lib.hid hm
 have HBX : Hid (Box W.drew g 25 (.slice A l.length c)) := hbox.drewN 1
 have HLT := Lib.hid hg
 have hin : (i : Int) < (f.names.length : Int) := by omega
 clear hown hm hbox hf hci hA hSe
 generalize nmW f.names i = nw at *
 generalize f.names.getD i ⟨#[]⟩ = s at *
 generalize f.names.length = nn at *
 generalize hln : l.length = n at *
 have HN := Lib.hid hln; clear hln
 have hsz := HM.out.size
 go_enter Tryz.func103, Tryz.ntmps103
 go_wp2_with fail
 refine wp_region_ot S (.take 1 (.take 2 (.take 3 (.take 4 (.take 5 (.take 6 (.two 0 (.solo 7 (.solo 8 (.solo 9 .nil))) 7 (.solo 0 (.solo 8 (.solo 9 .nil)))))))))) (by kernel_rfl) (by kernel_rfl) rfl (by kernel_rfl) (SI.out _ HM.out.drew) ?_
 generalize hV : W.drew = V at HBX ⊢
 have HO1 : Hid (V.ownsRow W1.heap.size 54 2 (.slice A n c) n (wcs l)) := by rw [← hV]; exact HO.out
 have HM1 : Hid (Mv g W1 V) := by rw [← hV]; exact HM.out.drew
 have hszV : W1.heap.size ≤ V.heap.size := HM1.out.size
 clear hV
 iterate 6
  (refine wpOT_step (o := ?_) ?_ ?_; rotate_left 1; (simp only [zA1, zA2, zA3]; with_reducible rfl))
  (first
        | (refine wpOT_skip (by rfl) ?_)
        | (refine wpOT_take (v := ?_) (by rfl) ?_ ?_; rotate_left 1; (intro wx hSx; have hc_0 := C1 wx hSx; have hc_1 := C2 wx hSx; go_simp; try with_reducible rfl)))
  (try simp only [Act.put, zA4, zA5, zA6])
 have hcb := HBX.out.cell
 have HOG : Hid ((V.alloc (.cells #[.string s, .int .i64 0] 54)).ownsRow W1.heap.size 54 2 (.slice A n c) n (wcs l)) := HO1.out.alloc _
 have HRG := Lib.hid (RowAt.new V 54 #[.string s, .int .i64 0])
 have HBG := Lib.hid (HBX.out.alloc (.cells #[.string s, .int .i64 0] 54))
 have hcg := HBG.out.cell
 have HMG := Lib.hid (HM1.out.alloc hg (.cells #[.string s, .int .i64 0] 54))
 have HS1 : Hid (S (V.alloc (.cells #[.string s, .int .i64 0] 54))) := SI.out _ HMG.out
 have HS : Hid (S V) := SI.out _ HM1.out
 clear C1 C2
 refine wpOT_two ?_ ?_
 ·(refine wpOT_solo (o := ?_) ?_ ?_; rotate_left 1; (simp only [zA1, zA2, zA3]; with_reducible rfl))
  intro K hK
  go_simp
  refine hK.out _ _ HS.out ?_
  clear hK K
  (try simp only [Act.put, zA4, zA5, zA6])
  (refine wpOT_solo (o := ?_) ?_ ?_; rotate_left 1; (simp only [zA1, zA2, zA3]; with_reducible rfl))
  intro K hK
  go_simp
  refine hK.out _ _ HS1.out ?_
  clear hK K
  (try simp only [Act.put, zA4, zA5, zA6])
  generalize V.alloc (.cells #[.string s, .int .i64 0] 54) = wb at *
  generalize V.heap.size = g9 at *
  (refine wpOT_solo (o := ?_) ?_ ?_; rotate_left 1; (simp only [zA1, zA2, zA3]; with_reducible rfl))
  intro K hK
  rw [if_pos (by rfl)]
  refine wp_moreB _ _ 25 rfl 54 (.agg #[.string ⟨#[]⟩, .int .i64 0]) 2 24 Tryz.underlying25 infoWord rfl (by decide) W1.heap.size A n c (wcs l) rfl HOG.out g9 (wcells ⟨s, 0⟩) rfl rfl ?c2 (wc_one _) ?c3 ?c4 ?c5 ?_
  case c2 => intro j u hu; exact (HRG.out.cell j).trans (by show ((wcells ⟨s, 0⟩).toArray)[j]? = some u; rw [zA1]; exact hu)
  case c3 => simp only [maxLen]; omega
  case c4 => omega
  case c5 => exact HMG.out.size
  intro X5 d5 w5 hown5 hb5 hg5 hat5
  have HB5 := Lib.hid (HBG.out.below hb5 HLT.out)
  have HM5 := Lib.hid (HMG.out.onBelow HLT.out hb5 (Nat.le_refl _))
  have HS5 : Hid (S w5) := SI.out _ HM5.out
  have HO5 := Lib.hid hown5
  refine hK.out _ _ HS5.out ?_
  clear hK K hown5 hb5 hg5 hat5 HOG HRG HMG
  (try simp only [Act.put, zA4, zA5, zA6])
  have hf5 := HB5.out.free
  have hc5 := HB5.out.cell
  have HM6 := Lib.hid (HM5.out.setCell (p := ⟨g, 0, none⟩) (.inl rfl) HLT.out (.slice X5 (n + 1) d5))
  (refine wpOT_solo (o := ?_) ?_ ?_; rotate_left 1; (simp only [zA1, zA2, zA3]; with_reducible rfl))
  intro K hK
  go_simp
  refine hK.out _ _ (SI.out _ HM6.out) ?_
  clear hK K
  (try simp only [Act.put, zA4, zA5, zA6])
  refine wpOT_done ?_
  go_wp2_with fail
  go_ret
  refine ⟨rfl, X5, d5, ?_, ?_, HM6.out⟩
  ·rw [List.length_append, HN.out]
   exact HB5.out.put (.slice X5 (n + 1) d5)
  ·rw [List.length_append, HN.out, HNM.out, wcs_append, wcs_one]
   exact own_like9 HO5.out (fun k hk e => (Else.setCell w5 ⟨g, 0, none⟩ (.slice X5 (n + 1) d5)).block k (by have h1 := HO5.out.lt k e; have h2 := HLT.out; show k ≠ g; omega))
 ·(refine wpOT_solo (o := ?_) ?_ ?_; rotate_left 1; (simp only [zA1, zA2, zA3]; with_reducible rfl))
  intro K hK
  go_simp
  refine hK.out _ _ HS1.out ?_
  clear hK K
  (try simp only [Act.put, zA4, zA5, zA6])
  (refine wpOT_solo (o := ?_) ?_ ?_; rotate_left 1; (simp only [zA1, zA2, zA3]; with_reducible rfl))
  intro K hK
  go_simp
  refine hK.out _ _ HS1.out ?_
  clear hK K
  (try simp only [Act.put, zA4, zA5, zA6])
  generalize V.alloc (.cells #[.string s, .int .i64 0] 54) = wb at *
  generalize V.heap.size = g9 at *
  (refine wpOT_solo (o := ?_) ?_ ?_; rotate_left 1; (simp only [zA1, zA2, zA3]; with_reducible rfl))
  intro K hK
  rw [if_pos (by rfl)]
  refine wp_moreB _ _ 25 rfl 54 (.agg #[.string ⟨#[]⟩, .int .i64 0]) 2 24 Tryz.underlying25 infoWord rfl (by decide) W1.heap.size A n c (wcs l) rfl HOG.out g9 (wcells ⟨s, 0⟩) rfl rfl ?c2 (wc_one _) ?c3 ?c4 ?c5 ?_
  case c2 => intro j u hu; exact (HRG.out.cell j).trans (by show ((wcells ⟨s, 0⟩).toArray)[j]? = some u; rw [zA1]; exact hu)
  case c3 => simp only [maxLen]; omega
  case c4 => omega
  case c5 => exact HMG.out.size
  intro X5 d5 w5 hown5 hb5 hg5 hat5
  have HB5 := Lib.hid (HBG.out.below hb5 HLT.out)
  have HM5 := Lib.hid (HMG.out.onBelow HLT.out hb5 (Nat.le_refl _))
  have HS5 : Hid (S w5) := SI.out _ HM5.out
  have HO5 := Lib.hid hown5
  refine hK.out _ _ HS5.out ?_
  clear hK K hown5 hb5 hg5 hat5 HOG HRG HMG
  (try simp only [Act.put, zA4, zA5, zA6])
  have hf5 := HB5.out.free
  have hc5 := HB5.out.cell
  have HM6 := Lib.hid (HM5.out.setCell (p := ⟨g, 0, none⟩) (.inl rfl) HLT.out (.slice X5 (n + 1) d5))
  (refine wpOT_solo (o := ?_) ?_ ?_; rotate_left 1; (simp only [zA1, zA2, zA3]; with_reducible rfl))
  intro K hK
  go_simp
  refine hK.out _ _ (SI.out _ HM6.out) ?_
  clear hK K
  (try simp only [Act.put, zA4, zA5, zA6])
  refine wpOT_done ?_
  go_wp2_with fail
  go_ret
  refine ⟨rfl, X5, d5, ?_, ?_, HM6.out⟩
  ·rw [List.length_append, HN.out]
   exact HB5.out.put (.slice X5 (n + 1) d5)
  ·rw [List.length_append, HN.out, HNM.out, wcs_append, wcs_one]
   exact own_like9 HO5.out (fun k hk e => (Else.setCell w5 ⟨g, 0, none⟩ (.slice X5 (n + 1) d5)).block k (by have h1 := HO5.out.lt k e; have h2 := HLT.out; show k ≠ g; omega))
set_option maxRecDepth 100000 in
set_option maxHeartbeats 1600000 in
theorem snamed_any (f : Fac) (v : Nat) (hv : v < 18446744073709551616) (hb : ∀ i, v.testBit i = true → i < f.names.length) (h64 : f.names.length ≤ 64) (w : World) (hT : Tab w) (hf : FacOk w f) :
 Calls Tryz.prog 57 #[.agg (fv f), .int .u64 (v : Int)] w fun e w' => ∃ Y dd, e = .returned (.slice Y (nmd f.names v).length dd) ∧ (nmd f.names v).length ≤ dd ∧ SlC w' (fun k => w.heap.size ≤ k) Y (wcs (nmd f.names v)) ∧ Below w.heap.size w w' := by
 rw [nmd_els hb h64]
 have h64e := MM.els_length v
 have HBW : Hid (Below w.heap.size w ((w.alloc (.cells (fv f) 51)).alloc (.cells #[.slice none 0 0] 25))) := ((Below.refl _ _).alloc (Nat.le_refl _) _).alloc (by simp) _
 have HRF := Lib.hid ((RowAt.new w 51 (fv f)).alloc (.cells #[.slice none 0 0] 25))
 have hbx := Box.new (w.alloc (.cells (fv f) 51)) 25 (.slice none 0 0)
 rw [show (w.alloc (.cells (fv f) 51)).heap.size = w.heap.size + 1 by simp] at hbx
 have HBX := Lib.hid hbx
 have HTB : Hid (∀ W, Below w.heap.size w W → Tab W) := fun W h => hT.below h
 have HST : Hid (∀ i, i < f.names.length → ∃ bb o, f.A = some ⟨bb, o, none⟩ ∧ bb < w.heap.size ∧ w.cell? ⟨bb, o + i, none⟩ = some (.string (f.names.getD i ⟨#[]⟩))) := fun i hi => by
  obtain ⟨bb, o, hA, hbb, hcs⟩ := Sl.at_ hf.strs (by
   intro h0
   have h1 := congrArg List.length h0
   unfold scells at h1
   rw [List.length_map] at h1
   simp at h1
   rw [h1] at hi
   simp at hi)
  exact ⟨bb, o, hA, hbb, hcs i _ (by
   unfold scells
   rw [List.getElem?_map, List.getD_eq_getElem?_getD, List.getElem?_eq_getElem hi]; rfl)⟩
 have HBI : Hid (∀ j, j < (MM.els v).length → (MM.els v).getD j 0 < f.names.length) := fun j hj => hb _ (els_bit hj).1
 clear hbx hf hT hb
 go_enter Tryz.func57, Tryz.ntmps57
 go_upto_region 2 with fail
 generalize hW1 : (w.alloc (.cells (fv f) 51)).alloc (.cells #[.slice none 0 0] 25) = W1 at *
 have hsz1 : w.heap.size + 1 < W1.heap.size := HBX.out.lt
 clear hW1
 go_wp2_with fail
 refine (each_any v hv 103 #[.pointer (some ⟨w.heap.size + 1, 0, none⟩), .pointer (some ⟨w.heap.size, 0, none⟩)] W1 (fun _ _ => by kernel_rfl) (fun j W => GotW (w.heap.size + 1) W1 (((MM.els v).take j).map (nmW f.names)) W) (fun W => GotW (w.heap.size + 1) W1 ((MM.els v).map (nmW f.names)) W)
  (fun j W h => HTB.out W (by obtain ⟨_, _, _, _, h⟩ := h; exact HBW.out.trans (h.low.mono (by omega)))) ⟨none, 0, HBX.out, World.ownsRow_nil _ _ _ _, Mv.refl _ _⟩ (fun W h => by rw [List.take_length] at h; exact h) ?_).mono ?_
 ·intro j W hj h
  obtain ⟨bb, o, hA, hbb, hci⟩ := HST.out _ (HBI.out j hj)
  refine (snamed1_any (w.heap.size + 1) w.heap.size W1 f HRF.out (by omega) hsz1 bb o hA (by omega) (by omega) _ ?_ ((MM.els v).getD j 0) (HBI.out j hj) ((below_cell HBW.out hbb).trans hci) (by omega) W h).mono ?_
  ·rw [List.length_map, List.length_take]; omega
  ·rintro e W' ⟨rfl, hG⟩
   exact .inl ⟨rfl, by rw [map_take _ _ _ hj]; exact hG⟩
 ·rintro e w2 ⟨rfl, A, c, hbox, hown, hm⟩
  have hcell := hbox.cell
  have HO := Lib.hid hown
  have HM := Lib.hid hm
  clear hown hm
  go_wp2_with fail
  go_ret
  exact ⟨A, c, by rw [List.length_map]; rfl, own_cap_le HO.out, SlC.of_own HO.out fun k h _ => by omega, HBW.out.trans (HM.out.low.mono (by omega))⟩
end Go.Proofs.YtkgonoejnochjaaGreatDoor
namespace Go.Proofs.YtkgonoejnochjaaGreatDoor
open Go.RowKit LX TR TM SP RM
set_option maxRecDepth 100000 in
set_option maxHeartbeats 1600000 in
theorem sindex_any (gf ge : Nat) (f : Fac) (s : ByteArray) (p : Int) (q : Option Int) (W : World) (hn : f.names.length ≤ 4294967296) (hf : RowAt W gf 51 (fv f)) (hst : Sl W ge f.A (scells f.names)) (he : RowAt W ge 36 (fcs q)) :
 Calls Tryz.prog 44 #[.string s, .int .i64 p, .pointer (some ⟨gf, 0, none⟩), .pointer (some ⟨ge, 0, none⟩)] W fun e W' => e = .returned (.int .i64 (idx f.names s)) ∧ RowAt W' ge 36 (fcs (nxt q (idx f.names s) p)) ∧ Mv ge W W' := by
 have hlt := he.lt
 have HF := Lib.hid (find_any f.A f.c f.names s W hn (hst.mono (Nat.le_of_lt hlt)))
 obtain ⟨_, c1, _, _⟩ := fac_cells hf
 have HE := Lib.hid he
 have HLT := Lib.hid hlt
 clear hst he hf
 generalize idx f.names s = k at *
 generalize f.names.length = nn at *
 by_cases hk : k < 0
 ·have tk : decide (k < 0) = true := decide_eq_true hk
  cases q with
  | none =>
    have HN : Hid (nxt none k p = some p) := nxt_neg hk p
    clear hk
    go_enter Tryz.func44, Tryz.ntmps44
    go_wp2_with fail
    refine HF.out.mono ?_
    rintro e w1 ⟨rfl, hb⟩
    have HE1 := Lib.hid (HE.out.below hb hlt)
    have HM1 := Lib.hid (Mv.below hlt hb)
    have HW := Lib.hid (swrong_any p w1)
    obtain ⟨m0, m1, _, _⟩ := row2 (a := .int .i64 0) (b := .int .i64 0) HE1.out
    clear hb
    go_wp2_with fail
    refine HW.out.mono ?_
    rintro e w2 ⟨rfl, hb⟩
    have hlt1 := HE1.out.lt
    have HE2 := Lib.hid (HE1.out.below hb hlt1)
    have HM2 := Lib.hid (HM1.out.onBelow hlt hb HM1.out.size)
    obtain ⟨m2, m3, v0, v1⟩ := row2 (a := .int .i64 0) (b := .int .i64 0) HE2.out
    clear hb m0 m1
    go_wp2_with fail
    go_ret
    refine ⟨rfl, ?_, (HM2.out.setCell (p := ⟨ge, 0, none⟩) (.inl rfl) hlt _).setCell (p := ⟨ge, 1, none⟩) (.inl rfl) hlt _⟩
    rw [HN.out]
    exact (HE2.out.put 0 (.int .i64 4)).put 1 (.int .i64 p)
  | some z =>
    have HN : Hid (nxt (some z) k p = some z) := nxt_some z k p
    clear hk
    go_enter Tryz.func44, Tryz.ntmps44
    go_wp2_with fail
    refine HF.out.mono ?_
    rintro e w1 ⟨rfl, hb⟩
    have HE1 := Lib.hid (HE.out.below hb hlt)
    have HM1 := Lib.hid (Mv.below hlt hb)
    obtain ⟨m0, m1, _, _⟩ := row2 (a := .int .i64 4) (b := .int .i64 z) HE1.out
    clear hb
    go_wp2_with fail
    go_ret
    exact ⟨rfl, by rw [HN.out]; exact HE1.out, HM1.out⟩
 ·have tk : decide (k < 0) = false := decide_eq_false hk
  have HN : Hid (nxt q k p = q) := nxt_pos hk q p
  clear hk
  go_enter Tryz.func44, Tryz.ntmps44
  go_wp2_with fail
  refine HF.out.mono ?_
  rintro e w1 ⟨rfl, hb⟩
  have HE1 := Lib.hid (HE.out.below hb hlt)
  have HM1 := Lib.hid (Mv.below hlt hb)
  clear hb
  go_wp2_with fail
  go_ret
  exact ⟨rfl, by rw [HN.out]; exact HE1.out, HM1.out⟩
set_option maxRecDepth 100000 in
set_option maxHeartbeats 1600000 in
theorem sset_any (gi gf ge : Nat) (f : Fac) (X : Option Addr) (d : Nat) (ws : List Wd) (q : Option Int) (W : World) (hw : ws.length ≤ 4294967296) (hn : f.names.length ≤ 4294967296)
 (hi : Box W gi 73 (.func (.func 44) #[] #[.pointer (some ⟨gf, 0, none⟩), .pointer (some ⟨ge, 0, none⟩)])) (hf : RowAt W gf 51 (fv f)) (hst : Sl W ge f.A (scells f.names)) (he : RowAt W ge 36 (fcs q))
 (h1 : gf ≠ ge) (h2 : gi ≠ ge) (hS : Sl W ge X (wcs ws)) :
 Calls Tryz.prog 46 #[.slice X ws.length d, .pointer (some ⟨gi, 0, none⟩)] W fun e W' => e = .returned (.int .u64 ((setv f.names ws : Nat) : Int)) ∧ RowAt W' ge 36 (fcs (nxts f.names ws q)) ∧ Mv ge W W' := by
 have hcf : ∀ args w, (callFunc 44 args).run Tryz.prog w = .ok (.enter 44 args) w := fun _ _ => by kernel_rfl
 have hlt := he.lt
 have HIX : Hid (∀ s p q' W', Mv ge W W' → RowAt W' ge 36 (fcs q') → Calls Tryz.prog 44 #[.string s, .int .i64 p, .pointer (some ⟨gf, 0, none⟩), .pointer (some ⟨ge, 0, none⟩)] W' fun e W2 => e = .returned (.int .i64 (idx f.names s)) ∧ RowAt W2 ge 36 (fcs (nxt q' (idx f.names s) p)) ∧ Mv ge W' W2) := fun s p q' W' hm he' =>
  sindex_any gf ge f s p q' W' hn (hf.mv hm h1) (Sl.below hst hm.low) he'
 have HBI : Hid (∀ W', Mv ge W W' → Box W' gi 73 (.func (.func 44) #[] #[.pointer (some ⟨gf, 0, none⟩), .pointer (some ⟨ge, 0, none⟩)])) := fun W' hm => (hm.block gi hi.lt h2).trans hi
 have HSW : Hid (∀ W', Mv ge W W' → Sl W' ge X (wcs ws)) := fun W' hm => Sl.below hS hm.low
 have HND : Hid (∀ i, i < ws.length → ∀ q', nxts f.names (ws.drop i) q' = nxts f.names (ws.drop (i + 1)) (nxt q' (idx f.names (ws.getD i w0).s) (ws.getD i w0).p)) := fun i h q' => nxts_drop f.names h q'
 have HNE : Hid (∀ q', nxts f.names (ws.drop ws.length) q' = q') := nxts_end f.names ws
 have HN0 : Hid (nxts f.names (ws.drop 0) q = nxts f.names ws q) := rfl
 have HS0 : Hid (setv f.names (ws.take 0) = 0) := setv_nil f.names ws
 have HST : Hid (∀ i, i < ws.length → setv f.names (ws.take (i + 1)) = MM.withN (setv f.names (ws.take i)) (idx f.names (ws.getD i w0).s)) := fun i h => setv_take f.names h
 have HSE : Hid (setv f.names (ws.take ws.length) = setv f.names ws) := by show _ = _; rw [List.take_length]
 have HSL : Hid (∀ i, setv f.names (ws.take i) < 18446744073709551616) := fun i => setv_lt _ _
 have HE := Lib.hid he
 clear hi hf hst he hS h1 h2 hn
 generalize nxts f.names ws q = qr at *
 generalize setv f.names ws = sr at *
 obtain ⟨st, hst⟩ : ∃ st : Nat → Nat, st = fun i => setv f.names (ws.take i) := ⟨_, rfl⟩
 have HS0' : Hid (st 0 = 0) := by rw [hst]; exact HS0
 have HST' : Hid (∀ i, i < ws.length → st (i + 1) = MM.withN (st i) (idx f.names (ws.getD i w0).s)) := by rw [hst]; exact HST
 have HSE' : Hid (st ws.length = sr) := by rw [hst]; exact HSE
 have HSL' : Hid (∀ i, st i < 18446744073709551616) := by rw [hst]; exact HSL
 clear hst HS0 HST HSE HSL
 generalize hm : ws.length = n at *
 have HN := Lib.hid hm; clear hm
 go_enter Tryz.func46, Tryz.ntmps46
 go_wp2_with fail
 go_loopw [4, 9] (fun sv iv wr => ∃ (i : Nat) (q' : Option Int), i ≤ n ∧ iv = .int .i64 i ∧ sv = .int .u64 ((st i : Nat) : Int) ∧ Hid (nxts f.names (ws.drop i) q' = qr) ∧ Hid (RowAt wr ge 36 (fcs q')) ∧ Hid (Mv ge W wr)) (fun _ iv _ => n - (intOf iv).toNat)
 case atStart => exact ⟨0, q, by omega, rfl, by rw [show st 0 = 0 from HS0'.out]; rfl, HN0, HE, Mv.refl _ _⟩
 case round =>
  obtain ⟨i, q', hi, rfl, rfl, HQ, HR, HM⟩ := hrel
  by_cases hlt2 : i < n
  ·obtain ⟨bb, o, rfl, hbb, hc⟩ := sl_at (z := w0) wcells_length (HSW.out wr HM.out) (k := i) (by rw [HN.out]; exact hlt2) (by omega)
   have p0 := hc i 0 _ (by rw [HN.out]; exact hlt2) (by omega) rfl
   have p1 := hc i 1 _ (by rw [HN.out]; exact hlt2) (by omega) rfl
   rw [Nat.add_zero] at p0
   rw [← Nat.add_assoc] at p1
   have hq2 := HQ.out
   rw [HND.out i hlt2 q'] at hq2
   have HQ2 := Lib.hid hq2
   have HST2 := Lib.hid (HST'.out i hlt2)
   have HNX := Lib.hid (HSL'.out (i + 1))
   have hx := HSL'.out i
   have hbi := HBI.out wr HM.out
   have hin : (i : Int) < (n : Int) := by omega
   clear hc hq2
   generalize ws.getD i w0 = v at *
   obtain ⟨vs, vp⟩ := v
   have p0' : wr.cell? ⟨bb, o + i * 2, none⟩ = some (.string vs) := p0
   have p1' : wr.cell? ⟨bb, o + i * 2 + 1, none⟩ = some (.int .i64 vp) := p1
   have HM2 := Lib.hid (HM.out.alloc hlt (.cells #[.string vs, .int .i64 vp] 54))
   have HR2 := Lib.hid (HR.out.alloc (.cells #[.string vs, .int .i64 vp] 54))
   have HIC := Lib.hid (HIX.out vs vp q' _ HM2.out HR2.out)
   have cbi := (hbi.alloc (.cells #[.string vs, .int .i64 vp] 54)).cell
   clear p0 p1 hbi
   simp only at HST2 HQ2
   generalize idx f.names vs = k at *
   go_wp2_with fail
   refine HIC.out.mono ?_
   rintro e w3 ⟨rfl, he3, hm3⟩
   have HE3 := Lib.hid he3
   have HM3 := Lib.hid (HM2.out.trans hm3)
   have HWC := Lib.hid (with_any (st i) hx k w3)
   clear he3 hm3 cbi
   go_wp2_with fail
   refine HWC.out.mono ?_
   rintro e w4 ⟨rfl, rfl⟩
   go_wp2_with fail
   go_roundw
   case rel => exact ⟨i + 1, nxt q' k vp, by omega, by go_num, by rw [HST2.out], HQ2, HE3, HM3⟩
   case measure => simp [intOf]; omega
  ·obtain rfl : i = n := by omega
   have hq2 := HQ.out
   rw [HNE.out] at hq2
   have HQ2 := Lib.hid hq2
   have HSE2 := HSE'.out
   clear hq2
   go_wp2_with fail
   go_ret
   exact ⟨by rw [HSE2]; rfl, by rw [← HQ2.out]; exact HR.out, HM.out⟩
end Go.Proofs.YtkgonoejnochjaaGreatDoor

