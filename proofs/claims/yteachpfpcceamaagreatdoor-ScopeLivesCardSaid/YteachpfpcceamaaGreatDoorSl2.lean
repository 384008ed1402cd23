/- Texts that all the claims need. Conditions: those that each states. -/
import Derived.Deep.MidRow
import Derived.Maps.OwnSet
import Derived.Test.YteachpfpcceamaaGreatDoorSl1
set_option linter.unusedSimpArgs false
set_option linter.unusedVariables false
set_option maxRecDepth 100000
set_option maxHeartbeats 40000000
namespace Go.Proofs.YteachpfpcceamaaGreatDoor
section
open Go.RowKit Go.Maps
theorem flat_at {α : Type} (g : α → List Value) (k : Nat) (hk : ∀ x, (g x).length = k) (d : α) : ∀ (xs : List α) (i j : Nat), i < xs.length → j < k → (xs.flatMap g)[i * k + j]? = (g (xs.getD i d))[j]?
 | [], i, j, hi, _ => by simp at hi
 | x :: xs, 0, j, _, hj => by
   rw [List.flatMap_cons, List.getElem?_append_left (by rw [hk]; omega)]
   simp
 | x :: xs, i + 1, j, hi, hj => by
   rw [List.flatMap_cons, List.getElem?_append_right (by rw [hk, Nat.add_mul]; omega), hk, show (i + 1) * k + j - k = i * k + j by rw [Nat.add_mul]; omega]
   exact flat_at g k hk d xs i j (by simpa using hi) hj
def Ls {α : Type} (g : α → List Value) (w : World) (A : Option Addr) (xs : List α) : Prop := Sl w w.heap.size A (xs.flatMap g)
section
variable {α : Type} {g : α → List Value} {w w' : World} {A : Option Addr} {xs : List α}
theorem Ls.below (h : Ls g w A xs) (hb : Below w.heap.size w w') : Ls g w' A xs := (Sl.below h hb).mono hb.size
theorem Ls.nil : Ls g w A [] := Sl.nil _ _ _
theorem Ls.at (h : Ls g w A xs) (k : Nat) (hk : ∀ x, (g x).length = k) (hk0 : 0 < k) (d : α) {i : Nat} (hi : i < xs.length) : ∃ b o, A = some ⟨b, o, none⟩ ∧ b < w.heap.size ∧ ∀ i, i < xs.length → w.rangeAt b (o + i * k) (g (xs.getD i d)) := by
 have h0 := flat_at g k hk d xs i 0 hi hk0
 obtain ⟨b, o, hA, hb, hc⟩ := Sl.at_ h (fun e => by
  rw [List.getElem?_eq_getElem (i := 0) (l := g (xs.getD i d)) (by rw [hk]; exact hk0), e] at h0
  simp at h0)
 refine ⟨b, o, hA, hb, fun i hi j u hu => ?_⟩
 have hj : j < k := by
  have := (List.getElem?_eq_some_iff.1 hu).1
  rwa [hk] at this
 rw [Nat.add_assoc]
 exact hc _ _ ((flat_at g k hk d xs i j hi hj).trans hu)
end
theorem getD_mem' {α : Type} {xs : List α} {i : Nat} {d : α} (hi : i < xs.length) : xs.getD i d ∈ xs := by
 rw [List.getD_eq_getElem?_getD, List.getElem?_eq_getElem hi]
 exact List.getElem_mem hi
theorem getD_map' {α β : Type} (f : α → β) {xs : List α} {i : Nat} {d : α} {e : β} (hi : i < xs.length) : (xs.map f).getD i e = f (xs.getD i d) := by
 rw [List.getD_eq_getElem?_getD, List.getD_eq_getElem?_getD, List.getElem?_map, List.getElem?_eq_getElem hi]
 rfl
theorem run_makeMapTo (n : Int) (w : World) : (Instr.makeMap 83 (some (.int .i64 n))).run Tryz.prog w = .ok (.map (some w.heap.size)) (w.alloc (.map #[] 0)) := by
 simp [Instr.makeMap, asInt, asIntOf, run_underlying Tryz.underlying83, Result.andThen]
def FMap (W : World) (B n : Nat) (f : ByteArray → Int) : Prop :=
 ∃ D : DataW Unit, W.ownsMap Tryz.prog 9 (plainElem Tryz.prog 3) B n D ∧ IsMap D ∧ ∀ s : ByteArray, s.size ≤ maxLen → Maps.has D (.string s.data.toList) = decide (0 ≤ f s) ∧ D.atKey (.string s.data.toList) (.lit (.int .i64 0)) = .lit (.int .i64 (if 0 ≤ f s then f s else 0))
section
variable {W W' : World} {B n : Nat} {f : ByteArray → Int}
theorem FMap.drew (h : FMap W B n f) : FMap W.drew B n f := h
theorem FMap.same (h : FMap W B n f) (hb : W'.heap[B]? = W.heap[B]?) : FMap W' B n f := by
 obtain ⟨D, ⟨es, clock, h1, F, hs, hD⟩, h2, h3⟩ := h
 exact ⟨D, ⟨es, clock, hb.trans h1, F, hs, hD⟩, h2, h3⟩
theorem FMap.lt (h : FMap W B n f) : B < W.heap.size := by
 obtain ⟨D, h1, _⟩ := h
 exact h1.lt
theorem FMap.below {b : Nat} (h : FMap W B n f) (hb : Below b W W') (hB : B < b) : FMap W' B n f := h.same (hb.block B hB)
theorem FMap.new (w : World) : FMap (w.alloc (.map #[] 0)) w.heap.size 0 (fun _ => -1) :=
 ⟨.map [], World.ownsMap_made _ _ _ _, isMap_empty, fun _ _ => ⟨rfl, rfl⟩⟩
theorem FMap.ok (h : FMap W B n f) {s : ByteArray} (hs : s.size ≤ maxLen) : (Instr.lookup 83 (.map (some B)) (.string s) true).run Tryz.prog W = .ok (.tuple #[.int .i64 (if 0 ≤ f s then f s else 0), .bool (decide (0 ≤ f s))]) W := by
 obtain ⟨D, h1, _, h3⟩ := h
 obtain ⟨v, ps, hrun, hv⟩ := h1.look_ok lawStr Tryz.underlying83 (zeroInt _) (plainElem_int Tryz.underlying3 (by decide)) (WideMaps.keyOf_string_mk Tryz.underlying9 hs)
 obtain ⟨c, rfl, hc, _⟩ := plainElem_int_inv Tryz.underlying3 hv
 simp only [Prod.mk.injEq] at hc
 have h4 := (h3 s hs).2
 rw [hc.1] at h4
 simp only [DataW.lit.injEq, Lit.int.injEq, true_and] at h4
 rw [(h3 s hs).1, h4] at hrun
 exact hrun
theorem FMap.look (h : FMap W B n f) {s : ByteArray} (hs : s.size ≤ maxLen) : (Instr.lookup 83 (.map (some B)) (.string s) false).run Tryz.prog W = .ok (.int .i64 (if 0 ≤ f s then f s else 0)) W := by
 obtain ⟨D, h1, _, h3⟩ := h
 obtain ⟨c, hrun, hat, _⟩ := h1.lookup_int lawStr Tryz.underlying83 Tryz.underlying3 (zeroInt _) (WideMaps.keyOf_string_mk Tryz.underlying9 hs)
 rw [(h3 s hs).2] at hat
 simp only [DataW.lit.injEq, Lit.int.injEq, true_and] at hat
 rw [hat]
 exact hrun
end
theorem wpList_fmap {w : World} {ops : Array Oper} {rest : List Oper} {o : Oper} {a : Act} {Q : Exit → Act → World → Prop}
 (hg : o.guard = none) (m x v : Operand) (hop : o.op = Op.mapUpdate 83 m x v) (B n : Nat) (f : ByteArray → Int)
 (hm : a.eval m = .map (some B)) (hc : FMap w B n f) (hn : n < maxLen) (s : ByteArray) (hs : s.size ≤ maxLen) (c : Nat) (hcb : c < 4294967300) (hx : a.eval x = .string s) (hv : a.eval v = .int .i64 c)
 (hK : ∀ w', FMap w' B (n + 1) (fun t => if t = s then c else f t) → w.grownBy w' (some B) → wpList Tryz.prog ops Q rest (a.put o.dst undef) w') :
 wpList Tryz.prog ops Q (o :: rest) a w := by
 obtain ⟨D, h1, h2, h3⟩ := hc
 refine wpList_mapUpdate_own w hg m x v 83 hop 9 3 lawStr Tryz.underlying83 _ B n D hm h1 hn _ _ _ hx hv (WideMaps.keyOf_string_mk Tryz.underlying9 hs) _ [] (plainElem_int Tryz.underlying3 (WalkArith.wf_i64 (by omega))) ?_
 intro w' hown hgr
 refine hK w' ⟨_, hown, h2.put _ _, fun t ht => ?_⟩ hgr
 by_cases hts : t = s
 ·subst hts
  rw [atKey_put_same h2 (by simp [WideAt.IsKeyLit]), has_put_same h2 (by simp [WideAt.IsKeyLit])]
  simp
 ·have e2 : ((fun t => if t = s then (c : Int) else f t) t) = f t := if_neg hts
  have hne : Lit.string t.data.toList ≠ Lit.string s.data.toList := by
   intro e
   apply hts
   simp only [Lit.string.injEq] at e
   cases t; cases s
   simp only [ByteArray.mk.injEq]
   exact Array.toList_inj.1 e
  rw [e2, atKey_put_other hne, has_put_other hne]
  exact h3 t ht
def idn (xs : List ByteArray) (j : Nat) (s : ByteArray) : Int := NM.fst (fun i => decide (xs.getD i ⟨#[]⟩ = s)) j
theorem idn_all (xs : List ByteArray) (s : ByteArray) : idn xs xs.length s = idx xs s := rfl
theorem idn_zero (xs : List ByteArray) : idn xs 0 = fun _ => -1 := by funext s; rfl
theorem idn_bd (xs : List ByteArray) (j : Nat) (s : ByteArray) : -1 ≤ idn xs j s ∧ idn xs j s < j := NM.fst_bd _ _
theorem idn_has {xs : List ByteArray} {j : Nat} {s : ByteArray} (h : 0 ≤ idn xs j s) : idn xs (j + 1) s = idn xs j s := by
 unfold idn at h ⊢
 rcases NM.fst_cases (fun i => decide (xs.getD i ⟨#[]⟩ = s)) j with ⟨k, hk, e, hp, h0⟩ | ⟨e, _⟩
 ·rw [e]; exact NM.fst_hit (by omega) hp h0
 ·rw [e] at h; omega
theorem idn_new {xs : List ByteArray} {j : Nat} (h : ¬ 0 ≤ idn xs j (xs.getD j ⟨#[]⟩)) : idn xs (j + 1) = fun t => if t = xs.getD j ⟨#[]⟩ then (j : Int) else idn xs j t := by
 funext t
 unfold idn at h ⊢
 split
 ·rename_i ht
  subst ht
  rcases NM.fst_cases (fun i => decide (xs.getD i ⟨#[]⟩ = xs.getD j ⟨#[]⟩)) j with ⟨k, hk, e, _, _⟩ | ⟨e, h0⟩
  ·rw [e] at h; omega
  ·exact NM.fst_hit (by omega) (by simp) h0
 ·rename_i ht
  rcases NM.fst_cases (fun i => decide (xs.getD i ⟨#[]⟩ = t)) j with ⟨k, hk, e, hp, h0⟩ | ⟨e, h0⟩
  ·rw [e]; exact NM.fst_hit (by omega) hp h0
  ·rw [e]
   refine NM.fst_miss fun i hi => ?_
   by_cases hij : i = j
   ·rw [hij, decide_eq_false_iff_not]; exact fun e => ht e.symm
   ·exact h0 i (by omega)
theorem idn_same {xs : List ByteArray} {j : Nat} (h : 0 ≤ idn xs j (xs.getD j ⟨#[]⟩)) : idn xs (j + 1) = idn xs j := by
 funext t
 by_cases ht : t = xs.getD j ⟨#[]⟩
 ·subst ht; exact idn_has h
 ·unfold idn
  rcases NM.fst_cases (fun i => decide (xs.getD i ⟨#[]⟩ = t)) j with ⟨k, hk, e, hp, h0⟩ | ⟨e, h0⟩
  ·rw [e]; exact NM.fst_hit (by omega) hp h0
  ·rw [e]
   refine NM.fst_miss fun i hi => ?_
   by_cases hij : i = j
   ·rw [hij, decide_eq_false_iff_not]; exact fun e => ht e.symm
   ·exact h0 i (by omega)
theorem firsts_any (xs : List ByteArray) (F : FuncId) (cap : Array Value) (w : World) (hn : xs.length ≤ 4294967296) (hs : ∀ x ∈ xs, x.size ≤ maxLen)
 (hf : ∀ args w, (callFunc F args).run Tryz.prog w = .ok (.enter F args) w)
 (H : ∀ j W, j < xs.length → Below w.heap.size w W → Calls Tryz.prog F (#[.int .i64 (j : Nat)] ++ cap) W fun e W' => e = .returned (.string (xs.getD j ⟨#[]⟩)) ∧ W = W') :
 Calls Tryz.prog 91 #[.int .i64 (xs.length : Nat), .func (.func F) #[] cap] w fun e w' => ∃ n, e = .returned (.map (some w.heap.size)) ∧ FMap w' w.heap.size n (idx xs) ∧ Below w.heap.size w w' ∧ w.heap.size < w'.heap.size := by
 have HH := zh H; clear H
 have HS := zh hs; clear hs
 have HALL : Hid (idn xs xs.length = idx xs) := rfl
 have HNEW : Hid (∀ j, ¬ 0 ≤ idn xs j (xs.getD j ⟨#[]⟩) → idn xs (j + 1) = fun t => if t = xs.getD j ⟨#[]⟩ then (j : Int) else idn xs j t) := fun _ => idn_new
 have HOLD : Hid (∀ j, 0 ≤ idn xs j (xs.getD j ⟨#[]⟩) → idn xs (j + 1) = idn xs j) := fun _ => idn_same
 have HMEM : Hid (∀ j, j < xs.length → (xs.getD j ⟨#[]⟩).size ≤ maxLen) := fun j h => HS.out _ (getD_mem' h)
 have hmm := run_makeMapTo
 have HF0 : Hid (FMap (w.alloc (.map #[] 0)) w.heap.size 0 (idn xs 0)) := by
  show FMap (w.alloc (.map #[] 0)) w.heap.size 0 (idn xs 0)
  rw [idn_zero]; exact FMap.new w
 have HB0 : Hid (Below w.heap.size w (w.alloc (.map #[] 0))) := (zB _ _).alloc (zL _) _
 generalize hN : xs.length = N at *
 have HN := zh hN; clear hN
 go_enter Tryz.func91, Tryz.ntmps91
 go_wp2_with fail
 go_loopw [12] (fun iv wr => ∃ i n : Nat, i ≤ N ∧ n ≤ i ∧ iv = .int .i64 i ∧ Hid (FMap wr w.heap.size n (idn xs i)) ∧ Hid (Below w.heap.size w wr)) (fun iv _ => N - (intOf iv).toNat)
 case atStart => exact ⟨0, 0, by omega, zL _, rfl, HF0, HB0⟩
 case round =>
  clear HF0 HB0
  obtain ⟨i, n, hi, hni, rfl, HF, HB⟩ := hrel
  by_cases hlt : i < N
  ·have HC := zh (HH.out i wr hlt HB.out)
   have HC' := zh (HH.out i)
   have hsz := HMEM.out i hlt
   have hok := HF.out.ok hsz
   have hnew := HNEW.out i
   have hold := HOLD.out i
   generalize hx : xs.getD i ⟨#[]⟩ = x at *
   have HSZ := zh hsz; clear hsz
   have HX := zh hx; clear hx
   by_cases hd : 0 ≤ idn xs i x
   ·rw [if_pos hd, zE hd] at hok
    have HE := zh (hold hd)
    clear hnew hold
    have hd1 := (idn_bd xs i x).2
    generalize idn xs i x = q at *
    go_wp2_with fail
    refine HC.out.mono ?_
    rintro e W ⟨rfl, rfl⟩
    go_wp2_with fail
    go_roundw
    case rel =>
     refine ⟨i + 1, n, by omega, by omega, by go_num, ?_, HB⟩
     show FMap wr w.heap.size n (idn xs (i + 1))
     rw [HE.out]; exact HF.out
    case measure => simp [intOf]; omega
   ·rw [if_neg hd, zF hd] at hok
    have HE := zh (hnew (by omega))
    clear hnew hold hd
    go_wp2_with fail
    refine HC.out.mono ?_
    rintro e W ⟨rfl, rfl⟩
    go_wp2_with fail
    refine HC.out.mono ?_
    rintro e W ⟨rfl, rfl⟩
    go_wp2_with (refine wpList_fmap rfl _ _ _ rfl w.heap.size n _ rfl HF.out (by unfold maxLen; omega) x HSZ.out i (by omega) rfl rfl ?_; intro w1 hf1 hgr)
    have HF1 : Hid (FMap w1 w.heap.size (n + 1) (idn xs (i + 1))) := by
     show FMap w1 w.heap.size (n + 1) (idn xs (i + 1))
     rw [HE.out]; exact hf1
    have HB1 : Hid (Below w.heap.size w w1) := HB.out.grown hgr (by have := HB.out.size; omega) (fun k hk => by cases hk; exact zL _)
    clear hf1 hgr
    go_roundw
    case rel => exact ⟨i + 1, n + 1, by omega, by omega, by go_num, HF1, HB1⟩
    case measure => simp [intOf]; omega
  ·obtain rfl : i = N := by omega
   go_wp2
   go_ret
   refine ⟨n, rfl, ?_, HB.out, HF.out.lt⟩
   rw [← HALL.out]; exact HF.out
end
end Go.Proofs.YteachpfpcceamaaGreatDoor
