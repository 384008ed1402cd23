/-
  Words of our own for slices in memory: a slice that reads as a list of cells, a slice that the call itself made, one more element. Conditions: none.
-/
import Derived.Test.YtapnefhmonpgdaaRows
import Derived.WalkKit
import Derived.WalkSpells
import Derived.WalkLawsBesides
import Derived.Lib.Hide
import Derived.Laws.BitsAllLaws
import Derived.Laws.Bits64b
import Derived.Lib.TrailingZeros
import Derived.Lib.LaidTab
import Derived.LoopTactic
import Derived.Deep.QuietTactic
import Derived.BigQuiet
import Derived.Deep.LoopGhost
set_option linter.unusedSimpArgs false
set_option linter.unusedVariables false
namespace Go.Proofs.Ytapnefhmonpgdaa
open Go.RowKit

set_option maxRecDepth 8000 in
theorem ret_eq {a b : Value} (h : a = b) : Ending.returned a = Ending.returned b := by rw [h]
set_option maxRecDepth 8000 in
theorem int_eq {k : IntKind} {a b : Int} (h : a = b) : Value.int k a = Value.int k b := by rw [h]
set_option maxRecDepth 8000 in
theorem bool_eq {a b : Bool} (h : a = b) : Value.bool a = Value.bool b := by rw [h]

/-- The cells from A on are these, and lie below block B. -/
def Sl (w : World) (B : Nat) (A : Option Addr) (cs : List Value) : Prop :=
  cs ≠ [] → ∃ b o, A = some ⟨b, o, none⟩ ∧ b < B ∧ ∀ j u, cs[j]? = some u → w.cell? ⟨b, o + j, none⟩ = some u
section
variable {w w' : World} {B B' n size c : Nat} {A : Option Addr} {cs : List Value}
set_option maxRecDepth 8000 in
theorem Sl.nil (w : World) (B : Nat) (A : Option Addr) : Sl w B A [] := fun h => absurd rfl h
set_option maxRecDepth 8000 in
theorem Sl.below (h : Sl w B A cs) (hb : Below B w w') : Sl w' B A cs := fun hne => by
  obtain ⟨b, o, hA, hlt, hc⟩ := h hne
  exact ⟨b, o, hA, hlt, fun j u hu => (hb.cell (p := ⟨b, o + j, none⟩) hlt).trans (hc j u hu)⟩
set_option maxRecDepth 8000 in
theorem Sl.mono (h : Sl w B A cs) (hB : B ≤ B') : Sl w B' A cs := fun hne => by
  obtain ⟨b, o, hA, hlt, hc⟩ := h hne
  exact ⟨b, o, hA, by omega, hc⟩
set_option maxRecDepth 8000 in
theorem Sl.at_ (h : Sl w B A cs) (hne : cs ≠ []) : ∃ b o, A = some ⟨b, o, none⟩ ∧ b < B ∧ ∀ j u, cs[j]? = some u → w.cell? ⟨b, o + j, none⟩ = some u := h hne
set_option maxRecDepth 8000 in
theorem Sl.of_own {base : Nat} {e : TypeId} (h : w.ownsRow base e size (.slice A n c) n cs) : Sl w w.heap.size A cs := fun hne => by
  rcases h.2 with ⟨_, hn⟩ | ⟨g, cap, cur, hv, _, hg, _, _, _, ht⟩
  · have := h.1
    rw [hn] at this
    exact absurd (List.eq_nil_of_length_eq_zero (by simpa using this)) hne
  · injection hv with hA _ _
    subst hA
    refine ⟨g, 0, rfl, (Array.getElem?_eq_some_iff.1 hg).1, fun j u hu => ?_⟩
    rw [Nat.zero_add, cell_of_row w g j cur e (0, 0) hg]
    rw [← ht, List.getElem?_take] at hu
    split at hu
    · simpa using hu
    · cases hu
set_option maxRecDepth 8000 in
/-- The shape of what the call owns. -/
theorem own_form {base : Nat} {e : TypeId} {v : Value} (h : w.ownsRow base e size v n cs) : ∃ A c, v = .slice A n c ∧ n ≤ c ∧ c ≤ maxLen := by
  rcases h.2 with ⟨rfl, rfl⟩ | ⟨g, cap, cur, rfl, _, _, h1, h2, _⟩
  · exact ⟨_, _, rfl, Nat.le_refl _, by simp [maxLen]⟩
  · exact ⟨_, _, rfl, h1, h2⟩
set_option maxRecDepth 8000 in
theorem own_below {base : Nat} {e : TypeId} {v : Value} {k : Nat} (h : w.ownsRow base e size v n cs) (hb : Below k w w') (hk : w.heap.size ≤ k) : w'.ownsRow base e size v n cs := by
  refine ⟨h.1, ?_⟩
  rcases h.2 with hn | ⟨g, cap, cur, hv, hg, hh, rest⟩
  · exact .inl hn
  · have hlt := (Array.getElem?_eq_some_iff.1 hh).1
    exact .inr ⟨g, cap, cur, hv, hg, (hb.block g (by omega)).trans hh, rest⟩
set_option maxRecDepth 8000 in
theorem own_mono {base base' : Nat} {e : TypeId} {v : Value} (h : w.ownsRow base e size v n cs) (hb : base' ≤ base) : w.ownsRow base' e size v n cs := by
  refine ⟨h.1, ?_⟩
  rcases h.2 with hn | ⟨g, cap, cur, hv, hg, rest⟩
  · exact .inl hn
  · exact .inr ⟨g, cap, cur, hv, by omega, rest⟩
end

set_option maxRecDepth 8000 in
theorem bdrewN {B : Nat} {a w : World} (h : Below B a w) (n : Nat) : Below B a (w.drewN n) := ⟨h.os, h.tape, h.output, h.size, h.block⟩

set_option maxRecDepth 8000 in
/-- One more element, of whatever size, onto a row of the call's own. -/
theorem wpList_more {P : Program} (w : World) {ops : Array Oper} {rest : List Oper} {o : Oper} {a : Act} {Q : Exit → Act → World → Prop} (hgd : o.guard = none) (s x : Operand) (t : TypeId)
    (ho : o.op = .call { callee := .builtin .append, args := #[s, x], argTypes := #[t, t] })
    (e : TypeId) (z : Value) (size bytes : Nat) (ht : P.underlying t = some (.slice e))
    (hinf : (P.info? e).map (fun i => (i.zero, i.size, i.bytes)) = some (some z, size, bytes)) (hzs : z.cells.size = size) (hsz : 0 < size) (hby : bytes ≤ 4096)
    (base : Nat) (A : Option Addr) (n c : Nat) (cs : List Value) (hs : a.eval s = .slice A n c) (hown : w.ownsRow base e size (.slice A n c) n cs)
    (g m k : Nat) (news : List Value) (hx : a.eval x = .slice (some ⟨g, 0, none⟩) m k) (hl : news.length = m * size) (hm : m ≤ 65536)
    (hnews : ∀ j u, news[j]? = some u → w.cell? ⟨g, j, none⟩ = some u) (h1 : ∀ u ∈ news, u.oneCell' = true)
    (hn : n ≤ 4294967296) (hbase : base ≤ w.heap.size)
    (h : ∀ A' c' w', w'.ownsRow base e size (.slice A' (n + m) c') (n + m) (cs ++ news) → Below base w w' → w.grownBy w' (Value.slice A n c).ownBlock → wpList P ops Q rest (a.put o.dst (.slice A' (n + m) c')) w') :
    wpList P ops Q (o :: rest) a w := by
  obtain ⟨i, hi, hz, hi1, hi2⟩ := info_parts hinf
  have hadd : ∀ j, (⟨g, 0, none⟩ : Addr).add j = ⟨g, j, none⟩ := fun j => by unfold Addr.add; split <;> simp_all
  have hb2 : (n + m) * bytes ≤ 140737488355328 := Nat.le_trans (Nat.mul_le_mul (show n + m ≤ 4295032832 by omega) hby) (by decide)
  refine wpList_append_own w hgd s x t ho base e i z size bytes ht hi hz hi1 hi2 hzs hsz (.slice A n c) n cs hs hown ⟨g, 0, none⟩ m k news hx hl
    (fun j u hu => by rw [hadd]; exact hnews j u hu) h1 (by simp only [maxLen]; omega) hb2 hbase ?_
  intro v' w' hown' hg _
  obtain ⟨A', c', rfl, _, _⟩ := own_form hown'
  exact h A' c' w' hown' ((Below.refl base w).grown hg hbase (fun k hk => (hown.lt k hk).1)) hg
set_option maxRecDepth 8000 in
theorem one_new (w : World) (x : Value) (e : TypeId) : ∀ j u, [x][j]? = some u → (w.alloc (.cells #[x] e)).cell? ⟨w.heap.size, j, none⟩ = some u := by
  intro j u hu
  cases j with
  | zero =>
    simp at hu
    subst hu
    rw [World.cell?_alloc_at _ _ _ _ rfl]; rfl
  | succ j => simp at hu
/-- A variable of the call's own: one block, one cell. -/
def Box (w : World) (g : Nat) (t : TypeId) (v : Value) : Prop := w.heap[g]? = some (.cells #[v] t (0, 0))
section
variable {w w' : World} {g : Nat} {t : TypeId} {v : Value}
set_option maxRecDepth 8000 in
theorem Box.lt (h : Box w g t v) : g < w.heap.size := (Array.getElem?_eq_some_iff.1 h).1
set_option maxRecDepth 8000 in
theorem Box.cell (h : Box w g t v) : w.cell? ⟨g, 0, none⟩ = some v := by rw [cell_of_row w g 0 _ t (0, 0) h]; rfl
set_option maxRecDepth 8000 in
theorem Box.free (h : Box w g t v) : w.frozen? ⟨g, 0, none⟩ = false := by
  unfold Box at h
  simp [World.frozen?, h]
set_option maxRecDepth 8000 in
theorem Box.new (w : World) (t : TypeId) (v : Value) : Box (w.alloc (.cells #[v] t)) w.heap.size t v := heap_alloc_new w _
set_option maxRecDepth 8000 in
theorem Box.alloc (h : Box w g t v) (o : Obj) : Box (w.alloc o) g t v := (heap_alloc_old w o h.lt).trans h
set_option maxRecDepth 8000 in
theorem Box.drewN (h : Box w g t v) (n : Nat) : Box (w.drewN n) g t v := h
set_option maxRecDepth 8000 in
theorem Box.below {B : Nat} (h : Box w g t v) (hb : Below B w w') (hg : g < B) : Box w' g t v := (hb.block g hg).trans h
set_option maxRecDepth 8000 in
theorem Box.grown {row : Option Nat} (h : Box w g t v) (hb : w.grownBy w' row) (hg : row ≠ some g) : Box w' g t v := (hb.block g h.lt (fun e => hg e.symm)).trans h
set_option maxRecDepth 8000 in
theorem Box.put (h : Box w g t v) (u : Value) : Box (w.setCell ⟨g, 0, none⟩ u) g t u := by
  unfold Box at h ⊢
  simp [World.setCell, Array.getElem?_modify, h]
set_option maxRecDepth 8000 in
theorem Box.far (h : Box w g t v) {p : Addr} (hp : p.block ≠ g) (u : Value) : Box (w.setCell p u) g t v := by
  unfold Box at h ⊢
  simp only [World.setCell, Array.getElem?_modify, if_neg hp]
  exact h
set_option maxRecDepth 8000 in
theorem own_ne {base size n : Nat} {e : TypeId} {x : Value} {cs : List Value} (h : w.ownsRow base e size x n cs) (hb : Box w g t v) (he : e ≠ t) : x.ownBlock ≠ some g := by
  rcases h.2 with ⟨rfl, _⟩ | ⟨g', cap, cur, rfl, _, hh, _⟩
  · simp [Value.ownBlock]
  · intro hx
    have hx' : g' = g := by simpa [Value.ownBlock] using hx
    subst hx'
    have hb' : w.heap[g']? = some (.cells #[v] t (0, 0)) := hb
    rw [hh] at hb'
    simp only [Option.some.injEq, Obj.cells.injEq] at hb'
    exact he hb'.2.1
set_option maxRecDepth 8000 in
theorem own_put {base size n : Nat} {e : TypeId} {x : Value} {cs : List Value} (h : w.ownsRow base e size x n cs) (hb : Box w g t v) (he : e ≠ t) (u : Value) : (w.setCell ⟨g, 0, none⟩ u).ownsRow base e size x n cs := by
  have hne := own_ne h hb he
  refine ⟨h.1, ?_⟩
  rcases h.2 with hn | ⟨g', cap, cur, rfl, hg, hh, rest⟩
  · exact .inl hn
  · refine .inr ⟨g', cap, cur, rfl, hg, ?_, rest⟩
    have : g ≠ g' := fun e => hne (by simp [Value.ownBlock, e])
    simp only [World.setCell, Array.getElem?_modify, if_neg this]
    exact hh
end
end Go.Proofs.Ytapnefhmonpgdaa

/-
  Sets of numbers below 64 as numbers below 2^64: plain mathematics, nothing of the program. Conditions: none.
-/
namespace Go.Proofs.Ytapnefhmonpgdaa
namespace MM
def els (s : Nat) : List Nat := (List.range 64).filter fun i => s.testBit i
def ofP (p : Nat → Bool) : Nat → Nat
  | 0 => 0
  | k + 1 => ofP p k + if p k then 2 ^ k else 0
set_option maxRecDepth 8000 in
theorem ofP_lt (p : Nat → Bool) : ∀ k, ofP p k < 2 ^ k
  | 0 => by simp [ofP]
  | k + 1 => by
    have := ofP_lt p k
    unfold ofP
    rw [Nat.pow_succ]
    split <;> omega
set_option maxRecDepth 8000 in
theorem ofP_bit (p : Nat → Bool) : ∀ k i, (ofP p k).testBit i = (decide (i < k) && p i)
  | 0, i => by simp [ofP]
  | k + 1, i => by
    have hl := ofP_lt p k
    have ih := ofP_bit p k
    unfold ofP
    by_cases hp : p k
    · have e : ofP p k + (if p k = true then 2 ^ k else 0) = 2 ^ k * 1 + ofP p k := by rw [if_pos hp]; omega
      rw [e, Nat.testBit_two_pow_mul_add _ hl]
      by_cases h : i < k
      · simp [h, ih, show i < k + 1 by omega]
      · rw [if_neg h]
        by_cases h2 : i = k
        · subst h2; simp [hp]
        · have : ¬ i < k + 1 := by omega
          have h3 : (1 : Nat).testBit (i - k) = false := by
            have : i - k ≠ 0 := by omega
            cases hh : i - k with
            | zero => omega
            | succ n => simp [Nat.testBit_succ]
          simp [this, h3]
    · simp only [Bool.not_eq_true] at hp
      simp only [hp, Bool.false_eq_true, if_false, Nat.add_zero]
      rw [ih]
      by_cases h2 : i = k
      · subst h2; simp [hp]
      · have : (i < k + 1) = (i < k) := by simp; omega
        simp [this]
set_option maxRecDepth 8000 in
theorem ext64 {a b : Nat} (ha : a < 2 ^ 64) (hb : b < 2 ^ 64) (h : ∀ i, i < 64 → a.testBit i = b.testBit i) : a = b := by
  apply Nat.eq_of_testBit_eq
  intro i
  by_cases hi : i < 64
  · exact h i hi
  · rw [Nat.testBit_lt_two_pow (Nat.lt_of_lt_of_le ha (Nat.pow_le_pow_right (by omega) (by omega))),
      Nat.testBit_lt_two_pow (Nat.lt_of_lt_of_le hb (Nat.pow_le_pow_right (by omega) (by omega)))]
set_option maxRecDepth 8000 in
theorem mem_els {s i : Nat} : i ∈ els s ↔ i < 64 ∧ s.testBit i = true := by simp [els]
set_option maxRecDepth 8000 in
theorem els_ofP (p : Nat → Bool) : els (ofP p 64) = (List.range 64).filter p := by
  unfold els
  apply List.filter_congr
  intro i hi
  simp at hi
  rw [ofP_bit]; simp [hi]
set_option maxRecDepth 8000 in
/-- halving -/
theorem half_bit (s i : Nat) : (s / 2 ^ i % 2 = 1) ↔ s.testBit i = true := by
  rw [Nat.testBit_eq_decide_div_mod_eq]; simp
set_option maxRecDepth 8000 in
theorem half_half (s i : Nat) : s / 2 ^ i / 2 = s / 2 ^ (i + 1) := by rw [Nat.div_div_eq_div_mul, Nat.pow_succ]
set_option maxRecDepth 8000 in
/-- lowest -/
theorem low_and (k m : Nat) : (2 ^ k * (2 * m + 1)) &&& (2 ^ k * (2 * m + 1) - 1) = 2 ^ k * (2 * m) := by
  have h1 : 2 ^ k * (2 * m + 1) = 2 ^ k * (2 * m + 1) + 0 := by omega
  have hp : 0 < 2 ^ k := Nat.two_pow_pos k
  have h2 : 2 ^ k * (2 * m + 1) - 1 = 2 ^ k * (2 * m) + (2 ^ k - 1) := by
    rw [Nat.mul_add]; omega
  apply Nat.eq_of_testBit_eq
  intro i
  rw [Nat.testBit_and, h2]
  rw [Nat.testBit_two_pow_mul_add (2 * m) (b := 2 ^ k - 1) (by omega)]
  rw [Nat.testBit_two_pow_mul, Nat.testBit_two_pow_mul]
  by_cases h : i < k
  · have : ¬ k ≤ i := by omega
    simp [this]
  · have h' : k ≤ i := by omega
    simp [h, h']
    cases hh : i - k with
    | zero => simp
    | succ n => simp [Nat.testBit_succ]; rw [show (2 * m + 1) / 2 = m by omega]; simp
set_option maxRecDepth 8000 in
theorem low_bit (k m i : Nat) : (2 ^ k * (2 * m)).testBit i = ((2 ^ k * (2 * m + 1)).testBit i && decide (i ≠ k)) := by
  rw [Nat.testBit_two_pow_mul, Nat.testBit_two_pow_mul]
  by_cases h : k ≤ i
  · simp [h]
    cases hh : i - k with
    | zero => have : i = k := by omega
              simp [this]
    | succ n => have : i ≠ k := by omega
                simp [Nat.testBit_succ, this]; rw [show (2 * m + 1) / 2 = m by omega]
  · simp [h]
set_option maxRecDepth 8000 in
theorem filter_range_split (p : Nat → Bool) (k n : Nat) (hk : k < n) (hlow : ∀ i, i < k → p i = false) (hp : p k = true) :
    (List.range n).filter p = k :: (List.range n).filter (fun i => p i && decide (i ≠ k)) := by
  have e : List.range n = List.range k ++ k :: List.range' (k + 1) (n - k - 1) := by
    rw [List.range_eq_range', List.range_eq_range', ← List.range'_succ (s := k) (n := n - k - 1) (step := 1)]
    have := List.range'_append_1 (s := 0) (m := k) (n := n - k - 1 + 1)
    rw [show k + (n - k - 1 + 1) = n by omega, show 0 + k = k by omega] at this
    exact this.symm
  have h1 : (List.range k).filter p = [] := by
    rw [List.filter_eq_nil_iff]; intro a ha; simp at ha; simp [hlow a ha]
  have h2 : (List.range k).filter (fun i => p i && decide (i ≠ k)) = [] := by
    rw [List.filter_eq_nil_iff]; intro a ha; simp at ha; simp [hlow a ha]
  rw [e, List.filter_append, List.filter_append, h1, h2, List.filter_cons_of_pos hp, List.filter_cons_of_neg (by simp)]
  simp only [List.nil_append]
  congr 1
  apply List.filter_congr
  intro a ha
  have : k + 1 ≤ a := by simp [List.mem_range'_1] at ha; omega
  simp [show a ≠ k by omega]
set_option maxRecDepth 8000 in
/-- the least element, and the rest -/
theorem els_low {k m : Nat} (_h : 2 ^ k * (2 * m + 1) < 2 ^ 64) (hk : k < 64) : els (2 ^ k * (2 * m + 1)) = k :: els (2 ^ k * (2 * m)) := by
  unfold els
  rw [filter_range_split _ k 64 hk]
  · congr 1
    apply List.filter_congr
    intro i _
    exact (low_bit k m i).symm
  · intro i hi
    rw [Nat.testBit_two_pow_mul]; simp; omega
  · rw [Nat.testBit_two_pow_mul]; simp
set_option maxRecDepth 8000 in
theorem els_zero : els 0 = [] := by simp [els]
set_option maxRecDepth 8000 in
theorem els_length (s : Nat) : (els s).length ≤ 64 := by
  have := List.length_filter_le (fun i => s.testBit i) (List.range 64)
  simpa [els] using this
/-- the first i rounds of the halving loop -/
def elsTo (s k : Nat) : List Nat := (List.range k).filter fun i => s.testBit i
set_option maxRecDepth 8000 in
theorem elsTo_succ (s k : Nat) : elsTo s (k + 1) = elsTo s k ++ if s.testBit k then [k] else [] := by
  unfold elsTo
  rw [List.range_succ, List.filter_append]
  congr 1
  by_cases h : s.testBit k <;> simp [h]
set_option maxRecDepth 8000 in
theorem elsTo_64 (s : Nat) : elsTo s 64 = els s := rfl
set_option maxRecDepth 8000 in
theorem elsTo_length (s k : Nat) : (elsTo s k).length ≤ k := by
  have := List.length_filter_le (fun i => s.testBit i) (List.range k)
  simpa [elsTo] using this
set_option maxRecDepth 8000 in
/-- strictly ascending -/
theorem els_getD_lt (s k : Nat) : (els s).getD k 0 < 64 := by
  rw [List.getD_eq_getElem?_getD]
  cases h : (els s)[k]? with
  | none => simp
  | some a => have := List.mem_of_getElem? h; simp [mem_els] at this; simp; omega
set_option maxRecDepth 8000 in
/-- counts -/
theorem count_or_and (p q : Nat → Bool) (l : List Nat) :
    (l.filter p).length + (l.filter q).length = (l.filter fun i => p i || q i).length + (l.filter fun i => p i && q i).length := by
  induction l with
  | nil => rfl
  | cons a l ih =>
    by_cases hp : p a <;> by_cases hq : q a <;> simp [hp, hq] <;> omega
set_option maxRecDepth 8000 in
theorem els_or (a b : Nat) : els (a ||| b) = (List.range 64).filter (fun i => a.testBit i || b.testBit i) := by
  unfold els; simp only [Nat.testBit_or]
set_option maxRecDepth 8000 in
theorem els_and (a b : Nat) : els (a &&& b) = (List.range 64).filter (fun i => a.testBit i && b.testBit i) := by
  unfold els; simp only [Nat.testBit_and]
set_option maxRecDepth 8000 in
theorem els_count (a b : Nat) : (els a).length + (els b).length = (els (a ||| b)).length + (els (a &&& b)).length := by
  rw [els_or, els_and]; exact count_or_and _ _ _
set_option maxRecDepth 8000 in
theorem els_single {i : Nat} (hi : i < 64) : els (2 ^ i) = [i] := by
  have := els_low (k := i) (m := 0) (by simpa using Nat.pow_lt_pow_right (a := 2) (by omega) hi) hi
  simpa [els_zero] using this
set_option maxRecDepth 8000 in
/-- a number of 64 bits is the set of its elements -/
theorem ofP_els {s : Nat} (hs : s < 2 ^ 64) : ofP (fun i => s.testBit i) 64 = s :=
  ext64 (ofP_lt _ _) hs fun i hi => by rw [ofP_bit]; simp [hi]
def pc : Nat → Nat → Nat
  | 0, _ => 0
  | k + 1, x => x % 2 + pc k (x / 2)
set_option maxRecDepth 8000 in
theorem pc_range (n x : Nat) : ((List.range n).filter fun i => x.testBit i).length = pc n x := by
  induction n generalizing x with
  | zero => rfl
  | succ n ih =>
    rw [List.range_succ_eq_map]
    have h0 : x.testBit 0 = decide (x % 2 = 1) := by simp [Nat.testBit_zero]
    have hs : ((List.map Nat.succ (List.range n)).filter fun i => x.testBit i).length = pc n (x / 2) := by
      rw [List.filter_map, List.length_map, ← ih]
      congr 1
      exact List.filter_congr fun i _ => by simp [Nat.testBit_succ]
    unfold pc
    by_cases h : x % 2 = 1
    · rw [List.filter_cons_of_pos (by rw [h0]; simpa using h), List.length_cons, hs]; omega
    · rw [List.filter_cons_of_neg (by rw [h0]; simpa using h), hs]; omega
set_option maxRecDepth 8000 in
theorem els_pc (x : Nat) : (els x).length = pc 64 x := pc_range 64 x
def ds (B : Nat) : Nat → Nat → Nat
  | 0, _ => 0
  | k + 1, y => y % B + ds B k (y / B)
def dig (B b : Nat) : Nat → Nat → Prop
  | 0, y => y = 0
  | k + 1, y => y % B ≤ b ∧ dig B b k (y / B)
set_option maxRecDepth 8000 in
theorem and_split (w a c d : Nat) (hd : d < 2 ^ w) : a &&& (2 ^ w * c + d) = 2 ^ w * ((a / 2 ^ w) &&& c) + ((a % 2 ^ w) &&& d) := by
  have hb : (a % 2 ^ w) &&& d < 2 ^ w := Nat.lt_of_le_of_lt Nat.and_le_right hd
  apply Nat.eq_of_testBit_eq
  intro i
  rw [Nat.testBit_and, Nat.testBit_two_pow_mul_add c hd, Nat.testBit_two_pow_mul_add _ hb]
  by_cases h : i < w
  · simp [h, Nat.testBit_and, Nat.testBit_mod_two_pow]
  · simp [h, Nat.testBit_and, Nat.testBit_div_two_pow]
    rw [show i - w + w = i by omega]
def mk (B d : Nat) : Nat → Nat
  | 0 => 0
  | k + 1 => B * mk B d k + d
set_option maxRecDepth 8000 in
theorem stepA : ∀ k x, dig 4 2 k ((x / 2 &&& mk 4 1 k) + (x &&& mk 4 1 k)) ∧ ds 4 k ((x / 2 &&& mk 4 1 k) + (x &&& mk 4 1 k)) = pc (2 * k) x
  | 0, x => by simp [mk, dig, ds, pc]
  | k + 1, x => by
    have ih := stepA k (x / 4)
    have e : (x / 2 &&& mk 4 1 (k + 1)) + (x &&& mk 4 1 (k + 1)) = 4 * ((x / 4 / 2 &&& mk 4 1 k) + (x / 4 &&& mk 4 1 k)) + (x / 2 % 2 + x % 2) := by
      have h1 := and_split 2 (x / 2) (mk 4 1 k) 1 (by omega)
      have h2 := and_split 2 x (mk 4 1 k) 1 (by omega)
      simp only [show (2 : Nat) ^ 2 = 4 from rfl, Nat.and_one_is_mod] at h1 h2
      rw [show mk 4 1 (k + 1) = 4 * mk 4 1 k + 1 from rfl, h1, h2, show x / 2 / 4 = x / 4 / 2 by omega]
      omega
    rw [e]
    unfold dig ds
    rw [show (4 * ((x / 4 / 2 &&& mk 4 1 k) + (x / 4 &&& mk 4 1 k)) + (x / 2 % 2 + x % 2)) % 4 = x / 2 % 2 + x % 2 by omega,
      show (4 * ((x / 4 / 2 &&& mk 4 1 k) + (x / 4 &&& mk 4 1 k)) + (x / 2 % 2 + x % 2)) / 4 = (x / 4 / 2 &&& mk 4 1 k) + (x / 4 &&& mk 4 1 k) by omega]
    refine ⟨⟨by omega, ih.1⟩, ?_⟩
    rw [ih.2, show 2 * (k + 1) = 2 * k + 1 + 1 by omega]
    simp only [pc]
    rw [show x / 2 / 2 = x / 4 by omega]
    omega
set_option maxRecDepth 8000 in
theorem stepB : ∀ k y, dig 4 2 (2 * k) y → dig 16 4 k ((y / 4 &&& mk 16 3 k) + (y &&& mk 16 3 k)) ∧ ds 16 k ((y / 4 &&& mk 16 3 k) + (y &&& mk 16 3 k)) = ds 4 (2 * k) y
  | 0, y, _ => by simp [mk, dig, ds]
  | k + 1, y, h => by
    rw [show 2 * (k + 1) = 2 * k + 1 + 1 by omega] at h ⊢
    simp only [dig] at h
    obtain ⟨h0, h1, h2⟩ := h
    rw [show y / 4 / 4 = y / 16 by omega] at h2
    have ih := stepB k (y / 16) h2
    have e : (y / 4 &&& mk 16 3 (k + 1)) + (y &&& mk 16 3 (k + 1)) = 16 * ((y / 16 / 4 &&& mk 16 3 k) + (y / 16 &&& mk 16 3 k)) + (y / 4 % 4 + y % 4) := by
      have g1 := and_split 4 (y / 4) (mk 16 3 k) 3 (by omega)
      have g2 := and_split 4 y (mk 16 3 k) 3 (by omega)
      have m4 : ∀ a, a &&& 3 = a % 4 := fun a => Nat.and_two_pow_sub_one_eq_mod a 2
      simp only [show (2 : Nat) ^ 4 = 16 from rfl, m4] at g1 g2
      rw [show mk 16 3 (k + 1) = 16 * mk 16 3 k + 3 from rfl, g1, g2, show y / 4 / 16 = y / 16 / 4 by omega]
      omega
    rw [e]
    unfold dig ds
    rw [show (16 * ((y / 16 / 4 &&& mk 16 3 k) + (y / 16 &&& mk 16 3 k)) + (y / 4 % 4 + y % 4)) % 16 = y / 4 % 4 + y % 4 by omega,
      show (16 * ((y / 16 / 4 &&& mk 16 3 k) + (y / 16 &&& mk 16 3 k)) + (y / 4 % 4 + y % 4)) / 16 = (y / 16 / 4 &&& mk 16 3 k) + (y / 16 &&& mk 16 3 k) by omega]
    refine ⟨⟨by omega, ih.1⟩, ?_⟩
    rw [ih.2]
    simp only [ds]
    rw [show y / 4 / 4 = y / 16 by omega]
    omega
set_option maxRecDepth 8000 in
theorem stepC : ∀ k y, dig 16 4 (2 * k) y → dig 256 8 k ((y / 16 + y) &&& mk 256 15 k) ∧ ds 256 k ((y / 16 + y) &&& mk 256 15 k) = ds 16 (2 * k) y
  | 0, y, _ => by simp [mk, dig, ds]
  | k + 1, y, h => by
    rw [show 2 * (k + 1) = 2 * k + 1 + 1 by omega] at h ⊢
    simp only [dig] at h
    obtain ⟨h0, h1, h2⟩ := h
    rw [show y / 16 / 16 = y / 256 by omega] at h2
    have ih := stepC k (y / 256) h2
    have hq : y / 256 % 16 ≤ 4 := by
      cases k with
      | zero => simp [dig] at h2; omega
      | succ k => rw [show 2 * (k + 1) = 2 * k + 1 + 1 by omega] at h2; exact h2.1
    have e : (y / 16 + y) &&& mk 256 15 (k + 1) = 256 * ((y / 256 / 16 + y / 256) &&& mk 256 15 k) + (y / 16 % 16 + y % 16) := by
      have g1 := and_split 8 (y / 16 + y) (mk 256 15 k) 15 (by omega)
      have m4 : ∀ a, a &&& 15 = a % 16 := fun a => Nat.and_two_pow_sub_one_eq_mod a 4
      simp only [show (2 : Nat) ^ 8 = 256 from rfl, m4] at g1
      have f1 : (y / 16 + y) / 256 = y / 256 / 16 + y / 256 ∧ (y / 16 + y) % 256 % 16 = y / 16 % 16 + y % 16 := by
        have e1 := Nat.div_add_mod y 16
        have e2 := Nat.div_add_mod (y / 16) 16
        have e3 := Nat.div_add_mod (y / 16 / 16) 16
        rw [show y / 16 / 16 = y / 256 by omega] at e2 e3
        generalize y / 256 / 16 = q at *
        generalize y / 256 % 16 = r2 at *
        generalize y / 256 = p at *
        generalize y / 16 % 16 = r1 at *
        generalize y / 16 = s at *
        generalize y % 16 = r0 at *
        subst e3; subst e2; subst e1
        have e : 16 * (16 * q + r2) + r1 + (16 * (16 * (16 * q + r2) + r1) + r0) = 256 * (q + (16 * q + r2)) + (16 * (r2 + r1) + (r1 + r0)) := by omega
        rw [e]
        omega
      rw [show mk 256 15 (k + 1) = 256 * mk 256 15 k + 15 from rfl, g1, f1.1, f1.2]
    rw [e]
    unfold dig ds
    rw [show (256 * ((y / 256 / 16 + y / 256) &&& mk 256 15 k) + (y / 16 % 16 + y % 16)) % 256 = y / 16 % 16 + y % 16 by omega,
      show (256 * ((y / 256 / 16 + y / 256) &&& mk 256 15 k) + (y / 16 % 16 + y % 16)) / 256 = (y / 256 / 16 + y / 256) &&& mk 256 15 k by omega]
    refine ⟨⟨by omega, ih.1⟩, ?_⟩
    rw [ih.2]
    simp only [ds]
    rw [show y / 16 / 16 = y / 256 by omega]
    omega
set_option maxRecDepth 8000 in
theorem stepD (y : Nat) (h : dig 256 8 8 y) : y ≤ 8 * 72340172838076673 ∧
    (let y1 := y + y / 256; let y2 := y1 + y1 / 65536; (y2 + y2 / 4294967296) % 128 = ds 256 8 y) := by
  simp only [dig] at h
  simp only [ds]
  obtain ⟨h0, h1, h2, h3, h4, h5, h6, h7, h8⟩ := h
  generalize e1 : y / 256 = y1 at *
  generalize e2 : y1 / 256 = y2 at *
  generalize e3 : y2 / 256 = y3 at *
  generalize e4 : y3 / 256 = y4 at *
  generalize e5 : y4 / 256 = y5 at *
  generalize e6 : y5 / 256 = y6 at *
  generalize e7 : y6 / 256 = y7 at *
  refine ⟨by omega, ?_⟩
  generalize f0 : y % 256 = d0 at *
  generalize f1 : y1 % 256 = d1 at *
  generalize f2 : y2 % 256 = d2 at *
  generalize f3 : y3 % 256 = d3 at *
  generalize f4 : y4 % 256 = d4 at *
  generalize f5 : y5 % 256 = d5 at *
  generalize f6 : y6 % 256 = d6 at *
  generalize f7 : y7 % 256 = d7 at *
  have g7 : y7 = d7 := by omega
  have g6 : y6 = d6 + 256 * d7 := by omega
  have g5 : y5 = d5 + 256 * d6 + 65536 * d7 := by omega
  have g4 : y4 = d4 + 256 * d5 + 65536 * d6 + 16777216 * d7 := by omega
  have g3 : y3 = d3 + 256 * y4 := by omega
  have g2 : y2 = d2 + 256 * y3 := by omega
  have g1 : y1 = d1 + 256 * y2 := by omega
  have g0 : y = d0 + 256 * y1 := by omega
  clear e1 e2 e3 e4 e5 e6 e7 f0 f1 f2 f3 f4 f5 f6 f7
  have k1 : y + y1 = (d0 + d1) + 256 * (y1 + y2) := by omega
  have k2 : (y + y1) / 65536 = (y2 + y3) := by omega
  rw [k2]
  have k3 : (y + y1 + (y2 + y3)) / 4294967296 = y4 + y5 + (y6 + y7) := by omega
  rw [k3]
  omega
set_option maxRecDepth 8000 in
theorem dig_le (B b : Nat) (hB : 1 ≤ B) (hb : b < B) : ∀ k y, dig B b k y → y * (B - 1) + b ≤ b * B ^ k
  | 0, y, h => by simp [dig] at h; subst h; simp
  | k + 1, y, h => by
    simp only [dig] at h
    have ih := dig_le B b hB hb k _ h.2
    have e := Nat.div_add_mod y B
    have h1 := h.1
    generalize y / B = q at *
    generalize y % B = r at *
    subst e
    rw [Nat.pow_succ]
    have h3 : (q * (B - 1) + b) * B ≤ b * B ^ k * B := Nat.mul_le_mul_right B ih
    have h4 : r * (B - 1) ≤ b * (B - 1) := Nat.mul_le_mul_right _ h1
    have h5 : b * (B - 1) + b = b * B := by
      rw [← Nat.mul_succ]; congr 1; omega
    calc (B * q + r) * (B - 1) + b = (q * (B - 1)) * B + (r * (B - 1) + b) := by
            rw [Nat.add_mul, Nat.mul_comm B q, Nat.mul_assoc, Nat.mul_comm B, ← Nat.mul_assoc, Nat.add_assoc]
      _ ≤ (q * (B - 1)) * B + b * B := by omega
      _ = (q * (B - 1) + b) * B := by rw [Nat.add_mul]
      _ ≤ b * B ^ k * B := h3
      _ = b * (B ^ k * B) := by rw [Nat.mul_assoc]
set_option maxRecDepth 8000 in
/-- the count of set bits, as the library reckons it -/
theorem swar (x : Nat) :
    let y1 := (x / 2 &&& 6148914691236517205) + (x &&& 6148914691236517205)
    let y2 := (y1 / 4 &&& 3689348814741910323) + (y1 &&& 3689348814741910323)
    let y3 := (y2 / 16 + y2) &&& 1085102592571150095
    let y4 := y3 + y3 / 256
    let y5 := y4 + y4 / 65536
    y1 < 18446744073709551616 ∧ y2 < 18446744073709551616 ∧ y2 / 16 + y2 < 18446744073709551616 ∧ y3 < 18446744073709551616 ∧ y4 < 18446744073709551616 ∧ y5 < 18446744073709551616 ∧ y5 + y5 / 4294967296 < 9223372036854775808 ∧ (y5 + y5 / 4294967296) % 128 = (els x).length := by
  have a := stepA 32 x
  have m1 : mk 4 1 32 = 6148914691236517205 := by decide
  have m2 : mk 16 3 16 = 3689348814741910323 := by decide
  have m3 : mk 256 15 8 = 1085102592571150095 := by decide
  rw [m1] at a
  intro y1 y2 y3 y4 y5
  have l1 := dig_le 4 2 (by omega) (by omega) 32 y1 a.1
  have b := stepB 16 y1 a.1
  rw [m2] at b
  have l2 := dig_le 16 4 (by omega) (by omega) 16 y2 b.1
  have c := stepC 8 y2 b.1
  rw [m3] at c
  have d := stepD y3 c.1
  have l3 := d.1
  have l4 : y4 = y3 + y3 / 256 := rfl
  have l5 : y5 = y4 + y4 / 65536 := rfl
  refine ⟨by omega, by omega, by omega, by omega, by omega, by omega, by omega, ?_⟩
  have d2 := d.2
  simp only at d2
  rw [els_pc, ← a.2]
  exact d2.trans (c.2.trans b.2)
set_option maxRecDepth 8000 in
theorem swar' (x : Nat) : ∃ y1 y2 y3 y4 y5 : Nat, y1 = (x / 2 &&& 6148914691236517205) + (x &&& 6148914691236517205) ∧ y2 = (y1 / 4 &&& 3689348814741910323) + (y1 &&& 3689348814741910323) ∧
    y3 = (y2 / 16 + y2) &&& 1085102592571150095 ∧ y4 = y3 + y3 / 256 ∧ y5 = y4 + y4 / 65536 ∧
    y1 < 18446744073709551616 ∧ y2 < 18446744073709551616 ∧ y2 / 16 + y2 < 18446744073709551616 ∧ y3 < 18446744073709551616 ∧ y4 < 18446744073709551616 ∧ y5 < 18446744073709551616 ∧ y5 + y5 / 4294967296 < 9223372036854775808 ∧ (y5 + y5 / 4294967296) % 128 = (els x).length :=
  ⟨_, _, _, _, _, rfl, rfl, rfl, rfl, rfl, swar x⟩
/-- the set of one number, or none -/
def sg (i : Int) : Nat := if 0 ≤ i ∧ i < 64 then 2 ^ i.toNat else 0
set_option maxRecDepth 8000 in
theorem sg_lt (i : Int) : sg i < 2 ^ 64 := by
  unfold sg
  split
  · rename_i h; exact Nat.pow_lt_pow_right (by omega) (by omega)
  · omega
set_option maxRecDepth 8000 in
theorem sg_bit (i : Int) (k : Nat) : (sg i).testBit k = decide (i = (k : Int) ∧ k < 64) := by
  unfold sg
  split
  · rename_i h
    rw [Nat.testBit_two_pow]
    simp only [decide_eq_decide]
    omega
  · rename_i h
    simp only [Nat.zero_testBit]
    symm
    simp only [decide_eq_false_iff_not]
    omega
def hasN (s : Nat) (i : Int) : Bool := decide (0 ≤ i ∧ i < 64) && s.testBit i.toNat
set_option maxRecDepth 8000 in
theorem hasN_out (s : Nat) (i : Int) (h : i < 0 ∨ 64 ≤ i) : hasN s i = false := by
  unfold hasN
  simp only [Bool.and_eq_false_iff, decide_eq_false_iff_not]
  left; omega
set_option maxRecDepth 8000 in
theorem hasN_in (s i : Nat) (h : i < 64) : hasN s i = s.testBit i := by
  unfold hasN
  have : decide ((0 : Int) ≤ (i : Int) ∧ (i : Int) < 64) = true := by simp only [decide_eq_true_eq]; omega
  rw [this]; simp
set_option maxRecDepth 8000 in
theorem and_sg (s : Nat) (i : Int) : ((((s &&& sg i : Nat) : Int) != 0)) = hasN s i := by
  have key : (s &&& sg i ≠ 0) ↔ hasN s i = true := by
    unfold hasN
    constructor
    · intro h
      obtain ⟨k, hk⟩ := Nat.exists_testBit_of_ne_zero h
      rw [Nat.testBit_and, sg_bit] at hk
      simp only [Bool.and_eq_true, decide_eq_true_eq] at hk ⊢
      obtain ⟨h1, h2, h3⟩ := hk
      subst h2
      exact ⟨by omega, by simpa using h1⟩
    · intro h h0
      simp only [Bool.and_eq_true, decide_eq_true_eq] at h
      have : (s &&& sg i).testBit i.toNat = true := by
        rw [Nat.testBit_and, sg_bit, h.2]
        simp only [Bool.true_and, decide_eq_true_eq]
        omega
      rw [h0] at this
      simp at this
  cases hb : hasN s i with
  | true => rw [hb] at key; simp only [bne_iff_ne]; have := key.2 rfl; omega
  | false => rw [hb] at key; simp only [bne_eq_false_iff_eq]; have : s &&& sg i = 0 := Decidable.byContradiction fun h => by simpa using key.1 h
             omega
def withN (s : Nat) (i : Int) : Nat := s ||| sg i
set_option maxRecDepth 8000 in
theorem withN_lt {s : Nat} (hs : s < 2 ^ 64) (i : Int) : withN s i < 2 ^ 64 := Nat.or_lt_two_pow hs (sg_lt i)
set_option maxRecDepth 8000 in
theorem withN_bit (s : Nat) (i : Int) (k : Nat) : (withN s i).testBit k = (s.testBit k || decide (i = (k : Int) ∧ k < 64)) := by
  unfold withN; rw [Nat.testBit_or, sg_bit]
def lessN (s : Nat) (i : Int) : Nat := s &&& (18446744073709551615 - sg i)
set_option maxRecDepth 8000 in
theorem lessN_lt {s : Nat} (hs : s < 2 ^ 64) (i : Int) : lessN s i < 2 ^ 64 := Nat.lt_of_le_of_lt Nat.and_le_left hs
set_option maxRecDepth 8000 in
theorem not_bit (s k : Nat) (hs : s < 2 ^ 64) : (18446744073709551615 - s).testBit k = (decide (k < 64) && !s.testBit k) := by
  have := Nat.testBit_two_pow_sub_succ hs k
  rw [show 2 ^ 64 - (s + 1) = 18446744073709551615 - s by omega] at this
  exact this
set_option maxRecDepth 8000 in
theorem lessN_bit (s : Nat) (i : Int) (k : Nat) : (lessN s i).testBit k = (s.testBit k && (decide (k < 64) && !decide (i = (k : Int) ∧ k < 64))) := by
  unfold lessN; rw [Nat.testBit_and, not_bit _ _ (sg_lt i), sg_bit]
def subN (a b : Nat) : Bool := (els a).all fun i => b.testBit i
set_option maxRecDepth 8000 in
theorem sub_eq (a b : Nat) (hb : b < 2 ^ 64) : ((((a &&& (18446744073709551615 - b) : Nat) : Int) == 0)) = subN a b := by
  have key : (a &&& (18446744073709551615 - b) = 0) ↔ subN a b = true := by
    unfold subN
    rw [List.all_eq_true]
    constructor
    · intro h i hi
      rw [mem_els] at hi
      have : (a &&& (18446744073709551615 - b)).testBit i = false := by rw [h]; simp
      rw [Nat.testBit_and, not_bit _ _ hb, hi.2] at this
      simpa [hi.1] using this
    · intro h
      apply Nat.eq_of_testBit_eq
      intro i
      rw [Nat.testBit_and, not_bit _ _ hb]
      simp only [Nat.zero_testBit]
      by_cases h64 : i < 64
      · cases ht : a.testBit i with
        | false => simp
        | true => simp [h i (mem_els.2 ⟨h64, ht⟩)]
      · simp [h64]
  cases hs : subN a b with
  | true => rw [hs] at key; simp only [beq_iff_eq]; have := key.2 rfl; omega
  | false => rw [hs] at key; simp only [beq_eq_false_iff_ne]; intro h; have : a &&& (18446744073709551615 - b) = 0 := by omega
             simpa using key.1 this
/-- the numbers below n -/
def belowN (n : Int) : Nat := ofP (fun i => decide ((i : Int) < n)) 64
set_option maxRecDepth 8000 in
theorem pow_sub_bit (k i : Nat) : (2 ^ k - 1).testBit i = decide (i < k) := Nat.testBit_two_pow_sub_one k i
set_option maxRecDepth 8000 in
theorem belowN_in (n : Int) (h0 : 1 ≤ n) (h1 : n < 64) : ((belowN n : Nat) : Int) = ((2 ^ n.toNat : Nat) : Int) - 1 := by
  have hp : 2 ^ n.toNat < 2 ^ 64 := Nat.pow_lt_pow_right (by omega) (by omega)
  have hp0 : 0 < 2 ^ n.toNat := Nat.two_pow_pos _
  have : belowN n = 2 ^ n.toNat - 1 := by
    unfold belowN
    refine ext64 (ofP_lt _ _) (by omega) fun i hi => ?_
    rw [ofP_bit, pow_sub_bit]
    simp only [hi, decide_true, Bool.true_and, decide_eq_decide]
    omega
  omega
set_option maxRecDepth 8000 in
theorem belowN_none (n : Int) (h : n < 1) : belowN n = 0 := by
  unfold belowN
  refine ext64 (ofP_lt _ _) (by omega) fun i hi => ?_
  rw [ofP_bit]
  simp only [hi, Nat.zero_testBit, decide_true, Bool.true_and, decide_eq_false_iff_not]
  omega
set_option maxRecDepth 8000 in
theorem belowN_all (n : Int) (h : 64 ≤ n) : belowN n = 18446744073709551615 := by
  unfold belowN
  refine ext64 (ofP_lt _ _) (by omega) fun i hi => ?_
  rw [ofP_bit, show (18446744073709551615 : Nat) = 2 ^ 64 - 1 from rfl, pow_sub_bit]
  simp only [hi, decide_true, Bool.true_and, decide_eq_true_eq]
  omega
/-- the set of a list -/
def ofN (l : List Int) : Nat := ofP (fun i => l.contains (i : Int)) 64
set_option maxRecDepth 8000 in
theorem ofN_bit (l : List Int) (i : Nat) : (ofN l).testBit i = (decide (i < 64) && l.contains (i : Int)) := ofP_bit _ _ _
set_option maxRecDepth 8000 in
theorem ofN_lt (l : List Int) : ofN l < 2 ^ 64 := ofP_lt _ _
set_option maxRecDepth 8000 in
theorem ofN_nil : ofN [] = 0 := by
  refine ext64 (ofN_lt _) (by omega) fun i hi => ?_
  rw [ofN_bit]; simp
set_option maxRecDepth 8000 in
theorem ofN_snoc (l : List Int) (i : Int) : ofN (l ++ [i]) = withN (ofN l) i := by
  refine ext64 (ofN_lt _) (withN_lt (ofN_lt _) _) fun k hk => ?_
  rw [ofN_bit, withN_bit, ofN_bit]
  simp only [List.contains_eq_any_beq, List.any_append, List.any_cons, List.any_nil, Bool.or_false, hk, decide_true, Bool.true_and, and_true]
  congr 1
  rw [Bool.eq_iff_iff]; simp only [beq_iff_eq, decide_eq_true_eq]; omega
set_option maxRecDepth 8000 in
theorem ofN_els {s : Nat} (hs : s < 2 ^ 64) : ofN ((els s).map Int.ofNat) = s := by
  refine ext64 (ofN_lt _) hs fun i hi => ?_
  rw [ofN_bit, Bool.eq_iff_iff]
  simp only [hi, decide_true, Bool.true_and, List.contains_iff_mem, List.mem_map, Int.ofNat_eq_natCast, Int.natCast_inj, exists_eq_right, mem_els, true_and]
set_option maxRecDepth 8000 in
theorem withN_els {s : Nat} (hs : s < 2 ^ 64) (i : Int) : ofN ((els s).map Int.ofNat ++ [i]) = withN s i := by rw [ofN_snoc, ofN_els hs]
set_option maxRecDepth 8000 in
/-- the count of one more -/
theorem withN_count (s : Nat) (i : Int) : (els (withN s i)).length = (els s).length + if withN s i = s then 0 else 1 := by
  have h := els_count s (sg i)
  have hd : els (s ||| sg i) = els (withN s i) := rfl
  rw [hd] at h
  by_cases hi : 0 ≤ i ∧ i < 64
  · have e1 : sg i = 2 ^ i.toNat := by unfold sg; rw [if_pos hi]
    have e2 : els (sg i) = [i.toNat] := by rw [e1]; exact els_single (by omega)
    rw [e2] at h
    by_cases hb : s.testBit i.toNat = true
    · have e3 : withN s i = s := by
        apply Nat.eq_of_testBit_eq
        intro k
        rw [withN_bit]
        by_cases hk : i = (k : Int) ∧ k < 64
        · have : k = i.toNat := by omega
          subst this; simp [hb]
        · simp [hk]
      rw [e3]; simp
    · have e4 : els (s &&& sg i) = [] := by
        rw [els_and, List.filter_eq_nil_iff]
        intro a _
        rw [sg_bit]
        simp only [Bool.and_eq_true, decide_eq_true_eq, not_and]
        intro h1 h2
        have : a = i.toNat := by omega
        subst this; simp [hb] at h1
      have e5 : withN s i ≠ s := by
        intro h1
        have := withN_bit s i i.toNat
        rw [h1] at this
        simp only [hb, Bool.false_or] at this
        simp at this
        omega
      rw [e4] at h
      rw [if_neg e5]
      simpa using h.symm
  · have e1 : sg i = 0 := by unfold sg; rw [if_neg hi]
    have e2 : withN s i = s := by unfold withN; rw [e1]; simp
    rw [e2]; simp
set_option maxRecDepth 8000 in
/-- the least element and the rest, of a set that is not empty -/
theorem low_form {s : Nat} (hs : s < 2 ^ 64) (h0 : s ≠ 0) (k : Nat) (hk : k < 64) (hm : ∃ m, s = 2 ^ k * (2 * m + 1)) :
    els s = k :: els (s &&& (s - 1)) ∧ (s &&& (s - 1)) < 2 ^ 64 := by
  obtain ⟨m, rfl⟩ := hm
  rw [low_and]
  exact ⟨els_low hs hk, by have : 2 ^ k * (2 * m) ≤ 2 ^ k * (2 * m + 1) := Nat.mul_le_mul_left _ (by omega)
                           omega⟩
end MM
end Go.Proofs.Ytapnefhmonpgdaa

/-
  What the small functions of package mask return, call by call. Conditions: the table of math/bits in memory, where a set is not empty and its least element is asked for.
-/
namespace Go.Proofs.Ytapnefhmonpgdaa
open Go.RowKit

set_option maxRecDepth 8000 in
theorem and127 (y : Nat) (h : y < 9223372036854775808) : bits BinOp.and IntKind.i64 (wrap64 ((y : Nat) : Int)) 127 = ((y % 128 : Nat) : Int) := by
  have e : wrap64 ((y : Nat) : Int) = ((y : Nat) : Int) := IntWalk.wrap64_in _ ⟨by omega, by omega⟩
  have h1 : (BitVec.ofInt 64 ((y : Nat) : Int)).toNat = y := by rw [BitVec.ofInt_natCast, BitVec.toNat_ofNat]; exact Nat.mod_eq_of_lt (by omega)
  have h2 : (BitVec.ofInt 64 127).toNat = 127 := by decide
  rw [e]
  show IntKind.i64.wrap ((BitVec.ofInt 64 ((y : Nat) : Int) &&& BitVec.ofInt 64 127).toNat : Int) = _
  rw [BitVec.toNat_and, h1, h2, show (127 : Nat) = 2 ^ 7 - 1 from rfl, Nat.and_two_pow_sub_one_eq_mod, IntWalk.i64_in _ ⟨by omega, by omega⟩]
set_option maxRecDepth 8000 in
theorem and_c (x c : Nat) (hx : x < 18446744073709551616) (hc : c < 18446744073709551616) : bits BinOp.and IntKind.u64 ((x : Nat) : Int) ((c : Nat) : Int) = ((x &&& c : Nat) : Int) := u64_and_nat x c hx hc
set_option maxRecDepth 8000 in
theorem wrap_n (x : Nat) (hx : x < 18446744073709551616) : IntKind.u64.wrap ((x : Nat) : Int) = ((x : Nat) : Int) := by rw [IntKind.wrap_u64]; omega
set_option maxRecDepth 8000 in
/-- The least element of a set that is not empty, and the rest. -/
theorem low_ex (x : Nat) (hx : x < 18446744073709551616) (hx0 : x ≠ 0) :
    ∃ k, k < 64 ∧ Lib.ctz 64 x = k ∧ MM.els x = k :: MM.els (x &&& (x - 1)) ∧ (x &&& (x - 1)) < 18446744073709551616 := by
  obtain ⟨m, h1, h2⟩ := Lib.ctzFrom_spec 64 x (by omega) hx
  exact ⟨_, h2, by unfold Lib.ctz; rw [if_neg hx0], MM.low_form hx hx0 _ h2 ⟨m, h1⟩⟩
end Go.Proofs.Ytapnefhmonpgdaa

/-
  What the functions of package mask and of its reference return that loop without making memory. Conditions: the table of math/bits in memory, where the least element is asked for; slices that read as lists.
-/
namespace Go.Proofs.Ytapnefhmonpgdaa
open Go.RowKit

set_option maxRecDepth 8000 in
/-- The halving loop's step. -/
theorem halves (s k q : Nat) (h : q = s / 2 ^ k) : q / 2 = s / 2 ^ (k + 1) := by rw [h, MM.half_half]
set_option maxRecDepth 8000 in
theorem half_lt (s k : Nat) (hs : s < 18446744073709551616) : s / 2 ^ k < 18446744073709551616 := Nat.lt_of_le_of_lt (Nat.div_le_self _ _) hs

/-- A slice of ints in memory. -/
def Ints (w : World) (A : Option Addr) (xs : List Int) : Prop := Sl w w.heap.size A (xs.map (Value.int .i64))
set_option maxRecDepth 8000 in
theorem Ints.below {w w' : World} {A : Option Addr} {xs : List Int} (h : Ints w A xs) (hb : Below w.heap.size w w') : Ints w' A xs := (Sl.below h hb).mono hb.size
set_option maxRecDepth 8000 in
theorem Ints.cell {w : World} {A : Option Addr} {xs : List Int} (h : Ints w A xs) (hne : xs ≠ []) : ∃ b o, A = some ⟨b, o, none⟩ ∧ ∀ j, j < xs.length → w.cell? ⟨b, o + j, none⟩ = some (.int .i64 (xs.getD j 0)) := by
  obtain ⟨b, o, hA, _, hc⟩ := Sl.at_ h (by simpa using hne)
  exact ⟨b, o, hA, fun j hj => hc j _ (by rw [List.getElem?_map, List.getElem?_eq_getElem hj, List.getD_eq_getElem?_getD, List.getElem?_eq_getElem hj]; rfl)⟩

set_option maxRecDepth 8000 in
theorem take_snoc (xs : List Int) (k : Nat) (h : k < xs.length) : xs.take (k + 1) = xs.take k ++ [xs.getD k 0] := by
  rw [List.take_succ_eq_append_getElem h, List.getD_eq_getElem?_getD, List.getElem?_eq_getElem h]; rfl

end Go.Proofs.Ytapnefhmonpgdaa

/-
  What the reference's functions of layer 1 return. Conditions: slices that read as lists.
-/
namespace Go.Proofs.Ytapnefhmonpgdaa
open Go.RowKit

set_option maxRecDepth 8000 in
theorem ofP_succ_in (p : Nat → Bool) (k q o : Nat) (hk : k < 64) (hq : q = MM.ofP p k) (ho : o = 2 ^ k % 18446744073709551616) (h : p k = true) : q + o = MM.ofP p (k + 1) ∧ q + o < 18446744073709551616 := by
  have h1 : 2 ^ k < 2 ^ 64 := Nat.pow_lt_pow_right (by omega) (by omega)
  have h2 : o = 2 ^ k := by rw [ho]; exact Nat.mod_eq_of_lt h1
  have h3 : q + o = MM.ofP p (k + 1) := by rw [hq, h2]; show _ = MM.ofP p k + _; rw [if_pos h]
  exact ⟨h3, by rw [h3]; exact Nat.lt_of_lt_of_le (MM.ofP_lt p (k + 1)) (Nat.pow_le_pow_right (show 0 < 2 by omega) (show k + 1 ≤ 64 by omega))⟩
set_option maxRecDepth 8000 in
theorem ofP_succ_out (p : Nat → Bool) (k q : Nat) (hq : q = MM.ofP p k) (h : p k = false) : q = MM.ofP p (k + 1) := by
  rw [hq]; show _ = MM.ofP p k + _; rw [h]; simp
set_option maxRecDepth 8000 in
theorem pow_succ_mod (k o : Nat) (ho : o = 2 ^ k % 18446744073709551616) : IntKind.u64.wrap ((o : Int) * 2) = ((o * 2 % 18446744073709551616 : Nat) : Int) ∧ o * 2 % 18446744073709551616 = 2 ^ (k + 1) % 18446744073709551616 := by
  refine ⟨by rw [IntKind.wrap_u64]; omega, ?_⟩
  rw [ho, Nat.pow_succ]
  omega
set_option maxRecDepth 8000 in
theorem contains_at (xs : List Int) (k : Nat) (x : Int) (hk : k < xs.length) (h : xs.getD k 0 = x) : xs.contains x = true := by
  rw [List.getD_eq_getElem?_getD, List.getElem?_eq_getElem hk] at h
  simp only [List.contains_iff_mem]
  rw [← h]
  exact List.getElem_mem hk
set_option maxRecDepth 8000 in
theorem contains_not (xs : List Int) (x : Int) (h : ∀ j, j < xs.length → xs.getD j 0 ≠ x) : xs.contains x = false := by
  cases hc : xs.contains x with
  | false => rfl
  | true =>
    rw [List.contains_iff_mem] at hc
    obtain ⟨j, hj, he⟩ := List.mem_iff_getElem.1 hc
    exact absurd (by rw [List.getD_eq_getElem?_getD, List.getElem?_eq_getElem hj]; exact he) (h j hj)

end Go.Proofs.Ytapnefhmonpgdaa

/-
  What the functions of layer 1 return that make a slice. Conditions: a set below 2^64.
-/
namespace Go.Proofs.Ytapnefhmonpgdaa
open Go.RowKit

set_option maxRecDepth 8000 in
theorem infoInt : (Try.prog.info? 3).map (fun i => (i.zero, i.size, i.bytes)) = some (some (.int .i64 0), 1, 8) := by kernel_rfl
/-- The elements as numbers of the language, and as cells. -/
def ei (l : List Nat) : List Int := l.map Int.ofNat
def cells (xs : List Int) : List Value := xs.map (Value.int .i64)
set_option maxRecDepth 8000 in
theorem cells_snoc (xs : List Int) (x : Int) : cells (xs ++ [x]) = cells xs ++ [.int .i64 x] := by simp [cells]
set_option maxRecDepth 8000 in
theorem ei_snoc (l : List Nat) (k : Nat) : ei (l ++ [k]) = ei l ++ [(k : Int)] := by simp [ei]
set_option maxRecDepth 8000 in
theorem ei_length (l : List Nat) : (ei l).length = l.length := by simp [ei]
/-- A slice of ints of the call's own. -/
def OwnI (w : World) (B : Nat) (A : Option Addr) (c : Nat) (xs : List Int) : Prop := w.ownsRow B 3 1 (.slice A xs.length c) xs.length (cells xs)
set_option maxRecDepth 8000 in
theorem OwnI.ints {w : World} {B c : Nat} {A : Option Addr} {xs : List Int} (h : OwnI w B A c xs) : Ints w A xs := Sl.of_own h

/-- What stands behind j elements, where a variable in block g holds the list so far. -/
def Got (B g : Nat) (w : World) (l : List Int) (W : World) : Prop :=
  ∃ A c, Box W g 113 (.slice A l.length c) ∧ OwnI W B A c l ∧ Below B w W

set_option maxRecDepth 8000 in
theorem new_ints (w : World) (xs : List Int) (e : TypeId) : Ints (w.alloc (.cells (xs.map (Value.int .i64)).toArray e)) (some ⟨w.heap.size, 0, none⟩) xs := fun _ =>
  ⟨w.heap.size, 0, rfl, by simp, fun j u hu => by
    rw [Nat.zero_add, cell_of_row _ w.heap.size j _ e (0, 0) (heap_alloc_new w _)]
    simpa using hu⟩
set_option maxRecDepth 8000 in
theorem ei_take (l : List Nat) (j : Nat) (h : j < l.length) : ei (l.take (j + 1)) = ei (l.take j) ++ [((l.getD j 0 : Nat) : Int)] := by
  rw [List.take_succ_eq_append_getElem h, ei_snoc, List.getD_eq_getElem?_getD, List.getElem?_eq_getElem h]; rfl

end Go.Proofs.Ytapnefhmonpgdaa

/-
  What the statements' own helper of layer 1 returns: true. Conditions: the table of math/bits in memory.
-/
namespace Go.Proofs.Ytapnefhmonpgdaa
open Go.RowKit

end Go.Proofs.Ytapnefhmonpgdaa
