/- Texts that all the claims need. Conditions: those that each states. -/
import Derived.Test.YtnfndapgcpdcpaaGreatDoorRows
import Derived.BigQuiet
import Derived.Deep.LoopGhost
import Derived.Deep.QuietTactic
import Derived.Laws.Bits64b
import Derived.Laws.BitsAllLaws
import Derived.Lib.Hide
import Derived.Lib.LaidTab
import Derived.Lib.TrailingZeros
import Derived.LoopTactic
import Derived.WalkKit
import Derived.WalkLawsBesides
import Derived.WalkSpells
set_option linter.unusedSimpArgs false
set_option linter.unusedVariables false
set_option maxRecDepth 100000
set_option maxHeartbeats 40000000
namespace Go.Proofs.YtnfndapgcpdcpaaGreatDoor
theorem zA1 {α : Type _} {xs : List α} {i : Nat} : xs.toArray[i]? = xs[i]? := List.getElem?_toArray
theorem zA2 {α : Type _} {a : α} {i : Nat} {l : List α} : (a :: l)[i + 1]? = l[i]? := List.getElem?_cons_succ
theorem zA3 {α : Type _} {a : α} {l : List α} : (a :: l)[0]? = some a := List.getElem?_cons_zero
theorem zA4 {α : Type _} (l : List α) (i : Nat) (a : α) : l.toArray.setIfInBounds i a = (l.set i a).toArray := List.setIfInBounds_toArray l i a
theorem zA5 {α : Type _} {x : α} {xs : List α} {a : α} : (x :: xs).set 0 a = a :: xs := List.set_cons_zero
theorem zA6 {α : Type _} {x : α} {xs : List α} {i : Nat} {a : α} : (x :: xs).set (i + 1) a = x :: xs.set i a := List.set_cons_succ
theorem zA7 {α : Type _} {xs ys : List α} : (xs ++ ys).length = xs.length + ys.length := List.length_append
theorem zA8 {α : Type _} {a : α} {xs : List α} : (a :: xs).length = xs.length + 1 := List.length_cons
theorem zA9 {α : Type _} : ([] : List α).length = 0 := List.length_nil
theorem zO {α : Type _} {l r : List α} {i : Nat} {o : α} (h : l.drop i = o :: r) : l.toArray[i]? = some o := by
 rw [List.getElem?_toArray, ← List.head?_drop, h]; rfl
theorem zh {p : Prop} (h : p) : RowKit.Hid p := h
theorem zL (n : Nat) : n ≤ n := Nat.le_refl n
theorem zB (B : Nat) (w : World) : RowKit.Below B w w := RowKit.Below.refl B w
theorem zT {n m k : Nat} : n < m → m ≤ k → n < k := Nat.lt_of_lt_of_le
theorem zM {n m k : Nat} : n ≤ m → m ≤ k → n ≤ k := Nat.le_trans
theorem zS (n : Nat) : n < n.succ := Nat.lt_succ_self n
theorem zF {p : Prop} [h : Decidable p] : ¬ p → decide p = false := decide_eq_false
theorem zE {p : Prop} [h : Decidable p] : p → decide p = true := decide_eq_true
namespace A18
end A18
namespace LX
end LX
namespace MM
end MM
namespace NM
end NM
namespace RG
end RG
namespace RM
end RM
namespace SP
end SP
namespace TM
end TM
namespace TR
end TR
section
open Go.RowKit
theorem ret_eq {a b : Value} (h : a = b) : Ending.returned a = Ending.returned b := by rw [h]
theorem int_eq {k : IntKind} {a b : Int} (h : a = b) : Value.int k a = Value.int k b := by rw [h]
theorem bool_eq {a b : Bool} (h : a = b) : Value.bool a = Value.bool b := by rw [h]
def Sl (w : World) (B : Nat) (A : Option Addr) (cs : List Value) : Prop :=
 cs ≠ [] → ∃ b o, A = some ⟨b, o, none⟩ ∧ b < B ∧ ∀ j u, cs[j]? = some u → w.cell? ⟨b, o + j, none⟩ = some u
section
variable {w w' : World} {B B' n size c : Nat} {A : Option Addr} {cs : List Value}
theorem Sl.nil (w : World) (B : Nat) (A : Option Addr) : Sl w B A [] := fun h => absurd rfl h
theorem Sl.below (h : Sl w B A cs) (hb : Below B w w') : Sl w' B A cs := fun hne => by
 obtain ⟨b, o, hA, hlt, hc⟩ := h hne
 exact ⟨b, o, hA, hlt, fun j u hu => (hb.cell (p := ⟨b, o + j, none⟩) hlt).trans (hc j u hu)⟩
theorem Sl.mono (h : Sl w B A cs) (hB : B ≤ B') : Sl w B' A cs := fun hne => by
 obtain ⟨b, o, hA, hlt, hc⟩ := h hne
 exact ⟨b, o, hA, by omega, hc⟩
theorem Sl.at_ (h : Sl w B A cs) (hne : cs ≠ []) : ∃ b o, A = some ⟨b, o, none⟩ ∧ b < B ∧ ∀ j u, cs[j]? = some u → w.cell? ⟨b, o + j, none⟩ = some u := h hne
theorem Sl.of_own {base : Nat} {e : TypeId} (h : w.ownsRow base e size (.slice A n c) n cs) : Sl w w.heap.size A cs := fun hne => by
 rcases h.2 with ⟨_, hn⟩ | ⟨g, cap, cur, hv, _, hg, _, _, _, ht⟩
 ·have := h.1
  rw [hn] at this
  exact absurd (List.eq_nil_of_length_eq_zero (by simpa using this)) hne
 ·injection hv with hA _ _
  subst hA
  refine ⟨g, 0, rfl, (Array.getElem?_eq_some_iff.1 hg).1, fun j u hu => ?_⟩
  rw [Nat.zero_add, cell_of_row w g j cur e (0, 0) hg]
  rw [← ht, List.getElem?_take] at hu
  split at hu
  ·simpa using hu
  ·cases hu
theorem own_form {base : Nat} {e : TypeId} {v : Value} (h : w.ownsRow base e size v n cs) : ∃ A c, v = .slice A n c ∧ n ≤ c ∧ c ≤ maxLen := by
 rcases h.2 with ⟨rfl, rfl⟩ | ⟨g, cap, cur, rfl, _, _, h1, h2, _⟩
 ·exact ⟨_, _, rfl, zL _, by simp [maxLen]⟩
 ·exact ⟨_, _, rfl, h1, h2⟩
theorem own_below {base : Nat} {e : TypeId} {v : Value} {k : Nat} (h : w.ownsRow base e size v n cs) (hb : Below k w w') (hk : w.heap.size ≤ k) : w'.ownsRow base e size v n cs := by
 refine ⟨h.1, ?_⟩
 rcases h.2 with hn | ⟨g, cap, cur, hv, hg, hh, rest⟩
 ·exact .inl hn
 ·have hlt := (Array.getElem?_eq_some_iff.1 hh).1
  exact .inr ⟨g, cap, cur, hv, hg, (hb.block g (by omega)).trans hh, rest⟩
theorem own_mono {base base' : Nat} {e : TypeId} {v : Value} (h : w.ownsRow base e size v n cs) (hb : base' ≤ base) : w.ownsRow base' e size v n cs := by
 refine ⟨h.1, ?_⟩
 rcases h.2 with hn | ⟨g, cap, cur, hv, hg, rest⟩
 ·exact .inl hn
 ·exact .inr ⟨g, cap, cur, hv, by omega, rest⟩
end
theorem bdrewN {B : Nat} {a w : World} (h : Below B a w) (n : Nat) : Below B a (w.drewN n) := ⟨h.os, h.tape, h.output, h.size, h.block⟩
def Box (w : World) (g : Nat) (t : TypeId) (v : Value) : Prop := w.heap[g]? = some (.cells #[v] t (0, 0))
section
variable {w w' : World} {g : Nat} {t : TypeId} {v : Value}
theorem Box.lt (h : Box w g t v) : g < w.heap.size := (Array.getElem?_eq_some_iff.1 h).1
theorem Box.cell (h : Box w g t v) : w.cell? ⟨g, 0, none⟩ = some v := by rw [cell_of_row w g 0 _ t (0, 0) h]; rfl
theorem Box.free (h : Box w g t v) : w.frozen? ⟨g, 0, none⟩ = false := by
 unfold Box at h
 simp [World.frozen?, h]
theorem Box.new (w : World) (t : TypeId) (v : Value) : Box (w.alloc (.cells #[v] t)) w.heap.size t v := heap_alloc_new w _
theorem Box.alloc (h : Box w g t v) (o : Obj) : Box (w.alloc o) g t v := (heap_alloc_old w o h.lt).trans h
theorem Box.drewN (h : Box w g t v) (n : Nat) : Box (w.drewN n) g t v := h
theorem Box.below {B : Nat} (h : Box w g t v) (hb : Below B w w') (hg : g < B) : Box w' g t v := (hb.block g hg).trans h
theorem Box.grown {row : Option Nat} (h : Box w g t v) (hb : w.grownBy w' row) (hg : row ≠ some g) : Box w' g t v := (hb.block g h.lt (fun e => hg e.symm)).trans h
theorem Box.put (h : Box w g t v) (u : Value) : Box (w.setCell ⟨g, 0, none⟩ u) g t u := by
 unfold Box at h ⊢
 simp [World.setCell, Array.getElem?_modify, h]
theorem Box.far (h : Box w g t v) {p : Addr} (hp : p.block ≠ g) (u : Value) : Box (w.setCell p u) g t v := by
 unfold Box at h ⊢
 simp only [World.setCell, Array.getElem?_modify, if_neg hp]
 exact h
end
end
section
namespace MM
def els (s : Nat) : List Nat := (List.range 64).filter fun i => s.testBit i
def ofP (p : Nat → Bool) : Nat → Nat
 | 0 => 0
 | k + 1 => ofP p k + if p k then 2 ^ k else 0
theorem ofP_lt (p : Nat → Bool) : ∀ k, ofP p k < 2 ^ k
 | 0 => by simp [ofP]
 | k + 1 => by
   have := ofP_lt p k
   unfold ofP
   rw [Nat.pow_succ]
   split <;> omega
theorem ofP_bit (p : Nat → Bool) : ∀ k i, (ofP p k).testBit i = (decide (i < k) && p i)
 | 0, i => by simp [ofP]
 | k + 1, i => by
   have hl := ofP_lt p k
   have ih := ofP_bit p k
   unfold ofP
   by_cases hp : p k
   ·have e : ofP p k + (if p k = true then 2 ^ k else 0) = 2 ^ k * 1 + ofP p k := by rw [if_pos hp]; omega
    rw [e, Nat.testBit_two_pow_mul_add _ hl]
    by_cases h : i < k
    ·simp [h, ih, show i < k + 1 by omega]
    ·rw [if_neg h]
     by_cases h2 : i = k
     ·subst h2; simp [hp]
     ·have : ¬ i < k + 1 := by omega
      have h3 : (1 : Nat).testBit (i - k) = false := by
       have : i - k ≠ 0 := by omega
       cases hh : i - k with
       | zero => omega
       | succ n => simp [Nat.testBit_succ]
      simp [this, h3]
   ·simp only [Bool.not_eq_true] at hp
    simp only [hp, Bool.false_eq_true, if_false, Nat.add_zero]
    rw [ih]
    by_cases h2 : i = k
    ·subst h2; simp [hp]
    ·have : (i < k + 1) = (i < k) := by simp; omega
     simp [this]
theorem ext64 {a b : Nat} (ha : a < 2 ^ 64) (hb : b < 2 ^ 64) (h : ∀ i, i < 64 → a.testBit i = b.testBit i) : a = b := by
 apply Nat.eq_of_testBit_eq
 intro i
 by_cases hi : i < 64
 ·exact h i hi
 ·rw [Nat.testBit_lt_two_pow (zT ha (Nat.pow_le_pow_right (by omega) (by omega))),
   Nat.testBit_lt_two_pow (zT hb (Nat.pow_le_pow_right (by omega) (by omega)))]
theorem mem_els {s i : Nat} : i ∈ els s ↔ i < 64 ∧ s.testBit i = true := by simp [els]
theorem els_ofP (p : Nat → Bool) : els (ofP p 64) = (List.range 64).filter p := by
 unfold els
 apply List.filter_congr
 intro i hi
 simp at hi
 rw [ofP_bit]; simp [hi]
theorem low_and (k m : Nat) : (2 ^ k * (2 * m + 1)) &&& (2 ^ k * (2 * m + 1) - 1) = 2 ^ k * (2 * m) := by
 have h1 : 2 ^ k * (2 * m + 1) = 2 ^ k * (2 * m + 1) + 0 := by omega
 have hp : 0 < 2 ^ k := Nat.two_pow_pos k
 have h2 : 2 ^ k * (2 * m + 1) - 1 = 2 ^ k * (2 * m) + (2 ^ k - 1) := by
  rw [Nat.mul_add]; omega
 apply Nat.eq_of_testBit_eq
 intro i
 rw [Nat.testBit_and, h2]
 rw [Nat.testBit_two_pow_mul_add (2 * m) (b := 2 ^ k - 1) (by omega)]
 rw [Nat.testBit_two_pow_mul, Nat.testBit_two_pow_mul]
 by_cases h : i < k
 ·have : ¬ k ≤ i := by omega
  simp [this]
 ·have h' : k ≤ i := by omega
  simp [h, h']
  cases hh : i - k with
  | zero => simp
  | succ n => simp [Nat.testBit_succ]; rw [show (2 * m + 1) / 2 = m by omega]; simp
theorem low_bit (k m i : Nat) : (2 ^ k * (2 * m)).testBit i = ((2 ^ k * (2 * m + 1)).testBit i && decide (i ≠ k)) := by
 rw [Nat.testBit_two_pow_mul, Nat.testBit_two_pow_mul]
 by_cases h : k ≤ i
 ·simp [h]
  cases hh : i - k with
  | zero => have : i = k := by omega
            simp [this]
  | succ n => have : i ≠ k := by omega
              simp [Nat.testBit_succ, this]; rw [show (2 * m + 1) / 2 = m by omega]
 ·simp [h]
theorem filter_range_split (p : Nat → Bool) (k n : Nat) (hk : k < n) (hlow : ∀ i, i < k → p i = false) (hp : p k = true) :
 (List.range n).filter p = k :: (List.range n).filter (fun i => p i && decide (i ≠ k)) := by
 have e : List.range n = List.range k ++ k :: List.range' (k + 1) (n - k - 1) := by
  rw [List.range_eq_range', List.range_eq_range', ← List.range'_succ (s := k) (n := n - k - 1) (step := 1)]
  have := List.range'_append_1 (s := 0) (m := k) (n := n - k - 1 + 1)
  rw [show k + (n - k - 1 + 1) = n by omega, show 0 + k = k by omega] at this
  exact this.symm
 have h1 : (List.range k).filter p = [] := by
  rw [List.filter_eq_nil_iff]; intro a ha; simp at ha; simp [hlow a ha]
 have h2 : (List.range k).filter (fun i => p i && decide (i ≠ k)) = [] := by
  rw [List.filter_eq_nil_iff]; intro a ha; simp at ha; simp [hlow a ha]
 rw [e, List.filter_append, List.filter_append, h1, h2, List.filter_cons_of_pos hp, List.filter_cons_of_neg (by simp)]
 simp only [List.nil_append]
 congr 1
 apply List.filter_congr
 intro a ha
 have : k + 1 ≤ a := by simp [List.mem_range'_1] at ha; omega
 simp [show a ≠ k by omega]
theorem els_low {k m : Nat} (_h : 2 ^ k * (2 * m + 1) < 2 ^ 64) (hk : k < 64) : els (2 ^ k * (2 * m + 1)) = k :: els (2 ^ k * (2 * m)) := by
 unfold els
 rw [filter_range_split _ k 64 hk]
 ·congr 1
  apply List.filter_congr
  intro i _
  exact (low_bit k m i).symm
 ·intro i hi
  rw [Nat.testBit_two_pow_mul]; simp; omega
 ·rw [Nat.testBit_two_pow_mul]; simp
theorem els_zero : els 0 = [] := by simp [els]
theorem els_length (s : Nat) : (els s).length ≤ 64 := by
 have := List.length_filter_le (fun i => s.testBit i) (List.range 64)
 simpa [els] using this
def elsTo (s k : Nat) : List Nat := (List.range k).filter fun i => s.testBit i
theorem elsTo_succ (s k : Nat) : elsTo s (k + 1) = elsTo s k ++ if s.testBit k then [k] else [] := by
 unfold elsTo
 rw [List.range_succ, List.filter_append]
 congr 1
 by_cases h : s.testBit k <;> simp [h]
theorem elsTo_64 (s : Nat) : elsTo s 64 = els s := rfl
theorem elsTo_length (s k : Nat) : (elsTo s k).length ≤ k := by
 have := List.length_filter_le (fun i => s.testBit i) (List.range k)
 simpa [elsTo] using this
theorem els_getD_lt (s k : Nat) : (els s).getD k 0 < 64 := by
 rw [List.getD_eq_getElem?_getD]
 cases h : (els s)[k]? with
 | none => simp
 | some a => have := List.mem_of_getElem? h; simp [mem_els] at this; simp; omega
def ds (B : Nat) : Nat → Nat → Nat
 | 0, _ => 0
 | k + 1, y => y % B + ds B k (y / B)
theorem and_split (w a c d : Nat) (hd : d < 2 ^ w) : a &&& (2 ^ w * c + d) = 2 ^ w * ((a / 2 ^ w) &&& c) + ((a % 2 ^ w) &&& d) := by
 have hb : (a % 2 ^ w) &&& d < 2 ^ w := Nat.lt_of_le_of_lt Nat.and_le_right hd
 apply Nat.eq_of_testBit_eq
 intro i
 rw [Nat.testBit_and, Nat.testBit_two_pow_mul_add c hd, Nat.testBit_two_pow_mul_add _ hb]
 by_cases h : i < w
 ·simp [h, Nat.testBit_and, Nat.testBit_mod_two_pow]
 ·simp [h, Nat.testBit_and, Nat.testBit_div_two_pow]
  rw [show i - w + w = i by omega]
def mk (B d : Nat) : Nat → Nat
 | 0 => 0
 | k + 1 => B * mk B d k + d
def sg (i : Int) : Nat := if 0 ≤ i ∧ i < 64 then 2 ^ i.toNat else 0
theorem sg_lt (i : Int) : sg i < 2 ^ 64 := by
 unfold sg
 split
 ·rename_i h; exact Nat.pow_lt_pow_right (by omega) (by omega)
 ·omega
theorem sg_bit (i : Int) (k : Nat) : (sg i).testBit k = decide (i = (k : Int) ∧ k < 64) := by
 unfold sg
 split
 ·rename_i h
  rw [Nat.testBit_two_pow]
  simp only [decide_eq_decide]
  omega
 ·rename_i h
  simp only [Nat.zero_testBit]
  symm
  simp only [decide_eq_false_iff_not]
  omega
def hasN (s : Nat) (i : Int) : Bool := decide (0 ≤ i ∧ i < 64) && s.testBit i.toNat
theorem hasN_in (s i : Nat) (h : i < 64) : hasN s i = s.testBit i := by
 unfold hasN
 have : decide ((0 : Int) ≤ (i : Int) ∧ (i : Int) < 64) = true := by simp only [decide_eq_true_eq]; omega
 rw [this]; simp
theorem and_sg (s : Nat) (i : Int) : ((((s &&& sg i : Nat) : Int) != 0)) = hasN s i := by
 have key : (s &&& sg i ≠ 0) ↔ hasN s i = true := by
  unfold hasN
  constructor
  ·intro h
   obtain ⟨k, hk⟩ := Nat.exists_testBit_of_ne_zero h
   rw [Nat.testBit_and, sg_bit] at hk
   simp only [Bool.and_eq_true, decide_eq_true_eq] at hk ⊢
   obtain ⟨h1, h2, h3⟩ := hk
   subst h2
   exact ⟨by omega, by simpa using h1⟩
  ·intro h h0
   simp only [Bool.and_eq_true, decide_eq_true_eq] at h
   have : (s &&& sg i).testBit i.toNat = true := by
        rw [Nat.testBit_and, sg_bit, h.2]
        simp only [Bool.true_and, decide_eq_true_eq]
        omega
   rw [h0] at this
   simp at this
 cases hb : hasN s i with
 | true => rw [hb] at key; simp only [bne_iff_ne]; have := key.2 rfl; omega
 | false => rw [hb] at key; simp only [bne_eq_false_iff_eq]; have : s &&& sg i = 0 := Decidable.byContradiction fun h => by simpa using key.1 h
            omega
def withN (s : Nat) (i : Int) : Nat := s ||| sg i
theorem withN_lt {s : Nat} (hs : s < 2 ^ 64) (i : Int) : withN s i < 2 ^ 64 := Nat.or_lt_two_pow hs (sg_lt i)
theorem withN_bit (s : Nat) (i : Int) (k : Nat) : (withN s i).testBit k = (s.testBit k || decide (i = (k : Int) ∧ k < 64)) := by
 unfold withN; rw [Nat.testBit_or, sg_bit]
def lessN (s : Nat) (i : Int) : Nat := s &&& (18446744073709551615 - sg i)
theorem lessN_lt {s : Nat} (hs : s < 2 ^ 64) (i : Int) : lessN s i < 2 ^ 64 := Nat.lt_of_le_of_lt Nat.and_le_left hs
theorem not_bit (s k : Nat) (hs : s < 2 ^ 64) : (18446744073709551615 - s).testBit k = (decide (k < 64) && !s.testBit k) := by
 have := Nat.testBit_two_pow_sub_succ hs k
 rw [show 2 ^ 64 - (s + 1) = 18446744073709551615 - s by omega] at this
 exact this
theorem lessN_bit (s : Nat) (i : Int) (k : Nat) : (lessN s i).testBit k = (s.testBit k && (decide (k < 64) && !decide (i = (k : Int) ∧ k < 64))) := by
 unfold lessN; rw [Nat.testBit_and, not_bit _ _ (sg_lt i), sg_bit]
def subN (a b : Nat) : Bool := (els a).all fun i => b.testBit i
theorem sub_eq (a b : Nat) (hb : b < 2 ^ 64) : ((((a &&& (18446744073709551615 - b) : Nat) : Int) == 0)) = subN a b := by
 have key : (a &&& (18446744073709551615 - b) = 0) ↔ subN a b = true := by
  unfold subN
  rw [List.all_eq_true]
  constructor
  ·intro h i hi
   rw [mem_els] at hi
   have : (a &&& (18446744073709551615 - b)).testBit i = false := by rw [h]; simp
   rw [Nat.testBit_and, not_bit _ _ hb, hi.2] at this
   simpa [hi.1] using this
  ·intro h
   apply Nat.eq_of_testBit_eq
   intro i
   rw [Nat.testBit_and, not_bit _ _ hb]
   simp only [Nat.zero_testBit]
   by_cases h64 : i < 64
   ·cases ht : a.testBit i with
    | false => simp
    | true => simp [h i (mem_els.2 ⟨h64, ht⟩)]
   ·simp [h64]
 cases hs : subN a b with
 | true => rw [hs] at key; simp only [beq_iff_eq]; have := key.2 rfl; omega
 | false => rw [hs] at key; simp only [beq_eq_false_iff_ne]; intro h; have : a &&& (18446744073709551615 - b) = 0 := by omega
            simpa using key.1 this
def belowN (n : Int) : Nat := ofP (fun i => decide ((i : Int) < n)) 64
theorem pow_sub_bit (k i : Nat) : (2 ^ k - 1).testBit i = decide (i < k) := Nat.testBit_two_pow_sub_one k i
theorem belowN_in (n : Int) (h0 : 1 ≤ n) (h1 : n < 64) : ((belowN n : Nat) : Int) = ((2 ^ n.toNat : Nat) : Int) - 1 := by
 have hp : 2 ^ n.toNat < 2 ^ 64 := Nat.pow_lt_pow_right (by omega) (by omega)
 have hp0 : 0 < 2 ^ n.toNat := Nat.two_pow_pos _
 have : belowN n = 2 ^ n.toNat - 1 := by
  unfold belowN
  refine ext64 (ofP_lt _ _) (by omega) fun i hi => ?_
  rw [ofP_bit, pow_sub_bit]
  simp only [hi, decide_true, Bool.true_and, decide_eq_decide]
  omega
 omega
theorem belowN_none (n : Int) (h : n < 1) : belowN n = 0 := by
 unfold belowN
 refine ext64 (ofP_lt _ _) (by omega) fun i hi => ?_
 rw [ofP_bit]
 simp only [hi, Nat.zero_testBit, decide_true, Bool.true_and, decide_eq_false_iff_not]
 omega
theorem belowN_all (n : Int) (h : 64 ≤ n) : belowN n = 18446744073709551615 := by
 unfold belowN
 refine ext64 (ofP_lt _ _) (by omega) fun i hi => ?_
 rw [ofP_bit, show (18446744073709551615 : Nat) = 2 ^ 64 - 1 from rfl, pow_sub_bit]
 simp only [hi, decide_true, Bool.true_and, decide_eq_true_eq]
 omega
def ofN (l : List Int) : Nat := ofP (fun i => l.contains (i : Int)) 64
theorem ofN_bit (l : List Int) (i : Nat) : (ofN l).testBit i = (decide (i < 64) && l.contains (i : Int)) := ofP_bit _ _ _
theorem ofN_lt (l : List Int) : ofN l < 2 ^ 64 := ofP_lt _ _
theorem ofN_nil : ofN [] = 0 := by
 refine ext64 (ofN_lt _) (by omega) fun i hi => ?_
 rw [ofN_bit]; simp
theorem ofN_snoc (l : List Int) (i : Int) : ofN (l ++ [i]) = withN (ofN l) i := by
 refine ext64 (ofN_lt _) (withN_lt (ofN_lt _) _) fun k hk => ?_
 rw [ofN_bit, withN_bit, ofN_bit]
 simp only [List.contains_eq_any_beq, List.any_append, List.any_cons, List.any_nil, Bool.or_false, hk, decide_true, Bool.true_and, and_true]
 congr 1
 rw [Bool.eq_iff_iff]; simp only [beq_iff_eq, decide_eq_true_eq]; omega
theorem low_form {s : Nat} (hs : s < 2 ^ 64) (h0 : s ≠ 0) (k : Nat) (hk : k < 64) (hm : ∃ m, s = 2 ^ k * (2 * m + 1)) :
 els s = k :: els (s &&& (s - 1)) ∧ (s &&& (s - 1)) < 2 ^ 64 := by
 obtain ⟨m, rfl⟩ := hm
 rw [low_and]
 exact ⟨els_low hs hk, by have : 2 ^ k * (2 * m) ≤ 2 ^ k * (2 * m + 1) := Nat.mul_le_mul_left _ (by omega)
                          omega⟩
end MM
end
section
open Go.RowKit
def Tab (w : World) : Prop := ∀ j, j < 64 → w.cell? ⟨0, j, none⟩ = some (.int .u8 (Lib.deBruijn64tab.getD j 0))
theorem single_any (i : Int) (w : World) :
 Calls Tryz.prog 128 #[.int .i64 i] w fun e w' => e = .returned (.int .u64 (MM.sg i : Int)) ∧ w = w' := by
 by_cases h0 : i < 0
 ·have hz : MM.sg i = 0 := by unfold MM.sg; rw [if_neg (by omega)]
  rw [hz]
  go_enter Tryz.func128, Tryz.ntmps128
  go_wp2
  go_ret
  exact ⟨rfl, rfl⟩
 ·by_cases h1 : i < 64
  ·have hz : ((MM.sg i : Nat) : Int) = IntKind.u64.wrap (2 ^ i.toNat) := by
        have hp : (2 : Nat) ^ i.toNat < 2 ^ 64 := Nat.pow_lt_pow_right (by omega) (by omega)
        have hc : ((2 : Int) ^ i.toNat) = ((2 ^ i.toNat : Nat) : Int) := by simp
        unfold MM.sg
        rw [if_pos (by omega), IntKind.wrap_u64, hc]
        generalize 2 ^ i.toNat = n at *
        omega
   rw [hz]
   clear hz
   have h2 : 0 ≤ i := by omega
   clear h0
   go_enter Tryz.func128, Tryz.ntmps128
   go_wp2
   go_ret
   exact ⟨rfl, rfl⟩
  ·have hz : MM.sg i = 0 := by unfold MM.sg; rw [if_neg (by omega)]
   rw [hz]
   go_enter Tryz.func128, Tryz.ntmps128
   go_wp2
   go_ret
   exact ⟨rfl, rfl⟩
theorem with_any (s : Nat) (hs : s < 18446744073709551616) (i : Int) (w : World) :
 Calls Tryz.prog 175 #[.int .u64 s, .int .i64 i] w fun e w' => e = .returned (.int .u64 (MM.withN s i : Int)) ∧ w = w' := by
 have e : bits BinOp.or IntKind.u64 (s : Int) (MM.sg i : Int) = ((MM.withN s i : Nat) : Int) := u64_or_nat s _ hs (MM.sg_lt i)
 go_enter Tryz.func175, Tryz.ntmps175
 go_wp2_with (go_at_call 128; refine (single_any _ _).mono ?_; rintro e w' ⟨rfl, rfl⟩)
 go_ret
 exact ⟨rfl, rfl⟩
theorem has_any (s : Nat) (hs : s < 18446744073709551616) (i : Int) (w : World) :
 Calls Tryz.prog 166 #[.int .u64 s, .int .i64 i] w fun e w' => e = .returned (.bool (MM.hasN s i)) ∧ w = w' := by
 have e : bits BinOp.and IntKind.u64 (s : Int) (MM.sg i : Int) = ((s &&& MM.sg i : Nat) : Int) := u64_and_nat s _ hs (MM.sg_lt i)
 rw [← MM.and_sg]
 go_enter Tryz.func166, Tryz.ntmps166
 go_wp2_with (go_at_call 128; refine (single_any _ _).mono ?_; rintro e w' ⟨rfl, rfl⟩)
 go_ret
 exact ⟨rfl, rfl⟩
theorem sub_any (a b : Nat) (ha : a < 18446744073709551616) (hb : b < 18446744073709551616) (w : World) :
 Calls Tryz.prog 88 #[.int .u64 a, .int .u64 b] w fun e w' => e = .returned (.bool (MM.subN a b)) ∧ w = w' := by
 have e : bits BinOp.andNot IntKind.u64 (a : Int) (b : Int) = ((a &&& (18446744073709551615 - b) : Nat) : Int) := u64_andNot_nat a b ha hb
 rw [← MM.sub_eq a b hb]
 go_enter Tryz.func88, Tryz.ntmps88
 go_wp2
 go_ret
 exact ⟨rfl, rfl⟩
theorem and_c (x c : Nat) (hx : x < 18446744073709551616) (hc : c < 18446744073709551616) : bits BinOp.and IntKind.u64 ((x : Nat) : Int) ((c : Nat) : Int) = ((x &&& c : Nat) : Int) := u64_and_nat x c hx hc
theorem wrap_n (x : Nat) (hx : x < 18446744073709551616) : IntKind.u64.wrap ((x : Nat) : Int) = ((x : Nat) : Int) := by rw [IntKind.wrap_u64]; omega
theorem low_ex (x : Nat) (hx : x < 18446744073709551616) (hx0 : x ≠ 0) :
 ∃ k, k < 64 ∧ Lib.ctz 64 x = k ∧ MM.els x = k :: MM.els (x &&& (x - 1)) ∧ (x &&& (x - 1)) < 18446744073709551616 := by
 obtain ⟨m, h1, h2⟩ := Lib.ctzFrom_spec 64 x (by omega) hx
 exact ⟨_, h2, by unfold Lib.ctz; rw [if_neg hx0], MM.low_form hx hx0 _ h2 ⟨m, h1⟩⟩
theorem zeros_any (x k : Nat) (hx : x < 18446744073709551616) (hx0 : x ≠ 0) (hk : Lib.ctz 64 x = k) (w : World) (hT : Tab w) :
 Calls Tryz.prog 179 #[.int .u64 x] w fun e w' => e = .returned (.int .i64 k) ∧ w = w' := by
 obtain ⟨hlow, hk2⟩ := Lib.lowest_bit 64 x hx0 hx
 rw [hk] at hlow hk2
 obtain ⟨j, hj, hslot, hread⟩ : ∃ j : Nat, j < 64 ∧ IntKind.u64.wrap (((2 ^ k : Nat) : Int) * 285870213051353865) / 288230376151711744 = (j : Int) ∧ w.cell? ⟨0, j, none⟩ = some (.int .u8 (k : Int)) := by
  obtain ⟨h1, h2⟩ := Lib.deBruijn64_at k hk2
  refine ⟨_, h1, ?_, ?_⟩
  ·rw [IntKind.wrap_u64]
   rfl
  ·have h3 := hT _ h1
   rw [h2] at h3
   exact h3
 have hand : bits BinOp.and IntKind.u64 (x : Int) (IntKind.u64.wrap (-(x : Int))) = ((2 ^ k : Nat) : Int) := by
  rw [show IntKind.u64.wrap (-(x : Int)) = ((18446744073709551616 - x : Nat) : Int) by rw [IntKind.wrap_u64]; omega, u64_and_nat x _ hx (by omega)]
  exact congrArg Int.ofNat hlow
 have hpos : ((x : Int) == 0) = false := by rw [beq_eq_false_iff_ne]; omega
 clear hk hT hlow
 generalize 2 ^ k = m at *
 go_enter Tryz.func179, Tryz.ntmps179
 go_wp2
 go_ret
 exact ⟨rfl, rfl⟩
theorem rest_any (x : Nat) (hx : x < 18446744073709551616) (hx0 : x ≠ 0) (w : World) :
 Calls Tryz.prog 180 #[.int .u64 x] w fun e w' => e = .returned (.int .u64 ((x &&& (x - 1) : Nat) : Int)) ∧ w = w' := by
 have h1 : (x : Int) - 1 = ((x - 1 : Nat) : Int) := by omega
 have e : bits BinOp.and IntKind.u64 (x : Int) ((x : Int) - 1) = ((x &&& (x - 1) : Nat) : Int) := by rw [h1]; exact u64_and_nat x _ hx (by omega)
 clear h1
 rw [← e]
 clear e
 go_enter Tryz.func180, Tryz.ntmps180
 go_wp2
 go_ret
 exact ⟨rfl, rfl⟩
theorem below_any (n : Int) (w : World) :
 Calls Tryz.prog 98 #[.int .i64 n] w fun e w' => e = .returned (.int .u64 (MM.belowN n : Int)) ∧ w = w' := by
 by_cases h0 : n < 1
 ·rw [MM.belowN_none n h0]
  go_enter Tryz.func98, Tryz.ntmps98
  go_wp2
  go_ret
  exact ⟨rfl, rfl⟩
 ·by_cases h1 : n < 64
  ·have e : ((MM.belowN n : Nat) : Int) = IntKind.u64.wrap ((MM.sg n : Nat) - 1) := by
        have h2 := MM.sg_lt n
        have hp : 0 < 2 ^ n.toNat := Nat.two_pow_pos _
        have h3 : MM.sg n = 2 ^ n.toNat := by unfold MM.sg; rw [if_pos (by omega)]
        rw [MM.belowN_in n (by omega) h1, IntKind.wrap_u64, h3]
        rw [h3] at h2
        generalize 2 ^ n.toNat = m at *
        omega
   rw [e]
   clear e
   go_enter Tryz.func98, Tryz.ntmps98
   go_wp2_with (go_at_call 128; refine (single_any _ _).mono ?_; rintro e w' ⟨rfl, rfl⟩)
   go_ret
   exact ⟨rfl, rfl⟩
  ·rw [MM.belowN_all n (by omega)]
   go_enter Tryz.func98, Tryz.ntmps98
   go_wp2
   go_ret
   exact ⟨rfl, rfl⟩
end
section
open Go.RowKit
theorem half_lt (s k : Nat) (hs : s < 18446744073709551616) : s / 2 ^ k < 18446744073709551616 := Nat.lt_of_le_of_lt (Nat.div_le_self _ _) hs
def Ints (w : World) (A : Option Addr) (xs : List Int) : Prop := Sl w w.heap.size A (xs.map (Value.int .i64))
theorem Ints.below {w w' : World} {A : Option Addr} {xs : List Int} (h : Ints w A xs) (hb : Below w.heap.size w w') : Ints w' A xs := (Sl.below h hb).mono hb.size
theorem Ints.cell {w : World} {A : Option Addr} {xs : List Int} (h : Ints w A xs) (hne : xs ≠ []) : ∃ b o, A = some ⟨b, o, none⟩ ∧ ∀ j, j < xs.length → w.cell? ⟨b, o + j, none⟩ = some (.int .i64 (xs.getD j 0)) := by
 obtain ⟨b, o, hA, _, hc⟩ := Sl.at_ h (by simpa using hne)
 exact ⟨b, o, hA, fun j hj => hc j _ (by rw [List.getElem?_map, List.getElem?_eq_getElem hj, List.getD_eq_getElem?_getD, List.getElem?_eq_getElem hj]; rfl)⟩
theorem take_snoc (xs : List Int) (k : Nat) (h : k < xs.length) : xs.take (k + 1) = xs.take k ++ [xs.getD k 0] := by
 rw [List.take_succ_eq_append_getElem h, List.getD_eq_getElem?_getD, List.getElem?_eq_getElem h]; rfl
theorem of_any (A : Option Addr) (c : Nat) (xs : List Int) (w : World) (hn : xs.length ≤ 4294967296) (hA : Ints w A xs) :
 Calls Tryz.prog 140 #[.slice A xs.length c] w fun e w' => e = .returned (.int .u64 (MM.ofN xs : Int)) ∧ w = w' := by
 have HA := zh hA; clear hA
 generalize hl : xs.length = n at *
 have HL := zh hl; clear hl
 go_enter Tryz.func140, Tryz.ntmps140
 go_wp2
 go_loop [3, 5, 8] (fun sv _ kv => ∃ k q : Nat, k ≤ n ∧ kv = .int .i64 k ∧ sv = .int .u64 q ∧ q < 18446744073709551616 ∧ Hid (q = MM.ofN (xs.take k))) (fun _ _ kv => n - (intOf kv).toNat)
 case atStart => exact ⟨0, 0, by omega, rfl, rfl, by omega, by show 0 = MM.ofN (xs.take 0); rw [List.take_zero, MM.ofN_nil]⟩
 case round =>
  obtain ⟨k, q, hk, rfl, rfl, hq, HQ⟩ := hrel
  by_cases hlt : k < n
  ·obtain ⟨b, o, rfl, hc⟩ := HA.out.cell (by intro h; rw [h] at HL; have := HL.out; simp at this; omega)
   have hck := hc k (by rw [HL.out]; exact hlt)
   clear hc
   generalize hx : xs.getD k 0 = x at *
   have HX := zh hx; clear hx
   go_wp2_with (go_at_call 175; refine (with_any q hq _ _).mono ?_; rintro e w' ⟨rfl, rfl⟩)
   go_round
   case rel =>
        refine ⟨k + 1, MM.withN q x, by omega, by go_num, rfl, MM.withN_lt hq _, ?_⟩
        show MM.withN q x = _
        rw [take_snoc xs k (by rw [HL.out]; exact hlt), MM.ofN_snoc, ← HQ.out, HX.out]
   case measure => simp [intOf]; omega
  ·have e : k = n := by omega
   have hr : q = MM.ofN xs := by have := HQ.out; rw [List.take_of_length_le (by rw [HL.out]; omega)] at this; exact this
   have HR := zh hr; clear hr
   go_wp2
   go_ret
   rw [HR.out]
   exact ⟨rfl, rfl⟩
end
section
open Go.RowKit
end
section
open Go.RowKit
def cells (xs : List Int) : List Value := xs.map (Value.int .i64)
theorem each_any (s : Nat) (hs : s < 18446744073709551616) (f : FuncId) (cap : Array Value) (w : World)
 (hf : ∀ args w, (callFunc f args).run Tryz.prog w = .ok (.enter f args) w) (Inv : Nat → World → Prop) (Fin : World → Prop)
 (hT : ∀ j W, Inv j W → Tab W) (h0 : Inv 0 w) (hend : ∀ W, Inv (MM.els s).length W → Fin W)
 (H : ∀ j W, j < (MM.els s).length → Inv j W → Calls Tryz.prog f (#[.int .i64 ((MM.els s).getD j 0 : Nat)] ++ cap) W fun e W' => (e = .returned (.bool true) ∧ Inv (j + 1) W') ∨ (e = .returned (.bool false) ∧ Fin W')) :
 Calls Tryz.prog 149 #[.int .u64 s, .func (.func f) #[] cap] w fun e w' => e = .returned (.tuple #[]) ∧ Fin w' := by
 have heq : ∀ w : World, (binOp .eql 163 (.func (.func f) #[] cap) .nilFunc).run Tryz.prog w = .ok (.bool false) w := fun _ => by kernel_rfl
 have h64 := MM.els_length s
 have HT := zh hT; clear hT
 have HE := zh hend; clear hend
 have HH := zh H; clear H
 have H0 := zh h0; clear h0
 generalize hn : (MM.els s).length = n at *
 have HN := zh hn; clear hn
 go_enter Tryz.func149, Tryz.ntmps149
 go_wp2_with fail
 go_loopg [0] n (fun m sv wr => ∃ (i q : Nat), i + m = n ∧ sv = .int .u64 q ∧ q < 18446744073709551616 ∧ Hid (MM.els q = (MM.els s).drop i) ∧ Hid (Inv i wr))
 case atStart => exact ⟨0, s, by omega, rfl, hs, by show MM.els s = (MM.els s).drop 0; simp, H0.out⟩
 case round =>
  obtain ⟨i, q, him, rfl, hq, HQ, HI⟩ := hrel
  have HIM := zh him
  have hi : i ≤ n := by omega
  clear him
  by_cases hlt : i < n
  ·have hq0 : q ≠ 0 := by
        intro h0
        have := HQ.out
        rw [h0, MM.els_zero] at this
        have h2 := congrArg List.length this
        rw [List.length_drop, HN.out] at h2
        simp at h2
        omega
   have hqb : ((q : Int) != 0) = true := by simp; omega
   obtain ⟨t, ht, hq2, hq3, hq4⟩ := low_ex q hq hq0
   have hvt : (MM.els s).getD i 0 = t := by
        have h5 := HQ.out
        rw [hq3] at h5
        rw [List.getD_eq_getElem?_getD]
        have h6 := List.getElem?_drop (xs := MM.els s) (i := i) (j := 0)
        rw [← h5] at h6
        simp at h6
        rw [← h6]
        rfl
   have H2 := zh hq2; clear hq2
   have H3 := zh hq3; clear hq3
   have HC := HH.out i wr hlt HI.out
   rw [hvt] at HC
   have HC2 := zh HC; clear HC hvt
   go_wp2_with fail
   refine (zeros_any q t hq hq0 H2.out _ (HT.out i _ HI.out)).mono ?_
   rintro e w' ⟨rfl, rfl⟩
   go_wp2_with fail
   refine HC2.out.mono ?_
   rintro e w2 (⟨rfl, hI2⟩ | ⟨rfl, hF⟩)
   ·have HI2 := zh hI2; clear hI2
    go_wp2_with (go_at_call 180; refine (rest_any _ hq hq0 _).mono ?_; rintro e w' ⟨rfl, rfl⟩)
    go_roundg (gk - 1)
    case measure => have := HIM.out; omega
    case rel =>
     refine ⟨i + 1, q &&& (q - 1), by have := HIM.out; omega, rfl, hq4, ?_, HI2.out⟩
     show MM.els (q &&& (q - 1)) = _
     rw [← List.drop_drop, ← HQ.out, H3.out]
     rfl
   ·have HF := zh hF; clear hF
    go_wp2
    refine bodyPost_ret (results_none rfl _ _ _) rfl ⟨rfl, HF.out⟩
  ·have e : i = n := by omega
   subst e
   have hq0 : q = 0 := by
        have h5 := HQ.out
        rw [List.drop_of_length_le (by rw [HN.out]; omega)] at h5
        refine Decidable.byContradiction fun h => ?_
        obtain ⟨t, ht, hq2, hq3, hq4⟩ := low_ex q hq h
        rw [h5] at hq3
        cases hq3
   subst hq0
   have HF := zh (HE.out _ HI.out)
   go_wp2
   go_end0
   exact ⟨rfl, HF.out⟩
theorem new_ints (w : World) (xs : List Int) (e : TypeId) : Ints (w.alloc (.cells (xs.map (Value.int .i64)).toArray e)) (some ⟨w.heap.size, 0, none⟩) xs := fun _ =>
 ⟨w.heap.size, 0, rfl, by simp, fun j u hu => by
  rw [Nat.zero_add, cell_of_row _ w.heap.size j _ e (0, 0) (heap_alloc_new w _)]
  simpa using hu⟩
theorem Tab.below {w w' : World} (h : Tab w) (hb : Below w.heap.size w w') : Tab w' := fun j hj => by
 have h1 := h j hj
 have hlt : 0 < w.heap.size := World.block_lt_of_cell? w ⟨0, j, none⟩ h1
 exact (hb.cell (p := ⟨0, j, none⟩) hlt).trans h1
end
section
open Go.RowKit
end
end Go.Proofs.YtnfndapgcpdcpaaGreatDoor
