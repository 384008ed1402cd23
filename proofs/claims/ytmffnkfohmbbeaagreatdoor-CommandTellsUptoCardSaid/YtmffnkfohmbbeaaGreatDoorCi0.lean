/- Texts that all the claims need. Conditions: those that each states. -/
import Derived.Test.YtmffnkfohmbbeaaGreatDoorRows
import Derived.BigQuiet
import Derived.Deep.LoopGhost
import Derived.Deep.QuietTactic
import Derived.Laws.Bits64b
import Derived.Laws.BitsAllLaws
import Derived.Lib.Hide
import Derived.Lib.LaidTab
import Derived.Lib.TrailingZeros
import Derived.LoopTactic
import Derived.WalkKit
import Derived.WalkLawsBesides
import Derived.WalkSpells
set_option linter.unusedSimpArgs false
set_option linter.unusedVariables false
set_option maxRecDepth 100000
set_option maxHeartbeats 40000000
namespace Go.Proofs.YtmffnkfohmbbeaaGreatDoor
theorem zA1 {α : Type _} {xs : List α} {i : Nat} : xs.toArray[i]? = xs[i]? := List.getElem?_toArray
theorem zA2 {α : Type _} {a : α} {i : Nat} {l : List α} : (a :: l)[i + 1]? = l[i]? := List.getElem?_cons_succ
theorem zA3 {α : Type _} {a : α} {l : List α} : (a :: l)[0]? = some a := List.getElem?_cons_zero
theorem zA4 {α : Type _} (l : List α) (i : Nat) (a : α) : l.toArray.setIfInBounds i a = (l.set i a).toArray := List.setIfInBounds_toArray l i a
theorem zA5 {α : Type _} {x : α} {xs : List α} {a : α} : (x :: xs).set 0 a = a :: xs := List.set_cons_zero
theorem zA6 {α : Type _} {x : α} {xs : List α} {i : Nat} {a : α} : (x :: xs).set (i + 1) a = x :: xs.set i a := List.set_cons_succ
theorem zA7 {α : Type _} {xs ys : List α} : (xs ++ ys).length = xs.length + ys.length := List.length_append
theorem zA8 {α : Type _} {a : α} {xs : List α} : (a :: xs).length = xs.length + 1 := List.length_cons
theorem zA9 {α : Type _} : ([] : List α).length = 0 := List.length_nil
theorem zO {α : Type _} {l r : List α} {i : Nat} {o : α} (h : l.drop i = o :: r) : l.toArray[i]? = some o := by
 rw [List.getElem?_toArray, ← List.head?_drop, h]; rfl
theorem zh {p : Prop} (h : p) : RowKit.Hid p := h
theorem zL (n : Nat) : n ≤ n := Nat.le_refl n
theorem zB (B : Nat) (w : World) : RowKit.Below B w w := RowKit.Below.refl B w
theorem zT {n m k : Nat} : n < m → m ≤ k → n < k := Nat.lt_of_lt_of_le
theorem zM {n m k : Nat} : n ≤ m → m ≤ k → n ≤ k := Nat.le_trans
theorem zS (n : Nat) : n < n.succ := Nat.lt_succ_self n
theorem zF {p : Prop} [h : Decidable p] : ¬ p → decide p = false := decide_eq_false
theorem zE {p : Prop} [h : Decidable p] : p → decide p = true := decide_eq_true
namespace CM
end CM
namespace DT
end DT
namespace FP
end FP
namespace LX
end LX
namespace MM
end MM
namespace NM
end NM
namespace RG
end RG
namespace RM
end RM
namespace SP
end SP
namespace TM
end TM
namespace TR
end TR
section
open Go.RowKit
theorem ret_eq {a b : Value} (h : a = b) : Ending.returned a = Ending.returned b := by rw [h]
theorem int_eq {k : IntKind} {a b : Int} (h : a = b) : Value.int k a = Value.int k b := by rw [h]
theorem bool_eq {a b : Bool} (h : a = b) : Value.bool a = Value.bool b := by rw [h]
def Sl (w : World) (B : Nat) (A : Option Addr) (cs : List Value) : Prop :=
 cs ≠ [] → ∃ b o, A = some ⟨b, o, none⟩ ∧ b < B ∧ ∀ j u, cs[j]? = some u → w.cell? ⟨b, o + j, none⟩ = some u
section
variable {w w' : World} {B B' n size c : Nat} {A : Option Addr} {cs : List Value}
theorem Sl.nil (w : World) (B : Nat) (A : Option Addr) : Sl w B A [] := fun h => absurd rfl h
theorem Sl.below (h : Sl w B A cs) (hb : Below B w w') : Sl w' B A cs := fun hne => by
 obtain ⟨b, o, hA, hlt, hc⟩ := h hne
 exact ⟨b, o, hA, hlt, fun j u hu => (hb.cell (p := ⟨b, o + j, none⟩) hlt).trans (hc j u hu)⟩
theorem Sl.mono (h : Sl w B A cs) (hB : B ≤ B') : Sl w B' A cs := fun hne => by
 obtain ⟨b, o, hA, hlt, hc⟩ := h hne
 exact ⟨b, o, hA, by omega, hc⟩
theorem Sl.at_ (h : Sl w B A cs) (hne : cs ≠ []) : ∃ b o, A = some ⟨b, o, none⟩ ∧ b < B ∧ ∀ j u, cs[j]? = some u → w.cell? ⟨b, o + j, none⟩ = some u := h hne
theorem Sl.of_own {base : Nat} {e : TypeId} (h : w.ownsRow base e size (.slice A n c) n cs) : Sl w w.heap.size A cs := fun hne => by
 rcases h.2 with ⟨_, hn⟩ | ⟨g, cap, cur, hv, _, hg, _, _, _, ht⟩
 ·have := h.1
  rw [hn] at this
  exact absurd (List.eq_nil_of_length_eq_zero (by simpa using this)) hne
 ·injection hv with hA _ _
  subst hA
  refine ⟨g, 0, rfl, (Array.getElem?_eq_some_iff.1 hg).1, fun j u hu => ?_⟩
  rw [Nat.zero_add, cell_of_row w g j cur e (0, 0) hg]
  rw [← ht, List.getElem?_take] at hu
  split at hu
  ·simpa using hu
  ·cases hu
theorem own_form {base : Nat} {e : TypeId} {v : Value} (h : w.ownsRow base e size v n cs) : ∃ A c, v = .slice A n c ∧ n ≤ c ∧ c ≤ maxLen := by
 rcases h.2 with ⟨rfl, rfl⟩ | ⟨g, cap, cur, rfl, _, _, h1, h2, _⟩
 ·exact ⟨_, _, rfl, zL _, by simp [maxLen]⟩
 ·exact ⟨_, _, rfl, h1, h2⟩
theorem own_below {base : Nat} {e : TypeId} {v : Value} {k : Nat} (h : w.ownsRow base e size v n cs) (hb : Below k w w') (hk : w.heap.size ≤ k) : w'.ownsRow base e size v n cs := by
 refine ⟨h.1, ?_⟩
 rcases h.2 with hn | ⟨g, cap, cur, hv, hg, hh, rest⟩
 ·exact .inl hn
 ·have hlt := (Array.getElem?_eq_some_iff.1 hh).1
  exact .inr ⟨g, cap, cur, hv, hg, (hb.block g (by omega)).trans hh, rest⟩
theorem own_mono {base base' : Nat} {e : TypeId} {v : Value} (h : w.ownsRow base e size v n cs) (hb : base' ≤ base) : w.ownsRow base' e size v n cs := by
 refine ⟨h.1, ?_⟩
 rcases h.2 with hn | ⟨g, cap, cur, hv, hg, rest⟩
 ·exact .inl hn
 ·exact .inr ⟨g, cap, cur, hv, by omega, rest⟩
end
theorem bdrewN {B : Nat} {a w : World} (h : Below B a w) (n : Nat) : Below B a (w.drewN n) := ⟨h.os, h.tape, h.output, h.size, h.block⟩
theorem wpList_more {P : Program} (w : World) {ops : Array Oper} {rest : List Oper} {o : Oper} {a : Act} {Q : Exit → Act → World → Prop} (hgd : o.guard = none) (s x : Operand) (t : TypeId)
 (ho : o.op = .call { callee := .builtin .append, args := #[s, x], argTypes := #[t, t] })
 (e : TypeId) (z : Value) (size bytes : Nat) (ht : P.underlying t = some (.slice e))
 (hinf : (P.info? e).map (fun i => (i.zero, i.size, i.bytes)) = some (some z, size, bytes)) (hzs : z.cells.size = size) (hsz : 0 < size) (hby : bytes ≤ 4096)
 (base : Nat) (A : Option Addr) (n c : Nat) (cs : List Value) (hs : a.eval s = .slice A n c) (hown : w.ownsRow base e size (.slice A n c) n cs)
 (g m k : Nat) (news : List Value) (hx : a.eval x = .slice (some ⟨g, 0, none⟩) m k) (hl : news.length = m * size) (hm : m ≤ 65536)
 (hnews : ∀ j u, news[j]? = some u → w.cell? ⟨g, j, none⟩ = some u) (h1 : ∀ u ∈ news, u.oneCell' = true)
 (hn : n ≤ 4294967296) (hbase : base ≤ w.heap.size)
 (h : ∀ A' c' w', w'.ownsRow base e size (.slice A' (n + m) c') (n + m) (cs ++ news) → Below base w w' → w.grownBy w' (Value.slice A n c).ownBlock → wpList P ops Q rest (a.put o.dst (.slice A' (n + m) c')) w') :
 wpList P ops Q (o :: rest) a w := by
 obtain ⟨i, hi, hz, hi1, hi2⟩ := info_parts hinf
 have hadd : ∀ j, (⟨g, 0, none⟩ : Addr).add j = ⟨g, j, none⟩ := fun j => by unfold Addr.add; split <;> simp_all
 have hb2 : (n + m) * bytes ≤ 140737488355328 := zM (Nat.mul_le_mul (show n + m ≤ 4295032832 by omega) hby) (by decide)
 refine wpList_append_own w hgd s x t ho base e i z size bytes ht hi hz hi1 hi2 hzs hsz (.slice A n c) n cs hs hown ⟨g, 0, none⟩ m k news hx hl
  (fun j u hu => by rw [hadd]; exact hnews j u hu) h1 (by simp only [maxLen]; omega) hb2 hbase ?_
 intro v' w' hown' hg _
 obtain ⟨A', c', rfl, _, _⟩ := own_form hown'
 exact h A' c' w' hown' ((zB base w).grown hg hbase (fun k hk => (hown.lt k hk).1)) hg
def Box (w : World) (g : Nat) (t : TypeId) (v : Value) : Prop := w.heap[g]? = some (.cells #[v] t (0, 0))
section
variable {w w' : World} {g : Nat} {t : TypeId} {v : Value}
theorem Box.lt (h : Box w g t v) : g < w.heap.size := (Array.getElem?_eq_some_iff.1 h).1
theorem Box.cell (h : Box w g t v) : w.cell? ⟨g, 0, none⟩ = some v := by rw [cell_of_row w g 0 _ t (0, 0) h]; rfl
theorem Box.free (h : Box w g t v) : w.frozen? ⟨g, 0, none⟩ = false := by
 unfold Box at h
 simp [World.frozen?, h]
theorem Box.new (w : World) (t : TypeId) (v : Value) : Box (w.alloc (.cells #[v] t)) w.heap.size t v := heap_alloc_new w _
theorem Box.alloc (h : Box w g t v) (o : Obj) : Box (w.alloc o) g t v := (heap_alloc_old w o h.lt).trans h
theorem Box.drewN (h : Box w g t v) (n : Nat) : Box (w.drewN n) g t v := h
theorem Box.below {B : Nat} (h : Box w g t v) (hb : Below B w w') (hg : g < B) : Box w' g t v := (hb.block g hg).trans h
theorem Box.grown {row : Option Nat} (h : Box w g t v) (hb : w.grownBy w' row) (hg : row ≠ some g) : Box w' g t v := (hb.block g h.lt (fun e => hg e.symm)).trans h
theorem Box.put (h : Box w g t v) (u : Value) : Box (w.setCell ⟨g, 0, none⟩ u) g t u := by
 unfold Box at h ⊢
 simp [World.setCell, Array.getElem?_modify, h]
theorem Box.far (h : Box w g t v) {p : Addr} (hp : p.block ≠ g) (u : Value) : Box (w.setCell p u) g t v := by
 unfold Box at h ⊢
 simp only [World.setCell, Array.getElem?_modify, if_neg hp]
 exact h
end
end
section
namespace MM
def ofP (p : Nat → Bool) : Nat → Nat
 | 0 => 0
 | k + 1 => ofP p k + if p k then 2 ^ k else 0
theorem ofP_lt (p : Nat → Bool) : ∀ k, ofP p k < 2 ^ k
 | 0 => by simp [ofP]
 | k + 1 => by
   have := ofP_lt p k
   unfold ofP
   rw [Nat.pow_succ]
   split <;> omega
def pc : Nat → Nat → Nat
 | 0, _ => 0
 | k + 1, x => x % 2 + pc k (x / 2)
def ds (B : Nat) : Nat → Nat → Nat
 | 0, _ => 0
 | k + 1, y => y % B + ds B k (y / B)
def mk (B d : Nat) : Nat → Nat
 | 0 => 0
 | k + 1 => B * mk B d k + d
end MM
end
section
open Go.RowKit
end
section
open Go.RowKit
def Ints (w : World) (A : Option Addr) (xs : List Int) : Prop := Sl w w.heap.size A (xs.map (Value.int .i64))
theorem Ints.below {w w' : World} {A : Option Addr} {xs : List Int} (h : Ints w A xs) (hb : Below w.heap.size w w') : Ints w' A xs := (Sl.below h hb).mono hb.size
theorem Ints.cell {w : World} {A : Option Addr} {xs : List Int} (h : Ints w A xs) (hne : xs ≠ []) : ∃ b o, A = some ⟨b, o, none⟩ ∧ ∀ j, j < xs.length → w.cell? ⟨b, o + j, none⟩ = some (.int .i64 (xs.getD j 0)) := by
 obtain ⟨b, o, hA, _, hc⟩ := Sl.at_ h (by simpa using hne)
 exact ⟨b, o, hA, fun j hj => hc j _ (by rw [List.getElem?_map, List.getElem?_eq_getElem hj, List.getD_eq_getElem?_getD, List.getElem?_eq_getElem hj]; rfl)⟩
end
section
open Go.RowKit
end
section
open Go.RowKit
def ei (l : List Nat) : List Int := l.map Int.ofNat
def cells (xs : List Int) : List Value := xs.map (Value.int .i64)
theorem ei_snoc (l : List Nat) (k : Nat) : ei (l ++ [k]) = ei l ++ [(k : Int)] := by simp [ei]
theorem ei_take (l : List Nat) (j : Nat) (h : j < l.length) : ei (l.take (j + 1)) = ei (l.take j) ++ [((l.getD j 0 : Nat) : Int)] := by
 rw [List.take_succ_eq_append_getElem h, ei_snoc, List.getD_eq_getElem?_getD, List.getElem?_eq_getElem h]; rfl
end
section
open Go.RowKit
end
end Go.Proofs.YtmffnkfohmbbeaaGreatDoor
