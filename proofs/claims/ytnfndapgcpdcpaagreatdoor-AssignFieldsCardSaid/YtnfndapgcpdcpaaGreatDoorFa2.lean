/- Texts that all the claims need. Conditions: those that each states. -/
import Derived.Deep.MidRow
import Derived.Maps.OwnSet
import Derived.Test.YtnfndapgcpdcpaaGreatDoorFa1
set_option linter.unusedSimpArgs false
set_option linter.unusedVariables false
set_option maxRecDepth 100000
set_option maxHeartbeats 40000000
namespace Go.Proofs.YtnfndapgcpdcpaaGreatDoor
section
open Go.RowKit Go.Maps
theorem flat_at {α : Type} (g : α → List Value) (k : Nat) (hk : ∀ x, (g x).length = k) (d : α) : ∀ (xs : List α) (i j : Nat), i < xs.length → j < k → (xs.flatMap g)[i * k + j]? = (g (xs.getD i d))[j]?
 | [], i, j, hi, _ => by simp at hi
 | x :: xs, 0, j, _, hj => by
   rw [List.flatMap_cons, List.getElem?_append_left (by rw [hk]; omega)]
   simp
 | x :: xs, i + 1, j, hi, hj => by
   rw [List.flatMap_cons, List.getElem?_append_right (by rw [hk, Nat.add_mul]; omega), hk, show (i + 1) * k + j - k = i * k + j by rw [Nat.add_mul]; omega]
   exact flat_at g k hk d xs i j (by simpa using hi) hj
def Ls {α : Type} (g : α → List Value) (w : World) (A : Option Addr) (xs : List α) : Prop := Sl w w.heap.size A (xs.flatMap g)
section
variable {α : Type} {g : α → List Value} {w w' : World} {A : Option Addr} {xs : List α}
theorem Ls.below (h : Ls g w A xs) (hb : Below w.heap.size w w') : Ls g w' A xs := (Sl.below h hb).mono hb.size
theorem Ls.nil : Ls g w A [] := Sl.nil _ _ _
theorem Ls.at (h : Ls g w A xs) (k : Nat) (hk : ∀ x, (g x).length = k) (hk0 : 0 < k) (d : α) {i : Nat} (hi : i < xs.length) : ∃ b o, A = some ⟨b, o, none⟩ ∧ b < w.heap.size ∧ ∀ i, i < xs.length → w.rangeAt b (o + i * k) (g (xs.getD i d)) := by
 have h0 := flat_at g k hk d xs i 0 hi hk0
 obtain ⟨b, o, hA, hb, hc⟩ := Sl.at_ h (fun e => by
  rw [List.getElem?_eq_getElem (i := 0) (l := g (xs.getD i d)) (by rw [hk]; exact hk0), e] at h0
  simp at h0)
 refine ⟨b, o, hA, hb, fun i hi j u hu => ?_⟩
 have hj : j < k := by
  have := (List.getElem?_eq_some_iff.1 hu).1
  rwa [hk] at this
 rw [Nat.add_assoc]
 exact hc _ _ ((flat_at g k hk d xs i j hi hj).trans hu)
end
theorem getD_mem' {α : Type} {xs : List α} {i : Nat} {d : α} (hi : i < xs.length) : xs.getD i d ∈ xs := by
 rw [List.getD_eq_getElem?_getD, List.getElem?_eq_getElem hi]
 exact List.getElem_mem hi
theorem run_makeMapTo (n : Int) (w : World) : (Instr.makeMap 154 (some (.int .i64 n))).run Tryz.prog w = .ok (.map (some w.heap.size)) (w.alloc (.map #[] 0)) := by
 simp [Instr.makeMap, asInt, asIntOf, run_underlying Tryz.underlying154, Result.andThen]
def FMap (W : World) (B n : Nat) (f : ByteArray → Int) : Prop :=
 ∃ D : DataW Unit, W.ownsMap Tryz.prog 9 (plainElem Tryz.prog 3) B n D ∧ IsMap D ∧ ∀ s : ByteArray, s.size ≤ maxLen → Maps.has D (.string s.data.toList) = decide (0 ≤ f s) ∧ D.atKey (.string s.data.toList) (.lit (.int .i64 0)) = .lit (.int .i64 (if 0 ≤ f s then f s else 0))
section
variable {W W' : World} {B n : Nat} {f : ByteArray → Int}
theorem FMap.kept {row : Option Nat} (h : FMap W B n f) (hg : W.grownBy W' row) (hne : some B ≠ row) : FMap W' B n f := by
 obtain ⟨D, h1, h2, h3⟩ := h
 exact ⟨D, h1.kept hg hne, h2, h3⟩
theorem FMap.drewN (h : FMap W B n f) (m : Nat) : FMap (W.drewN m) B n f := h
theorem FMap.drew (h : FMap W B n f) : FMap W.drew B n f := h
theorem FMap.same (h : FMap W B n f) (hb : W'.heap[B]? = W.heap[B]?) : FMap W' B n f := by
 obtain ⟨D, ⟨es, clock, h1, F, hs, hD⟩, h2, h3⟩ := h
 exact ⟨D, ⟨es, clock, hb.trans h1, F, hs, hD⟩, h2, h3⟩
theorem FMap.lt (h : FMap W B n f) : B < W.heap.size := by
 obtain ⟨D, h1, _⟩ := h
 exact h1.lt
theorem FMap.below {b : Nat} (h : FMap W B n f) (hb : Below b W W') (hB : B < b) : FMap W' B n f := h.same (hb.block B hB)
theorem FMap.new (w : World) : FMap (w.alloc (.map #[] 0)) w.heap.size 0 (fun _ => -1) :=
 ⟨.map [], World.ownsMap_made _ _ _ _, isMap_empty, fun _ _ => ⟨rfl, rfl⟩⟩
theorem FMap.ok (h : FMap W B n f) {s : ByteArray} (hs : s.size ≤ maxLen) : (Instr.lookup 154 (.map (some B)) (.string s) true).run Tryz.prog W = .ok (.tuple #[.int .i64 (if 0 ≤ f s then f s else 0), .bool (decide (0 ≤ f s))]) W := by
 obtain ⟨D, h1, _, h3⟩ := h
 obtain ⟨v, ps, hrun, hv⟩ := h1.look_ok lawStr Tryz.underlying154 (zeroInt _) (plainElem_int Tryz.underlying3 (by decide)) (WideMaps.keyOf_string_mk Tryz.underlying9 hs)
 obtain ⟨c, rfl, hc, _⟩ := plainElem_int_inv Tryz.underlying3 hv
 simp only [Prod.mk.injEq] at hc
 have h4 := (h3 s hs).2
 rw [hc.1] at h4
 simp only [DataW.lit.injEq, Lit.int.injEq, true_and] at h4
 rw [(h3 s hs).1, h4] at hrun
 exact hrun
theorem FMap.look (h : FMap W B n f) {s : ByteArray} (hs : s.size ≤ maxLen) : (Instr.lookup 154 (.map (some B)) (.string s) false).run Tryz.prog W = .ok (.int .i64 (if 0 ≤ f s then f s else 0)) W := by
 obtain ⟨D, h1, _, h3⟩ := h
 obtain ⟨c, hrun, hat, _⟩ := h1.lookup_int lawStr Tryz.underlying154 Tryz.underlying3 (zeroInt _) (WideMaps.keyOf_string_mk Tryz.underlying9 hs)
 rw [(h3 s hs).2] at hat
 simp only [DataW.lit.injEq, Lit.int.injEq, true_and] at hat
 rw [hat]
 exact hrun
end
end
end Go.Proofs.YtnfndapgcpdcpaaGreatDoor
