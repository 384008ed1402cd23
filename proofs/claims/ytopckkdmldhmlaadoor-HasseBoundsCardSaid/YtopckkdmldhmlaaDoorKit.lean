/-
  Words of our own for slices in memory: a slice that reads as a list of cells, a slice that the call itself made, one more element. Conditions: none.
-/
import Derived.Test.YtopckkdmldhmlaaDoorRows
import Derived.WalkKit
import Derived.WalkSpells
import Derived.WalkLawsBesides
import Derived.Lib.Hide
namespace Go.Proofs.YtopckkdmldhmlaaDoor
open Go.RowKit

theorem ret_eq {a b : Value} (h : a = b) : Ending.returned a = Ending.returned b := by rw [h]
theorem int_eq {k : IntKind} {a b : Int} (h : a = b) : Value.int k a = Value.int k b := by rw [h]
theorem bool_eq {a b : Bool} (h : a = b) : Value.bool a = Value.bool b := by rw [h]

/-- The cells from A on are these, and lie below block B. -/
def Sl (w : World) (B : Nat) (A : Option Addr) (cs : List Value) : Prop :=
  cs ≠ [] → ∃ b o, A = some ⟨b, o, none⟩ ∧ b < B ∧ ∀ j u, cs[j]? = some u → w.cell? ⟨b, o + j, none⟩ = some u
section
variable {w w' : World} {B B' n size c : Nat} {A : Option Addr} {cs : List Value}
theorem Sl.nil (w : World) (B : Nat) (A : Option Addr) : Sl w B A [] := fun h => absurd rfl h
theorem Sl.below (h : Sl w B A cs) (hb : Below B w w') : Sl w' B A cs := fun hne => by
  obtain ⟨b, o, hA, hlt, hc⟩ := h hne
  exact ⟨b, o, hA, hlt, fun j u hu => (hb.cell (p := ⟨b, o + j, none⟩) hlt).trans (hc j u hu)⟩
theorem Sl.mono (h : Sl w B A cs) (hB : B ≤ B') : Sl w B' A cs := fun hne => by
  obtain ⟨b, o, hA, hlt, hc⟩ := h hne
  exact ⟨b, o, hA, by omega, hc⟩
theorem Sl.at_ (h : Sl w B A cs) (hne : cs ≠ []) : ∃ b o, A = some ⟨b, o, none⟩ ∧ b < B ∧ ∀ j u, cs[j]? = some u → w.cell? ⟨b, o + j, none⟩ = some u := h hne
theorem Sl.of_own {base : Nat} {e : TypeId} (h : w.ownsRow base e size (.slice A n c) n cs) : Sl w w.heap.size A cs := fun hne => by
  rcases h.2 with ⟨_, hn⟩ | ⟨g, cap, cur, hv, _, hg, _, _, _, ht⟩
  · have := h.1
    rw [hn] at this
    exact absurd (List.eq_nil_of_length_eq_zero (by simpa using this)) hne
  · injection hv with hA _ _
    subst hA
    refine ⟨g, 0, rfl, (Array.getElem?_eq_some_iff.1 hg).1, fun j u hu => ?_⟩
    rw [Nat.zero_add, cell_of_row w g j cur e (0, 0) hg]
    rw [← ht, List.getElem?_take] at hu
    split at hu
    · simpa using hu
    · cases hu
/-- The shape of what the call owns. -/
theorem own_form {base : Nat} {e : TypeId} {v : Value} (h : w.ownsRow base e size v n cs) : ∃ A c, v = .slice A n c ∧ n ≤ c ∧ c ≤ maxLen := by
  rcases h.2 with ⟨rfl, rfl⟩ | ⟨g, cap, cur, rfl, _, _, h1, h2, _⟩
  · exact ⟨_, _, rfl, Nat.le_refl _, by simp [maxLen]⟩
  · exact ⟨_, _, rfl, h1, h2⟩
theorem own_below {base : Nat} {e : TypeId} {v : Value} {k : Nat} (h : w.ownsRow base e size v n cs) (hb : Below k w w') (hk : w.heap.size ≤ k) : w'.ownsRow base e size v n cs := by
  refine ⟨h.1, ?_⟩
  rcases h.2 with hn | ⟨g, cap, cur, hv, hg, hh, rest⟩
  · exact .inl hn
  · have hlt := (Array.getElem?_eq_some_iff.1 hh).1
    exact .inr ⟨g, cap, cur, hv, hg, (hb.block g (by omega)).trans hh, rest⟩
theorem own_mono {base base' : Nat} {e : TypeId} {v : Value} (h : w.ownsRow base e size v n cs) (hb : base' ≤ base) : w.ownsRow base' e size v n cs := by
  refine ⟨h.1, ?_⟩
  rcases h.2 with hn | ⟨g, cap, cur, hv, hg, rest⟩
  · exact .inl hn
  · exact .inr ⟨g, cap, cur, hv, by omega, rest⟩
end

theorem bdrewN {B : Nat} {a w : World} (h : Below B a w) (n : Nat) : Below B a (w.drewN n) := ⟨h.os, h.tape, h.output, h.size, h.block⟩

/-- One more element, of whatever size, onto a row of the call's own. -/
theorem wpList_more {P : Program} (w : World) {ops : Array Oper} {rest : List Oper} {o : Oper} {a : Act} {Q : Exit → Act → World → Prop} (hgd : o.guard = none) (s x : Operand) (t : TypeId)
    (ho : o.op = .call { callee := .builtin .append, args := #[s, x], argTypes := #[t, t] })
    (e : TypeId) (z : Value) (size bytes : Nat) (ht : P.underlying t = some (.slice e))
    (hinf : (P.info? e).map (fun i => (i.zero, i.size, i.bytes)) = some (some z, size, bytes)) (hzs : z.cells.size = size) (hsz : 0 < size) (hby : bytes ≤ 4096)
    (base : Nat) (A : Option Addr) (n c : Nat) (cs : List Value) (hs : a.eval s = .slice A n c) (hown : w.ownsRow base e size (.slice A n c) n cs)
    (g m k : Nat) (news : List Value) (hx : a.eval x = .slice (some ⟨g, 0, none⟩) m k) (hl : news.length = m * size) (hm : m ≤ 65536)
    (hnews : ∀ j u, news[j]? = some u → w.cell? ⟨g, j, none⟩ = some u) (h1 : ∀ u ∈ news, u.oneCell' = true)
    (hn : n ≤ 4294967296) (hbase : base ≤ w.heap.size)
    (h : ∀ A' c' w', w'.ownsRow base e size (.slice A' (n + m) c') (n + m) (cs ++ news) → Below base w w' → w.grownBy w' (Value.slice A n c).ownBlock → wpList P ops Q rest (a.put o.dst (.slice A' (n + m) c')) w') :
    wpList P ops Q (o :: rest) a w := by
  obtain ⟨i, hi, hz, hi1, hi2⟩ := info_parts hinf
  have hadd : ∀ j, (⟨g, 0, none⟩ : Addr).add j = ⟨g, j, none⟩ := fun j => by unfold Addr.add; split <;> simp_all
  have hb2 : (n + m) * bytes ≤ 140737488355328 := Nat.le_trans (Nat.mul_le_mul (show n + m ≤ 4295032832 by omega) hby) (by decide)
  refine wpList_append_own w hgd s x t ho base e i z size bytes ht hi hz hi1 hi2 hzs hsz (.slice A n c) n cs hs hown ⟨g, 0, none⟩ m k news hx hl
    (fun j u hu => by rw [hadd]; exact hnews j u hu) h1 (by simp only [maxLen]; omega) hb2 hbase ?_
  intro v' w' hown' hg _
  obtain ⟨A', c', rfl, _, _⟩ := own_form hown'
  exact h A' c' w' hown' ((Below.refl base w).grown hg hbase (fun k hk => (hown.lt k hk).1)) hg
theorem one_new (w : World) (x : Value) (e : TypeId) : ∀ j u, [x][j]? = some u → (w.alloc (.cells #[x] e)).cell? ⟨w.heap.size, j, none⟩ = some u := by
  intro j u hu
  cases j with
  | zero =>
    simp at hu
    subst hu
    rw [World.cell?_alloc_at _ _ _ _ rfl]; rfl
  | succ j => simp at hu
/-- A variable of the call's own: one block, one cell. -/
def Box (w : World) (g : Nat) (t : TypeId) (v : Value) : Prop := w.heap[g]? = some (.cells #[v] t (0, 0))
section
variable {w w' : World} {g : Nat} {t : TypeId} {v : Value}
theorem Box.lt (h : Box w g t v) : g < w.heap.size := (Array.getElem?_eq_some_iff.1 h).1
theorem Box.cell (h : Box w g t v) : w.cell? ⟨g, 0, none⟩ = some v := by rw [cell_of_row w g 0 _ t (0, 0) h]; rfl
theorem Box.free (h : Box w g t v) : w.frozen? ⟨g, 0, none⟩ = false := by
  unfold Box at h
  simp [World.frozen?, h]
theorem Box.new (w : World) (t : TypeId) (v : Value) : Box (w.alloc (.cells #[v] t)) w.heap.size t v := heap_alloc_new w _
theorem Box.alloc (h : Box w g t v) (o : Obj) : Box (w.alloc o) g t v := (heap_alloc_old w o h.lt).trans h
theorem Box.drewN (h : Box w g t v) (n : Nat) : Box (w.drewN n) g t v := h
theorem Box.below {B : Nat} (h : Box w g t v) (hb : Below B w w') (hg : g < B) : Box w' g t v := (hb.block g hg).trans h
theorem Box.grown {row : Option Nat} (h : Box w g t v) (hb : w.grownBy w' row) (hg : row ≠ some g) : Box w' g t v := (hb.block g h.lt (fun e => hg e.symm)).trans h
theorem Box.put (h : Box w g t v) (u : Value) : Box (w.setCell ⟨g, 0, none⟩ u) g t u := by
  unfold Box at h ⊢
  simp [World.setCell, Array.getElem?_modify, h]
theorem Box.far (h : Box w g t v) {p : Addr} (hp : p.block ≠ g) (u : Value) : Box (w.setCell p u) g t v := by
  unfold Box at h ⊢
  simp only [World.setCell, Array.getElem?_modify, if_neg hp]
  exact h
theorem own_ne {base size n : Nat} {e : TypeId} {x : Value} {cs : List Value} (h : w.ownsRow base e size x n cs) (hb : Box w g t v) (he : e ≠ t) : x.ownBlock ≠ some g := by
  rcases h.2 with ⟨rfl, _⟩ | ⟨g', cap, cur, rfl, _, hh, _⟩
  · simp [Value.ownBlock]
  · intro hx
    have hx' : g' = g := by simpa [Value.ownBlock] using hx
    subst hx'
    have hb' : w.heap[g']? = some (.cells #[v] t (0, 0)) := hb
    rw [hh] at hb'
    simp only [Option.some.injEq, Obj.cells.injEq] at hb'
    exact he hb'.2.1
theorem own_put {base size n : Nat} {e : TypeId} {x : Value} {cs : List Value} (h : w.ownsRow base e size x n cs) (hb : Box w g t v) (he : e ≠ t) (u : Value) : (w.setCell ⟨g, 0, none⟩ u).ownsRow base e size x n cs := by
  have hne := own_ne h hb he
  refine ⟨h.1, ?_⟩
  rcases h.2 with hn | ⟨g', cap, cur, rfl, hg, hh, rest⟩
  · exact .inl hn
  · refine .inr ⟨g', cap, cur, rfl, hg, ?_, rest⟩
    have : g ≠ g' := fun e => hne (by simp [Value.ownBlock, e])
    simp only [World.setCell, Array.getElem?_modify, if_neg this]
    exact hh
end
end Go.Proofs.YtopckkdmldhmlaaDoor
