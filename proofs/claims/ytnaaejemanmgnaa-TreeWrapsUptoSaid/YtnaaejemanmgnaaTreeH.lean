/-
  What the program's Read of trees keeps in memory: the slice of open brackets, and their Kids, each in a block of its own. Conditions: none.
-/
import Derived.Test.YtnaaejemanmgnaaTreeG
import Derived.ArgAppend
import Derived.Deep.MidRow
namespace Go.Proofs.Ytnaaejemanmgnaa
open Go.RowKit LX TR

/-- The heap behind cells that are set one by one. -/
theorem setCells_row {g : Nat} {t : TypeId} : ∀ (ys : List Value) (o : Nat) (cs : Array Value) (w : World), RowAt w g t cs → ∃ ds : Array Value, RowAt (w.setCells g o ys) g t ds ∧ ds.size = cs.size ∧ (∀ j, (j < o ∨ o + ys.length ≤ j) → ds[j]? = cs[j]?) ∧ (∀ j, j < ys.length → o + j < cs.size → ds[o + j]? = ys[j]?)
  | [], o, cs, w, h => ⟨cs, h, rfl, fun _ _ => rfl, fun j hj => by simp at hj⟩
  | y :: ys, o, cs, w, h => by
    obtain ⟨ds, h1, h2, h3, h4⟩ := setCells_row ys (o + 1) _ _ (h.put o y)
    refine ⟨ds, h1, by rw [h2, Array.size_setIfInBounds], fun j hj => ?_, fun j hj hjs => ?_⟩
    · rw [h3 j (by simp only [List.length_cons] at hj; omega), Array.getElem?_setIfInBounds_ne (by simp only [List.length_cons] at hj; omega)]
    · cases j with
      | zero =>
        rw [Nat.add_zero, h3 o (by omega), Array.getElem?_setIfInBounds_self_of_lt (by omega)]
        simp
      | succ j =>
        rw [show o + (j + 1) = o + 1 + j by omega, h4 j (by simpa using hj) (by rw [Array.size_setIfInBounds]; omega)]
        simp
theorem setCells_size (w : World) (g o : Nat) (ys : List Value) : (w.setCells g o ys).heap.size = w.heap.size := by
  induction ys generalizing w o with
  | nil => rfl
  | cons y ys ih => rw [World.setCells, ih]; simp [World.setCell]
theorem setCells_other (w : World) (g o : Nat) (ys : List Value) (k : Nat) (hk : k ≠ g) : (w.setCells g o ys).heap[k]? = w.heap[k]? := by
  induction ys generalizing w o with
  | nil => rfl
  | cons y ys ih =>
    rw [World.setCells, ih]
    simp only [World.setCell, Array.getElem?_modify, if_neg (fun e => hk (Eq.symm e))]
theorem setCells_env (w : World) (g o : Nat) (ys : List Value) : (w.setCells g o ys).os = w.os ∧ (w.setCells g o ys).tape = w.tape ∧ (w.setCells g o ys).output = w.output := by
  induction ys generalizing w o with
  | nil => exact ⟨rfl, rfl, rfl⟩
  | cons y ys ih => rw [World.setCells]; exact ih _ _
theorem setCells_below {B g : Nat} {w : World} (hB : B ≤ g) (o : Nat) (ys : List Value) : Below B w (w.setCells g o ys) :=
  ⟨(setCells_env w g o ys).1, (setCells_env w g o ys).2.1, (setCells_env w g o ys).2.2, by rw [setCells_size]; exact Nat.le_refl _, fun k hk => setCells_other w g o ys k (by omega)⟩
/-- Only one block is another, and new ones are there. -/
structure But (g : Nat) (w w' : World) : Prop where
  size : w.heap.size ≤ w'.heap.size
  block : ∀ k, k < w.heap.size → k ≠ g → w'.heap[k]? = w.heap[k]?
theorem But.setCell (w : World) (g o : Nat) (u : Value) : But g w (w.setCell ⟨g, o, none⟩ u) := ⟨by simp [World.setCell], fun k _ hk => by simp only [World.setCell, Array.getElem?_modify, if_neg (fun e => hk (Eq.symm e))]⟩
theorem But.setCells (w : World) (g o : Nat) (ys : List Value) : But g w (w.setCells g o ys) := ⟨by rw [setCells_size]; exact Nat.le_refl _, fun k _ hk => setCells_other w g o ys k hk⟩
theorem But.below {w w' : World} (g : Nat) (h : Below w.heap.size w w') : But g w w' := ⟨h.size, fun k hk _ => h.block k hk⟩
theorem But.grown {w w' : World} {g : Nat} {v : Value} (h : w.grownBy w' v.ownBlock) (hv : ∀ b, v.ownBlock = some b → b = g) : But g w w' := ⟨h.size, fun k hk hne => h.block k hk (fun e => hne (hv k e.symm))⟩
theorem But.trans {w w' w2 : World} {g : Nat} (h : But g w w') (h2 : But g w' w2) : But g w w2 := ⟨Nat.le_trans h.size h2.size, fun k hk hne => (h2.block k (Nat.lt_of_lt_of_le hk h.size) hne).trans (h.block k hk hne)⟩

/-- The slice of open brackets: it may be cut off from what lies behind it. -/
def Stak (w : World) (B g n c : Nat) (cs : List Value) : Prop := B ≤ g ∧ n ≤ c ∧ cs.length = n * 5 ∧ ∃ cur : Array Value, RowAt w g 38 cur ∧ c * 5 ≤ cur.size ∧ cur.toList.take (n * 5) = cs
section
variable {w w' : World} {B g n c : Nat} {cs : List Value}
theorem Stak.lt (h : Stak w B g n c cs) : g < w.heap.size := by obtain ⟨_, _, _, cur, hr, _⟩ := h; exact hr.lt
theorem Stak.cell (h : Stak w B g n c cs) {j : Nat} {u : Value} (hu : cs[j]? = some u) : w.cell? ⟨g, j, none⟩ = some u := by
  obtain ⟨_, _, hl, cur, hr, _, ht⟩ := h
  rw [hr.cell j]
  rw [← ht, List.getElem?_take] at hu
  split at hu
  · simpa using hu
  · cases hu
theorem Stak.free (h : Stak w B g n c cs) (o : Nat) : w.frozen? ⟨g, o, none⟩ = false := by obtain ⟨_, _, _, cur, hr, _⟩ := h; exact hr.free o
theorem Stak.same (h : Stak w B g n c cs) (hb : w'.heap[g]? = w.heap[g]?) : Stak w' B g n c cs := by
  obtain ⟨h1, h2, h3, cur, hr, h4, h5⟩ := h
  exact ⟨h1, h2, h3, cur, hb.trans hr, h4, h5⟩
theorem Stak.below (h : Stak w B g n c cs) (hb : Below w.heap.size w w') : Stak w' B g n c cs := h.same (hb.block g h.lt)
theorem Stak.cut (h : Stak w B g n c cs) (m : Nat) (hm : m ≤ n) : Stak w B g m m (cs.take (m * 5)) := by
  obtain ⟨h1, h2, h3, cur, hr, h4, h5⟩ := h
  refine ⟨h1, Nat.le_refl _, by rw [List.length_take]; omega, cur, hr, by omega, ?_⟩
  rw [← h5, List.take_take, Nat.min_eq_left (by omega)]
theorem Stak.set (h : Stak w B g n c cs) (j : Nat) (u : Value) : Stak (w.setCell ⟨g, j, none⟩ u) B g n c (cs.set j u) := by
  obtain ⟨h1, h2, h3, cur, hr, h4, h5⟩ := h
  refine ⟨h1, h2, by rw [List.length_set]; exact h3, _, hr.put j u, by rw [Array.size_setIfInBounds]; exact h4, ?_⟩
  rw [Array.toList_setIfInBounds, ← h5, List.take_set]
theorem Stak.of_own (h : w.ownsRow B 38 5 (.slice (some ⟨g, 0, none⟩) n c) n cs) : Stak w B g n c cs := by
  rcases h.2 with ⟨hv, _⟩ | ⟨g', cap, cur, hv, hg, hh, h1, h2, h3, h4⟩
  · cases hv
  · injection hv with e1 _ e3
    injection e1 with e1
    injection e1 with e1 _ _
    subst e1 e3
    exact ⟨hg, h1, h.1, cur, hh, by omega, h4⟩
end
/-- One more bracket. -/
theorem wpList_push {P : Program} {ops : Array Oper} {rest : List Oper} {o : Oper} {a : Act} {w : World} {Q : Exit → Act → World → Prop} (hgd : o.guard = none) (s x : Operand) (t : TypeId)
    (ho : o.op = .call { callee := .builtin .append, args := #[s, x], argTypes := #[t, t] })
    (z : Value) (ht : P.underlying t = some (.slice 38))
    (hinf : (P.info? 38).map (fun i => (i.zero, i.size, i.bytes)) = some (some z, 5, 64)) (hzs : z.cells.size = 5)
    (B g n c : Nat) (cs : List Value) (hs : a.eval s = .slice (some ⟨g, 0, none⟩) n c) (hst : Stak w B g n c cs)
    (G : Nat) (news : List Value) (hx : a.eval x = .slice (some ⟨G, 0, none⟩) 1 1) (hl : news.length = 5)
    (hnews : ∀ j u, news[j]? = some u → w.cell? ⟨G, j, none⟩ = some u) (h1 : ∀ u ∈ news, u.oneCell' = true) (hn : n ≤ 4294967296) (hB : B ≤ w.heap.size)
    (h : ∀ g' c' w', Stak w' B g' (n + 1) c' (cs ++ news) → (g' = g ∨ w.heap.size ≤ g') → But g w w' → Below B w w' → wpList P ops Q rest (a.put o.dst (.slice (some ⟨g', 0, none⟩) (n + 1) c')) w') :
    wpList P ops Q (o :: rest) a w := by
  obtain ⟨i, hi, hz, hi1, hi2⟩ := info_parts hinf
  obtain ⟨hBg, hnc, hcl, cur, hr, hcc, htk⟩ := hst
  have hst : Stak w B g n c cs := ⟨hBg, hnc, hcl, cur, hr, hcc, htk⟩
  have hadd : ∀ j, (⟨G, 0, none⟩ : Addr).add j = ⟨G, j, none⟩ := fun j => by unfold Addr.add; split <;> simp_all
  refine wpList_append_arg w hgd s x t ho 38 i z 5 64 ht hi hz hi1 hi2 hzs (by decide) g 0 n c cs hs hcl (fun j u hu => by rw [Nat.zero_add]; exact hst.cell hu) ⟨G, 0, none⟩ 1 1 news hx hl
    (fun j u hu => by rw [hadd]; exact hnews j u hu) h1 (fun hc j hj => ?_) (by simp only [maxLen]; omega) (by omega) (fun hc => ?_) (fun _ v' w' hown hg => ?_)
  · rw [Nat.zero_add]
    refine ⟨?_, hst.free _⟩
    rw [hr.cell, Array.getElem?_eq_getElem (by omega)]; rfl
  · rw [Nat.zero_add]
    obtain ⟨ds, d1, d2, d3, d4⟩ := setCells_row news (n * 5) cur w hr
    refine h g c _ ⟨hBg, hc, by rw [List.length_append]; omega, ds, d1, by omega, ?_⟩ (.inl rfl) (But.setCells _ _ _ _) (setCells_below hBg _ _)
    refine List.ext_getElem? fun j => ?_
    by_cases hj : j < (n + 1) * 5
    · rw [List.getElem?_take_of_lt hj]
      show ds.toList[j]? = _
      rw [Array.getElem?_toList]
      by_cases hj2 : j < n * 5
      · rw [d3 j (.inl hj2), List.getElem?_append_left (by omega), ← htk, List.getElem?_take_of_lt hj2, Array.getElem?_toList]
      · have e := d4 (j - n * 5) (by omega) (by omega)
        rw [show n * 5 + (j - n * 5) = j by omega] at e
        rw [e, List.getElem?_append_right (by omega), hcl]
    · rw [List.getElem?_eq_none (by rw [List.length_take]; omega), List.getElem?_eq_none (by rw [List.length_append]; omega)]
  · obtain ⟨A', c', rfl, _, _⟩ := own_form hown
    obtain ⟨g', rfl, hg1, _, _, _⟩ := own_at hown (by intro e; have := congrArg List.length e; rw [List.length_append] at this; simp only [List.length_nil] at this; omega)
    have hs' := Stak.of_own hown
    refine h g' c' w' ⟨by omega, hs'.2⟩ (.inr hg1) ⟨hg.size, fun k hk _ => hg.block k hk (by simp)⟩ ⟨hg.os, hg.tape, hg.output, hg.size, fun k hk => hg.block k (by omega) (by simp)⟩

/-- What is known of a bracket that is open: its Kids lie in a block that is its own, and what is in them in blocks that are done with. -/
def FrameOk (w : World) (B : Nat) (role : Nat → Nat) (j : Nat) (f : Tr) : Prop :=
  w.ownsRow B 38 5 (.slice f.A f.ks.length f.c) f.ks.length (tcs f.ks) ∧ (∀ b, (Value.slice f.A f.ks.length f.c).ownBlock = some b → role b = j + 2) ∧ Deep w (fun b => B ≤ b ∧ role b = 0) f.ks
def Frames (w : World) (B : Nat) (role : Nat → Nat) (fs : List Tr) : Prop := ∀ j, j < fs.length → FrameOk w B role j (fs.getD j r0)
theorem own_same {w w' : World} {base size n : Nat} {e : TypeId} {v : Value} {cs : List Value} (h : w.ownsRow base e size v n cs) (hb : ∀ b, b < w.heap.size → v.ownBlock = some b → w'.heap[b]? = w.heap[b]?) : w'.ownsRow base e size v n cs := by
  refine ⟨h.1, ?_⟩
  rcases h.2 with hn | ⟨g, cap, cur, rfl, hg, hh, rest⟩
  · exact .inl hn
  · exact .inr ⟨g, cap, cur, rfl, hg, (hb g (Array.getElem?_eq_some_iff.1 hh).1 rfl).trans hh, rest⟩
section
variable {w w' : World} {B j : Nat} {role role' : Nat → Nat} {f x : Tr} {fs : List Tr}
/-- The world and the roles turn elsewhere. -/
theorem FrameOk.keep (h : FrameOk w B role j f) (hs : w.heap.size ≤ w'.heap.size) (hb : ∀ b, b < w.heap.size → role b = j + 2 ∨ role b = 0 → w'.heap[b]? = w.heap[b]? ∧ role' b = role b) : FrameOk w' B role' j f := by
  refine ⟨own_same h.1 fun b hlt e => (hb b hlt (.inl (h.2.1 b e))).1, fun b e => ?_, h.2.2.keep hs (fun b hlt hk => (hb b hlt (.inr hk.2)).1) (fun b hlt hk => ⟨hk.1, by rw [(hb b hlt (.inr hk.2)).2]; exact hk.2⟩)⟩
  have hlt := (h.1.lt b e).2
  rw [(hb b hlt (.inl (h.2.1 b e))).2]
  exact h.2.1 b e
theorem Frames.keep (h : Frames w B role fs) (hs : w.heap.size ≤ w'.heap.size) (hb : ∀ b, b < w.heap.size → (role b = 0 ∨ ∃ j, j < fs.length ∧ role b = j + 2) → w'.heap[b]? = w.heap[b]? ∧ role' b = role b) : Frames w' B role' fs :=
  fun j hj => (h j hj).keep hs fun b hlt hr => hb b hlt (hr.elim (fun e => .inr ⟨j, hj, e⟩) .inl)
/-- Only what has role 1 turns. -/
theorem Frames.but (h : Frames w B role fs) {g : Nat} (hg : role g = 1) (hb : But g w w') : Frames w' B role fs :=
  h.keep hb.size fun b hlt hr => ⟨hb.block b hlt (fun e => by subst e; omega), rfl⟩
theorem Frames.below (h : Frames w B role fs) (hb : Below w.heap.size w w') : Frames w' B role fs := h.keep hb.size fun b hlt _ => ⟨hb.block b hlt, rfl⟩
theorem getD_last (fs : List Tr) (f : Tr) : (fs ++ [f]).getD fs.length r0 = f := by simp
theorem getD_init (fs : List Tr) (f : Tr) {j : Nat} (h : j < fs.length) : (fs ++ [f]).getD j r0 = fs.getD j r0 := by
  rw [List.getD_eq_getElem?_getD, List.getElem?_append_left h, ← List.getD_eq_getElem?_getD]
theorem Frames.snoc (h : Frames w B role fs) (hf : FrameOk w B role fs.length f) : Frames w B role (fs ++ [f]) := fun j hj => by
  by_cases e : j < fs.length
  · rw [getD_init _ _ e]; exact h j e
  · obtain rfl : j = fs.length := by simp at hj; omega
    rw [getD_last]; exact hf
theorem Frames.init (h : Frames w B role (fs ++ [f])) : Frames w B role fs := fun j hj => by
  have := h j (by simp; omega)
  rw [getD_init _ _ hj] at this
  exact this
theorem Frames.last (h : Frames w B role (fs ++ [f])) : FrameOk w B role fs.length f := by
  have := h fs.length (by simp)
  rw [getD_last] at this
  exact this
theorem FrameOk.new (w : World) (B : Nat) (role : Nat → Nat) (j : Nat) (t : Tk) (e : Int) : FrameOk w B role j (.mk t none 0 [] e) := ⟨World.ownsRow_nil _ _ _ _, fun b h => by simp [Value.ownBlock, Tr.A] at h, Deep.nil _ _⟩
/-- A bracket is done with. -/
def shutR (role : Nat → Nat) (j b : Nat) : Nat := if role b = j + 2 then 0 else role b
theorem FrameOk.shut (h : FrameOk w B role j f) : SlC w (fun b => B ≤ b ∧ shutR role j b = 0) f.A (tcs f.ks) ∧ Deep w (fun b => B ≤ b ∧ shutR role j b = 0) f.ks := by
  refine ⟨SlC.of_own h.1 fun b hb e => ⟨hb, by unfold shutR; rw [if_pos (h.2.1 b e)]⟩, h.2.2.keep (Nat.le_refl _) (fun _ _ _ => rfl) (fun b _ hk => ⟨hk.1, ?_⟩)⟩
  unfold shutR
  rw [if_neg (by omega)]; exact hk.2
theorem Frames.shut (h : Frames w B role fs) : Frames w B (shutR role fs.length) fs := h.keep (Nat.le_refl _) fun b _ hr => ⟨rfl, by
  unfold shutR
  rw [if_neg]
  rcases hr with e | ⟨j, hj, e⟩ <;> omega⟩
theorem shutR_one {role : Nat → Nat} {j b : Nat} (h : role b = 1) : shutR role j b = 1 := by unfold shutR; rw [if_neg (by omega)]; exact h
/-- A tree more in the innermost bracket. -/
def growR (role : Nat → Nat) (j g b : Nat) : Nat := if b = g then j + 2 else role b
theorem Frames.grow (h : Frames w B role fs) {g : Nat} (hg : role g = fs.length + 2 ∨ w.heap.size ≤ g) (hs : w.heap.size ≤ w'.heap.size) (hb : ∀ b, b < w.heap.size → role b ≠ fs.length + 2 → role b ≠ 1 → w'.heap[b]? = w.heap[b]?) : Frames w' B (growR role fs.length g) fs :=
  h.keep hs fun b hlt hr => by
    have hne : b ≠ g := fun e => by
      subst e
      rcases hr with e | ⟨j, hj, e⟩ <;> omega
    exact ⟨hb b hlt (by rcases hr with e | ⟨j, hj, e⟩ <;> omega) (by rcases hr with e | ⟨j, hj, e⟩ <;> omega), by unfold growR; rw [if_neg hne]⟩
theorem FrameOk.grow (h : FrameOk w B role j f) {g c' : Nat} (hg : role g = j + 2 ∨ w.heap.size ≤ g) (hs : w.heap.size ≤ w'.heap.size) (hb : ∀ b, b < w.heap.size → role b ≠ j + 2 → role b ≠ 1 → w'.heap[b]? = w.heap[b]?) (hx1 : SlC w (fun b => B ≤ b ∧ role b = 0) x.A (tcs x.ks)) (hx3 : x.ks.length ≤ x.c) (hx2 : Deep w (fun b => B ≤ b ∧ role b = 0) x.ks)
    (hown : w'.ownsRow B 38 5 (.slice (some ⟨g, 0, none⟩) (f.ks ++ [x]).length c') (f.ks ++ [x]).length (tcs (f.ks ++ [x]))) :
    FrameOk w' B (growR role j g) j (.mk f.t (some ⟨g, 0, none⟩) c' (f.ks ++ [x]) f.e) := by
  refine ⟨hown, fun b e => ?_, ?_⟩
  · have : g = b := by simpa [Value.ownBlock, Tr.A] using e
    subst this
    unfold growR; rw [if_pos rfl]
  · refine (h.2.2.append (Deep.one hx1 hx3 hx2)).keep hs (fun b hlt hk => hb b hlt (by have := hk.2; omega) (by have := hk.2; omega)) (fun b hlt hk => ⟨hk.1, ?_⟩)
    unfold growR
    rw [if_neg (fun e => by subst e; have := hk.2; omega)]; exact hk.2
theorem growR_one {role : Nat → Nat} {j g b : Nat} (h : role b = 1) (hne : b ≠ g) : growR role j g b = 1 := by unfold growR; rw [if_neg hne]; exact h
end
/-- A bracket without what is not looked at. -/
def er1 (f : Tr) : Tr := .mk f.t none 0 (er f.ks) f.e
theorem er_one (x : Tr) : er [x] = [er1 x] := by cases x; simp [er, er1, Tr.t, Tr.ks, Tr.e]
theorem er_top (gs : List Tr) (f : Tr) : er (gs ++ [f]).reverse = er1 f :: er gs.reverse := by
  rw [List.reverse_append, List.reverse_singleton, er_append, er_one]; rfl
theorem er1_push (f x : Tr) (A : Option Addr) (c : Nat) : er1 (.mk f.t A c (f.ks ++ [x]) f.e) = push (er1 f) (er1 x) := by
  simp [er1, push, Tr.t, Tr.ks, Tr.e, Tr.A, Tr.c, er_append, er_one]
theorem tcs_set (gs : List Tr) (f x : Tr) (A : Option Addr) (c : Nat) : (tcs (gs ++ [f])).set (gs.length * 5 + 3) (.slice A (f.ks ++ [x]).length c) = tcs (gs ++ [.mk f.t A c (f.ks ++ [x]) f.e]) := by
  rw [tcs_append, tcs_append, tcs_one, tcs_one, List.set_append_right _ _ (by rw [tcs_length]; omega), tcs_length, show gs.length * 5 + 3 - gs.length * 5 = 3 by omega]
  rfl
theorem tcs_top (gs : List Tr) (f : Tr) (j : Nat) : (tcs (gs ++ [f]))[gs.length * 5 + j]? = (rcells f)[j]? := by
  rw [tcs_append, tcs_one, List.getElem?_append_right (by rw [tcs_length]; omega), tcs_length, show gs.length * 5 + j - gs.length * 5 = j by omega]
theorem tcs_cut (gs : List Tr) (f : Tr) : (tcs (gs ++ [f])).take (gs.length * 5) = tcs gs := by
  rw [tcs_append]; exact List.take_left' (tcs_length gs)
/-- The last element of a row written. -/
theorem own_fill {w : World} {base size n c g : Nat} {e : TypeId} {cs zs ys : List Value} (h : w.ownsRow base e size (.slice (some ⟨g, 0, none⟩) (n + 1) c) (n + 1) (cs ++ zs)) (hc : cs.length = n * size) (hy : ys.length = size) :
    (w.setCells g (n * size) ys).ownsRow base e size (.slice (some ⟨g, 0, none⟩) (n + 1) c) (n + 1) (cs ++ ys) ∧ w.there g (n * size) size := by
  have hm : (n + 1) * size = n * size + size := by rw [Nat.add_mul, Nat.one_mul]
  rcases h.2 with ⟨hv, _⟩ | ⟨g', cap, cur, hv, hg, hh, h1, h2, h3, h4⟩
  · cases hv
  · injection hv with e1 _ e3
    injection e1 with e1
    injection e1 with e1 _ _
    subst e1 e3
    have hcs : (n + 1) * size ≤ cur.size := by rw [h3]; exact Nat.mul_le_mul_right _ h1
    obtain ⟨ds, d1, d2, d3, d4⟩ := setCells_row ys (n * size) cur w hh
    refine ⟨⟨by rw [List.length_append]; omega, .inr ⟨g, c, ds, rfl, hg, d1, h1, h2, by omega, ?_⟩⟩, fun j hj => ⟨?_, RowAt.free hh _⟩⟩
    · refine List.ext_getElem? fun j => ?_
      by_cases hj : j < (n + 1) * size
      · rw [List.getElem?_take_of_lt hj]
        show ds.toList[j]? = _
        rw [Array.getElem?_toList]
        by_cases hj2 : j < n * size
        · rw [d3 j (.inl hj2), List.getElem?_append_left (by omega)]
          have e := congrArg (fun l : List Value => l[j]?) h4
          rw [List.getElem?_take_of_lt hj, List.getElem?_append_left (by omega)] at e
          simpa using e
        · have e := d4 (j - n * size) (by omega) (by omega)
          rw [show n * size + (j - n * size) = j by omega] at e
          rw [e, List.getElem?_append_right (by omega), hc]
      · rw [List.getElem?_eq_none (by rw [List.length_take]; omega), List.getElem?_eq_none (by rw [List.length_append]; omega)]
    · rw [RowAt.cell hh, Array.getElem?_eq_getElem (by omega)]; rfl
theorem FrameOk.below {w w' : World} {B j : Nat} {role : Nat → Nat} {f : Tr} (h : FrameOk w B role j f) (hb : Below w.heap.size w w') : FrameOk w' B role j f := h.keep hb.size fun b hlt _ => ⟨hb.block b hlt, rfl⟩
theorem ex_box (g : Nat) (t : TypeId) (cs : Array Value) (w : World) (h : RowAt w g t cs) :
    ∃ S : World → Prop, Hid (S w.drew) ∧ Hid (∀ w', S w' → RowAt w' g t cs) ∧ Hid (∀ wa wb, S wa → wb.heap[g]? = wa.heap[g]? → S wb) := ⟨fun w' => RowAt w' g t cs, h, fun _ h => h, fun _ _ h e => e.trans h⟩
/-- What the loop of Read keeps. -/
def RdInv (w : World) (l : List Tk) (P : Except Int (List Tr)) (n : Nat) (ov iv : Value) (wr : World) : Prop :=
  ∃ (i : Nat) (gs : List Tr) (f : Tr) (g d : Nat) (role : Nat → Nat), i ≤ n ∧ gs.length + 1 ≤ 25 ∧ ov = .slice (some ⟨g, 0, none⟩) (gs.length + 1) d ∧ iv = .int .i64 (i : Int) ∧ Hid (Stak wr (w.heap.size + 1) g (gs.length + 1) d (tcs (gs ++ [f]))) ∧ Hid (Frames wr (w.heap.size + 1) role gs) ∧ Hid (FrameOk wr (w.heap.size + 1) role gs.length f) ∧ Hid (role g = 1) ∧ Hid (∀ b, wr.heap.size ≤ b → role b = 1) ∧ Hid (∀ f ∈ gs, f.ks.length ≤ i) ∧ f.ks.length ≤ i ∧ Hid (((gs ++ [f]).getD 0 r0).t = t0) ∧ Hid (mrun (l.drop i) (er1 f :: er gs.reverse) = P) ∧ Hid (RowAt wr w.heap.size 27 #[.int .i64 0, .int .i64 0]) ∧ Hid (Below w.heap.size w wr)
theorem read_close {w v1 wz : World} {l : List Tk} {P : Except Int (List Tr)} {n i g d g4 d4 : Nat} {role : Nat → Nat} {gs : List Tr} {f x : Tr} (hi : i + 1 ≤ n) (hgs : gs.length + 1 ≤ 25)
    (hst : Stak wz (w.heap.size + 1) g (gs.length + 1) d ((tcs (gs ++ [f])).set (gs.length * 5 + 3) (.slice (some ⟨g4, 0, none⟩) (f.ks.length + 1) d4)))
    (hfr : Frames v1 (w.heap.size + 1) role gs) (hfl : FrameOk v1 (w.heap.size + 1) role gs.length f) (hrg : role g = 1) (hrn : ∀ b, v1.heap.size ≤ b → role b = 1)
    (hkg : ∀ f ∈ gs, f.ks.length ≤ i) (hkf : f.ks.length ≤ i) (hbt : ((gs ++ [f]).getD 0 r0).t = t0) (hrun : mrun (l.drop (i + 1)) (push (er1 f) (er1 x) :: er gs.reverse) = P)
    (hgf : RowAt wz w.heap.size 27 #[.int .i64 0, .int .i64 0]) (hw : Below w.heap.size w wz)
    (hx1 : SlC v1 (fun b => w.heap.size + 1 ≤ b ∧ role b = 0) x.A (tcs x.ks)) (hx3 : x.ks.length ≤ x.c) (hx2 : Deep v1 (fun b => w.heap.size + 1 ≤ b ∧ role b = 0) x.ks)
    (hg4 : role g4 = gs.length + 2 ∨ v1.heap.size ≤ g4) (hg4z : g4 < wz.heap.size) (hne : g ≠ g4) (hs : v1.heap.size ≤ wz.heap.size) (hch : ∀ b, b < v1.heap.size → role b ≠ gs.length + 2 → role b ≠ 1 → wz.heap[b]? = v1.heap[b]?)
    (hown : wz.ownsRow (w.heap.size + 1) 38 5 (.slice (some ⟨g4, 0, none⟩) (f.ks.length + 1) d4) (f.ks.length + 1) (tcs f.ks ++ rcells x)) :
    RdInv w l P n (.slice (some ⟨g, 0, none⟩) (gs.length + 1) d) (.int .i64 ((i : Int) + 1)) wz := by
  have hl : (f.ks ++ [x]).length = f.ks.length + 1 := by simp
  refine ⟨i + 1, gs, .mk f.t (some ⟨g4, 0, none⟩) d4 (f.ks ++ [x]) f.e, g, d, growR role gs.length g4, hi, hgs, rfl, rfl, ?_, hfr.grow hg4 hs hch, ?_, growR_one hrg hne, fun b hb => growR_one (hrn b (by omega)) (by omega), fun y hy => Nat.le_succ_of_le (hkg y hy), ?_, ?_, ?_, hgf, hw⟩
  · rw [← hl, tcs_set] at hst
    exact hst
  · refine hfl.grow hg4 hs hch hx1 hx3 hx2 ?_
    rw [tcs_append, tcs_one, hl]
    exact hown
  · show (f.ks ++ [x]).length ≤ i + 1
    omega
  · show ((gs ++ [Tr.mk f.t (some ⟨g4, 0, none⟩) d4 (f.ks ++ [x]) f.e]).getD 0 r0).t = t0
    cases gs with
    | nil => exact hbt
    | cons y gs => exact hbt
  · show mrun _ (er1 (.mk f.t (some ⟨g4, 0, none⟩) d4 (f.ks ++ [x]) f.e) :: er gs.reverse) = P
    rw [er1_push]
    exact hrun
theorem FrameOk.but {w w' : World} {B j g : Nat} {role : Nat → Nat} {f : Tr} (h : FrameOk w B role j f) (hg : role g = 1) (hb : But g w w') : FrameOk w' B role j f :=
  h.keep hb.size fun b hlt hr => ⟨hb.block b hlt (fun e => by subst e; omega), rfl⟩
theorem But.setRow (w : World) (g : Nat) (cs : Array Value) : But g w (w.setRow g cs) := ⟨by simp, fun k _ hk => setRow_other w g k cs hk⟩
theorem read_open {w v wz : World} {l : List Tk} {P : Except Int (List Tr)} {n i g g2 d2 : Nat} {role : Nat → Nat} {gs : List Tr} {f : Tr} {t : Tk} (hi : i + 1 ≤ n) (hgs : gs.length + 1 + 1 ≤ 25)
    (hst : Stak wz (w.heap.size + 1) g2 (gs.length + 1 + 1) d2 (tcs (gs ++ [f]) ++ rcells (.mk t none 0 [] 0)))
    (hfr : Frames v (w.heap.size + 1) role gs) (hfl : FrameOk v (w.heap.size + 1) role gs.length f) (hrg : role g = 1) (hrn : ∀ b, v.heap.size ≤ b → role b = 1)
    (hkg : ∀ f ∈ gs, f.ks.length ≤ i) (hkf : f.ks.length ≤ i) (hbt : ((gs ++ [f]).getD 0 r0).t = t0) (hrun : mrun (l.drop (i + 1)) (.mk t none 0 [] 0 :: er1 f :: er gs.reverse) = P)
    (hgf : RowAt wz w.heap.size 27 #[.int .i64 0, .int .i64 0]) (hw : Below w.heap.size w wz) (hg2 : g2 = g ∨ v.heap.size ≤ g2) (hb : But g v wz) :
    RdInv w l P n (.slice (some ⟨g2, 0, none⟩) (gs.length + 1 + 1) d2) (.int .i64 ((i : Int) + 1)) wz := by
  have hl : (gs ++ [f]).length = gs.length + 1 := by simp
  refine ⟨i + 1, gs ++ [f], .mk t none 0 [] 0, g2, d2, role, hi, by rw [hl]; exact hgs, by rw [hl], rfl, ?_, ((hfr.but hrg hb).snoc (hfl.but hrg hb)), FrameOk.new _ _ _ _ _ _, ?_, fun b hbb => hrn b (Nat.le_trans hb.size hbb), fun y hy => ?_, Nat.zero_le _, ?_, ?_, hgf, hw⟩
  · show Stak wz _ g2 ((gs ++ [f]).length + 1) d2 _
    rw [tcs_append (gs ++ [f]), tcs_one, hl]
    exact hst
  · show role g2 = 1
    rcases hg2 with rfl | h
    · exact hrg
    · exact hrn _ h
  · rcases List.mem_append.1 hy with h | h
    · exact Nat.le_succ_of_le (hkg y h)
    · rw [List.mem_singleton] at h; subst h; exact Nat.le_succ_of_le hkf
  · show (((gs ++ [f]) ++ [Tr.mk t none 0 [] 0]).getD 0 r0).t = t0
    rw [getD_init _ _ (by simp)]; exact hbt
  · show mrun _ (er1 (.mk t none 0 [] 0) :: er (gs ++ [f]).reverse) = P
    rw [er_top]
    have e : er1 (.mk t none 0 [] 0) = .mk t none 0 [] 0 := by simp [er1, Tr.t, Tr.ks, Tr.e, er]
    rw [e]; exact hrun
end Go.Proofs.Ytnaaejemanmgnaa
