/- Texts that all the claims need. Conditions: those that each states. -/
import Derived.ArgAppend
import Derived.Test.YtmffnkfohmbbeaaGreatDoorCi12
set_option linter.unusedSimpArgs false
set_option linter.unusedVariables false
set_option maxRecDepth 100000
set_option maxHeartbeats 40000000
namespace Go.Proofs.YtmffnkfohmbbeaaGreatDoor
section
open Go.RowKit LX TR
structure But (g : Nat) (w w' : World) : Prop where
 size : w.heap.size ≤ w'.heap.size
 block : ∀ k, k < w.heap.size → k ≠ g → w'.heap[k]? = w.heap[k]?
theorem But.setCell (w : World) (g o : Nat) (u : Value) : But g w (w.setCell ⟨g, o, none⟩ u) := ⟨by simp [World.setCell], fun k _ hk => by simp only [World.setCell, Array.getElem?_modify, if_neg (fun e => hk (Eq.symm e))]⟩
theorem But.setCells (w : World) (g o : Nat) (ys : List Value) : But g w (w.setCells g o ys) := ⟨by rw [setCells_size]; exact zL _, fun k _ hk => setCells_other w g o ys k hk⟩
theorem But.below {w w' : World} (g : Nat) (h : Below w.heap.size w w') : But g w w' := ⟨h.size, fun k hk _ => h.block k hk⟩
theorem But.trans {w w' w2 : World} {g : Nat} (h : But g w w') (h2 : But g w' w2) : But g w w2 := ⟨zM h.size h2.size, fun k hk hne => (h2.block k (zT hk h.size) hne).trans (h.block k hk hne)⟩
def Stak (w : World) (B g n c : Nat) (cs : List Value) : Prop := B ≤ g ∧ n ≤ c ∧ cs.length = n * 5 ∧ ∃ cur : Array Value, RowAt w g 104 cur ∧ c * 5 ≤ cur.size ∧ cur.toList.take (n * 5) = cs
section
variable {w w' : World} {B g n c : Nat} {cs : List Value}
theorem Stak.lt (h : Stak w B g n c cs) : g < w.heap.size := by obtain ⟨_, _, _, cur, hr, _⟩ := h; exact hr.lt
theorem Stak.cell (h : Stak w B g n c cs) {j : Nat} {u : Value} (hu : cs[j]? = some u) : w.cell? ⟨g, j, none⟩ = some u := by
 obtain ⟨_, _, hl, cur, hr, _, ht⟩ := h
 rw [hr.cell j]
 rw [← ht, List.getElem?_take] at hu
 split at hu
 ·simpa using hu
 ·cases hu
theorem Stak.free (h : Stak w B g n c cs) (o : Nat) : w.frozen? ⟨g, o, none⟩ = false := by obtain ⟨_, _, _, cur, hr, _⟩ := h; exact hr.free o
theorem Stak.same (h : Stak w B g n c cs) (hb : w'.heap[g]? = w.heap[g]?) : Stak w' B g n c cs := by
 obtain ⟨h1, h2, h3, cur, hr, h4, h5⟩ := h
 exact ⟨h1, h2, h3, cur, hb.trans hr, h4, h5⟩
theorem Stak.below (h : Stak w B g n c cs) (hb : Below w.heap.size w w') : Stak w' B g n c cs := h.same (hb.block g h.lt)
theorem Stak.cut (h : Stak w B g n c cs) (m : Nat) (hm : m ≤ n) : Stak w B g m m (cs.take (m * 5)) := by
 obtain ⟨h1, h2, h3, cur, hr, h4, h5⟩ := h
 refine ⟨h1, zL _, by rw [List.length_take]; omega, cur, hr, by omega, ?_⟩
 rw [← h5, List.take_take, Nat.min_eq_left (by omega)]
theorem Stak.set (h : Stak w B g n c cs) (j : Nat) (u : Value) : Stak (w.setCell ⟨g, j, none⟩ u) B g n c (cs.set j u) := by
 obtain ⟨h1, h2, h3, cur, hr, h4, h5⟩ := h
 refine ⟨h1, h2, by rw [List.length_set]; exact h3, _, hr.put j u, by rw [Array.size_setIfInBounds]; exact h4, ?_⟩
 rw [Array.toList_setIfInBounds, ← h5, List.take_set]
theorem Stak.of_own (h : w.ownsRow B 104 5 (.slice (some ⟨g, 0, none⟩) n c) n cs) : Stak w B g n c cs := by
 rcases h.2 with ⟨hv, _⟩ | ⟨g', cap, cur, hv, hg, hh, h1, h2, h3, h4⟩
 ·cases hv
 ·injection hv with e1 _ e3
  injection e1 with e1
  injection e1 with e1 _ _
  subst e1 e3
  exact ⟨hg, h1, h.1, cur, hh, by omega, h4⟩
end
theorem wpList_push {P : Program} {ops : Array Oper} {rest : List Oper} {o : Oper} {a : Act} {w : World} {Q : Exit → Act → World → Prop} (hgd : o.guard = none) (s x : Operand) (t : TypeId)
 (ho : o.op = .call { callee := .builtin .append, args := #[s, x], argTypes := #[t, t] })
 (z : Value) (ht : P.underlying t = some (.slice 104))
 (hinf : (P.info? 104).map (fun i => (i.zero, i.size, i.bytes)) = some (some z, 5, 64)) (hzs : z.cells.size = 5)
 (B g n c : Nat) (cs : List Value) (hs : a.eval s = .slice (some ⟨g, 0, none⟩) n c) (hst : Stak w B g n c cs)
 (G : Nat) (news : List Value) (hx : a.eval x = .slice (some ⟨G, 0, none⟩) 1 1) (hl : news.length = 5)
 (hnews : ∀ j u, news[j]? = some u → w.cell? ⟨G, j, none⟩ = some u) (h1 : ∀ u ∈ news, u.oneCell' = true) (hn : n ≤ 4294967296) (hB : B ≤ w.heap.size)
 (h : ∀ g' c' w', Stak w' B g' (n + 1) c' (cs ++ news) → (g' = g ∨ w.heap.size ≤ g') → But g w w' → Below B w w' → wpList P ops Q rest (a.put o.dst (.slice (some ⟨g', 0, none⟩) (n + 1) c')) w') :
 wpList P ops Q (o :: rest) a w := by
 obtain ⟨i, hi, hz, hi1, hi2⟩ := info_parts hinf
 obtain ⟨hBg, hnc, hcl, cur, hr, hcc, htk⟩ := hst
 have hst : Stak w B g n c cs := ⟨hBg, hnc, hcl, cur, hr, hcc, htk⟩
 have hadd : ∀ j, (⟨G, 0, none⟩ : Addr).add j = ⟨G, j, none⟩ := fun j => by unfold Addr.add; split <;> simp_all
 refine wpList_append_arg w hgd s x t ho 104 i z 5 64 ht hi hz hi1 hi2 hzs (by decide) g 0 n c cs hs hcl (fun j u hu => by rw [Nat.zero_add]; exact hst.cell hu) ⟨G, 0, none⟩ 1 1 news hx hl
  (fun j u hu => by rw [hadd]; exact hnews j u hu) h1 (fun hc j hj => ?_) (by simp only [maxLen]; omega) (by omega) (fun hc => ?_) (fun _ v' w' hown hg => ?_)
 ·rw [Nat.zero_add]
  refine ⟨?_, hst.free _⟩
  rw [hr.cell, Array.getElem?_eq_getElem (by omega)]; rfl
 ·rw [Nat.zero_add]
  obtain ⟨ds, d1, d2, d3, d4⟩ := setCells_row news (n * 5) cur w hr
  refine h g c _ ⟨hBg, hc, by rw [zA7]; omega, ds, d1, by omega, ?_⟩ (.inl rfl) (But.setCells _ _ _ _) (setCells_below hBg _ _)
  refine List.ext_getElem? fun j => ?_
  by_cases hj : j < (n + 1) * 5
  ·rw [List.getElem?_take_of_lt hj]
   show ds.toList[j]? = _
   rw [Array.getElem?_toList]
   by_cases hj2 : j < n * 5
   ·rw [d3 j (.inl hj2), List.getElem?_append_left (by omega), ← htk, List.getElem?_take_of_lt hj2, Array.getElem?_toList]
   ·have e := d4 (j - n * 5) (by omega) (by omega)
    rw [show n * 5 + (j - n * 5) = j by omega] at e
    rw [e, List.getElem?_append_right (by omega), hcl]
  ·rw [List.getElem?_eq_none (by rw [List.length_take]; omega), List.getElem?_eq_none (by rw [zA7]; omega)]
 ·obtain ⟨A', c', rfl, _, _⟩ := own_form hown
  obtain ⟨g', rfl, hg1, _, _, _⟩ := own_at hown (by intro e; have := congrArg List.length e; rw [zA7] at this; simp only [zA9] at this; omega)
  have hs' := Stak.of_own hown
  refine h g' c' w' ⟨by omega, hs'.2⟩ (.inr hg1) ⟨hg.size, fun k hk _ => hg.block k hk (by simp)⟩ ⟨hg.os, hg.tape, hg.output, hg.size, fun k hk => hg.block k (by omega) (by simp)⟩
def FrameOk (w : World) (B : Nat) (role : Nat → Nat) (j : Nat) (f : Tr) : Prop :=
 w.ownsRow B 104 5 (.slice f.A f.ks.length f.c) f.ks.length (tcs f.ks) ∧ (∀ b, (Value.slice f.A f.ks.length f.c).ownBlock = some b → role b = j + 2) ∧ Deep w (fun b => B ≤ b ∧ role b = 0) f.ks
def Frames (w : World) (B : Nat) (role : Nat → Nat) (fs : List Tr) : Prop := ∀ j, j < fs.length → FrameOk w B role j (fs.getD j r0)
theorem own_same {w w' : World} {base size n : Nat} {e : TypeId} {v : Value} {cs : List Value} (h : w.ownsRow base e size v n cs) (hb : ∀ b, b < w.heap.size → v.ownBlock = some b → w'.heap[b]? = w.heap[b]?) : w'.ownsRow base e size v n cs := by
 refine ⟨h.1, ?_⟩
 rcases h.2 with hn | ⟨g, cap, cur, rfl, hg, hh, rest⟩
 ·exact .inl hn
 ·exact .inr ⟨g, cap, cur, rfl, hg, (hb g (Array.getElem?_eq_some_iff.1 hh).1 rfl).trans hh, rest⟩
section
variable {w w' : World} {B j : Nat} {role role' : Nat → Nat} {f x : Tr} {fs : List Tr}
theorem FrameOk.keep (h : FrameOk w B role j f) (hs : w.heap.size ≤ w'.heap.size) (hb : ∀ b, b < w.heap.size → role b = j + 2 ∨ role b = 0 → w'.heap[b]? = w.heap[b]? ∧ role' b = role b) : FrameOk w' B role' j f := by
 refine ⟨own_same h.1 fun b hlt e => (hb b hlt (.inl (h.2.1 b e))).1, fun b e => ?_, h.2.2.keep hs (fun b hlt hk => (hb b hlt (.inr hk.2)).1) (fun b hlt hk => ⟨hk.1, by rw [(hb b hlt (.inr hk.2)).2]; exact hk.2⟩)⟩
 have hlt := (h.1.lt b e).2
 rw [(hb b hlt (.inl (h.2.1 b e))).2]
 exact h.2.1 b e
theorem Frames.keep (h : Frames w B role fs) (hs : w.heap.size ≤ w'.heap.size) (hb : ∀ b, b < w.heap.size → (role b = 0 ∨ ∃ j, j < fs.length ∧ role b = j + 2) → w'.heap[b]? = w.heap[b]? ∧ role' b = role b) : Frames w' B role' fs :=
 fun j hj => (h j hj).keep hs fun b hlt hr => hb b hlt (hr.elim (fun e => .inr ⟨j, hj, e⟩) .inl)
theorem Frames.but (h : Frames w B role fs) {g : Nat} (hg : role g = 1) (hb : But g w w') : Frames w' B role fs :=
 h.keep hb.size fun b hlt hr => ⟨hb.block b hlt (fun e => by subst e; omega), rfl⟩
theorem Frames.below (h : Frames w B role fs) (hb : Below w.heap.size w w') : Frames w' B role fs := h.keep hb.size fun b hlt _ => ⟨hb.block b hlt, rfl⟩
theorem getD_last (fs : List Tr) (f : Tr) : (fs ++ [f]).getD fs.length r0 = f := by simp
theorem getD_init (fs : List Tr) (f : Tr) {j : Nat} (h : j < fs.length) : (fs ++ [f]).getD j r0 = fs.getD j r0 := by
 rw [List.getD_eq_getElem?_getD, List.getElem?_append_left h, ← List.getD_eq_getElem?_getD]
theorem Frames.snoc (h : Frames w B role fs) (hf : FrameOk w B role fs.length f) : Frames w B role (fs ++ [f]) := fun j hj => by
 by_cases e : j < fs.length
 ·rw [getD_init _ _ e]; exact h j e
 ·obtain rfl : j = fs.length := by simp at hj; omega
  rw [getD_last]; exact hf
theorem Frames.init (h : Frames w B role (fs ++ [f])) : Frames w B role fs := fun j hj => by
 have := h j (by simp; omega)
 rw [getD_init _ _ hj] at this
 exact this
theorem Frames.last (h : Frames w B role (fs ++ [f])) : FrameOk w B role fs.length f := by
 have := h fs.length (by simp)
 rw [getD_last] at this
 exact this
theorem FrameOk.new (w : World) (B : Nat) (role : Nat → Nat) (j : Nat) (t : Tk) (e : Int) : FrameOk w B role j (.mk t none 0 [] e) := ⟨World.ownsRow_nil _ _ _ _, fun b h => by simp [Value.ownBlock, Tr.A] at h, Deep.nil _ _⟩
def shutR (role : Nat → Nat) (j b : Nat) : Nat := if role b = j + 2 then 0 else role b
theorem FrameOk.shut (h : FrameOk w B role j f) : SlC w (fun b => B ≤ b ∧ shutR role j b = 0) f.A (tcs f.ks) ∧ Deep w (fun b => B ≤ b ∧ shutR role j b = 0) f.ks := by
 refine ⟨SlC.of_own h.1 fun b hb e => ⟨hb, by unfold shutR; rw [if_pos (h.2.1 b e)]⟩, h.2.2.keep (zL _) (fun _ _ _ => rfl) (fun b _ hk => ⟨hk.1, ?_⟩)⟩
 unfold shutR
 rw [if_neg (by omega)]; exact hk.2
theorem Frames.shut (h : Frames w B role fs) : Frames w B (shutR role fs.length) fs := h.keep (zL _) fun b _ hr => ⟨rfl, by
 unfold shutR
 rw [if_neg]
 rcases hr with e | ⟨j, hj, e⟩ <;> omega⟩
theorem shutR_one {role : Nat → Nat} {j b : Nat} (h : role b = 1) : shutR role j b = 1 := by unfold shutR; rw [if_neg (by omega)]; exact h
def growR (role : Nat → Nat) (j g b : Nat) : Nat := if b = g then j + 2 else role b
theorem Frames.grow (h : Frames w B role fs) {g : Nat} (hg : role g = fs.length + 2 ∨ w.heap.size ≤ g) (hs : w.heap.size ≤ w'.heap.size) (hb : ∀ b, b < w.heap.size → role b ≠ fs.length + 2 → role b ≠ 1 → w'.heap[b]? = w.heap[b]?) : Frames w' B (growR role fs.length g) fs :=
 h.keep hs fun b hlt hr => by
  have hne : b ≠ g := fun e => by
   subst e
   rcases hr with e | ⟨j, hj, e⟩ <;> omega
  exact ⟨hb b hlt (by rcases hr with e | ⟨j, hj, e⟩ <;> omega) (by rcases hr with e | ⟨j, hj, e⟩ <;> omega), by unfold growR; rw [if_neg hne]⟩
theorem FrameOk.grow (h : FrameOk w B role j f) {g c' : Nat} (hg : role g = j + 2 ∨ w.heap.size ≤ g) (hs : w.heap.size ≤ w'.heap.size) (hb : ∀ b, b < w.heap.size → role b ≠ j + 2 → role b ≠ 1 → w'.heap[b]? = w.heap[b]?) (hx1 : SlC w (fun b => B ≤ b ∧ role b = 0) x.A (tcs x.ks)) (hx3 : x.ks.length ≤ x.c) (hx2 : Deep w (fun b => B ≤ b ∧ role b = 0) x.ks)
 (hown : w'.ownsRow B 104 5 (.slice (some ⟨g, 0, none⟩) (f.ks ++ [x]).length c') (f.ks ++ [x]).length (tcs (f.ks ++ [x]))) :
 FrameOk w' B (growR role j g) j (.mk f.t (some ⟨g, 0, none⟩) c' (f.ks ++ [x]) f.e) := by
 refine ⟨hown, fun b e => ?_, ?_⟩
 ·have : g = b := by simpa [Value.ownBlock, Tr.A] using e
  subst this
  unfold growR; rw [if_pos rfl]
 ·refine (h.2.2.append (Deep.one hx1 hx3 hx2)).keep hs (fun b hlt hk => hb b hlt (by have := hk.2; omega) (by have := hk.2; omega)) (fun b hlt hk => ⟨hk.1, ?_⟩)
  unfold growR
  rw [if_neg (fun e => by subst e; have := hk.2; omega)]; exact hk.2
theorem growR_one {role : Nat → Nat} {j g b : Nat} (h : role b = 1) (hne : b ≠ g) : growR role j g b = 1 := by unfold growR; rw [if_neg hne]; exact h
end
def er1 (f : Tr) : Tr := .mk f.t none 0 (er f.ks) f.e
theorem er_oneT (x : Tr) : er [x] = [er1 x] := by cases x; simp [er, er1, Tr.t, Tr.ks, Tr.e]
theorem er_top (gs : List Tr) (f : Tr) : er (gs ++ [f]).reverse = er1 f :: er gs.reverse := by
 rw [List.reverse_append, List.reverse_singleton, er_append, er_oneT]; rfl
theorem er1_push (f x : Tr) (A : Option Addr) (c : Nat) : er1 (.mk f.t A c (f.ks ++ [x]) f.e) = push (er1 f) (er1 x) := by
 simp [er1, push, Tr.t, Tr.ks, Tr.e, Tr.A, Tr.c, er_append, er_oneT]
theorem tcs_set (gs : List Tr) (f x : Tr) (A : Option Addr) (c : Nat) : (tcs (gs ++ [f])).set (gs.length * 5 + 3) (.slice A (f.ks ++ [x]).length c) = tcs (gs ++ [.mk f.t A c (f.ks ++ [x]) f.e]) := by
 rw [tcs_append, tcs_append, tcs_one, tcs_one, List.set_append_right _ _ (by rw [tcs_length]; omega), tcs_length, show gs.length * 5 + 3 - gs.length * 5 = 3 by omega]
 rfl
theorem tcs_top (gs : List Tr) (f : Tr) (j : Nat) : (tcs (gs ++ [f]))[gs.length * 5 + j]? = (rcells f)[j]? := by
 rw [tcs_append, tcs_one, List.getElem?_append_right (by rw [tcs_length]; omega), tcs_length, show gs.length * 5 + j - gs.length * 5 = j by omega]
theorem tcs_cut (gs : List Tr) (f : Tr) : (tcs (gs ++ [f])).take (gs.length * 5) = tcs gs := by
 rw [tcs_append]; exact List.take_left' (tcs_length gs)
theorem FrameOk.below {w w' : World} {B j : Nat} {role : Nat → Nat} {f : Tr} (h : FrameOk w B role j f) (hb : Below w.heap.size w w') : FrameOk w' B role j f := h.keep hb.size fun b hlt _ => ⟨hb.block b hlt, rfl⟩
theorem ex_box (g : Nat) (t : TypeId) (cs : Array Value) (w : World) (h : RowAt w g t cs) :
 ∃ S : World → Prop, Hid (S w.drew) ∧ Hid (∀ w', S w' → RowAt w' g t cs) ∧ Hid (∀ wa wb, S wa → wb.heap[g]? = wa.heap[g]? → S wb) := ⟨fun w' => RowAt w' g t cs, h, fun _ h => h, fun _ _ h e => e.trans h⟩
def RdInv (w : World) (l : List Tk) (P : Except Int (List Tr)) (n : Nat) (ov iv : Value) (wr : World) : Prop :=
 ∃ (i : Nat) (gs : List Tr) (f : Tr) (g d : Nat) (role : Nat → Nat), i ≤ n ∧ gs.length + 1 ≤ 25 ∧ ov = .slice (some ⟨g, 0, none⟩) (gs.length + 1) d ∧ iv = .int .i64 (i : Int) ∧ Hid (Stak wr (w.heap.size + 1) g (gs.length + 1) d (tcs (gs ++ [f]))) ∧ Hid (Frames wr (w.heap.size + 1) role gs) ∧ Hid (FrameOk wr (w.heap.size + 1) role gs.length f) ∧ Hid (role g = 1) ∧ Hid (∀ b, wr.heap.size ≤ b → role b = 1) ∧ Hid (∀ f ∈ gs, f.ks.length ≤ i) ∧ f.ks.length ≤ i ∧ Hid (((gs ++ [f]).getD 0 r0).t = t0) ∧ Hid (mrun (l.drop i) (er1 f :: er gs.reverse) = P) ∧ Hid (RowAt wr w.heap.size 39 #[.int .i64 0, .int .i64 0]) ∧ Hid (Below w.heap.size w wr)
theorem read_close {w v1 wz : World} {l : List Tk} {P : Except Int (List Tr)} {n i g d g4 d4 : Nat} {role : Nat → Nat} {gs : List Tr} {f x : Tr} (hi : i + 1 ≤ n) (hgs : gs.length + 1 ≤ 25)
 (hst : Stak wz (w.heap.size + 1) g (gs.length + 1) d ((tcs (gs ++ [f])).set (gs.length * 5 + 3) (.slice (some ⟨g4, 0, none⟩) (f.ks.length + 1) d4)))
 (hfr : Frames v1 (w.heap.size + 1) role gs) (hfl : FrameOk v1 (w.heap.size + 1) role gs.length f) (hrg : role g = 1) (hrn : ∀ b, v1.heap.size ≤ b → role b = 1)
 (hkg : ∀ f ∈ gs, f.ks.length ≤ i) (hkf : f.ks.length ≤ i) (hbt : ((gs ++ [f]).getD 0 r0).t = t0) (hrun : mrun (l.drop (i + 1)) (push (er1 f) (er1 x) :: er gs.reverse) = P)
 (hgf : RowAt wz w.heap.size 39 #[.int .i64 0, .int .i64 0]) (hw : Below w.heap.size w wz)
 (hx1 : SlC v1 (fun b => w.heap.size + 1 ≤ b ∧ role b = 0) x.A (tcs x.ks)) (hx3 : x.ks.length ≤ x.c) (hx2 : Deep v1 (fun b => w.heap.size + 1 ≤ b ∧ role b = 0) x.ks)
 (hg4 : role g4 = gs.length + 2 ∨ v1.heap.size ≤ g4) (hg4z : g4 < wz.heap.size) (hne : g ≠ g4) (hs : v1.heap.size ≤ wz.heap.size) (hch : ∀ b, b < v1.heap.size → role b ≠ gs.length + 2 → role b ≠ 1 → wz.heap[b]? = v1.heap[b]?)
 (hown : wz.ownsRow (w.heap.size + 1) 104 5 (.slice (some ⟨g4, 0, none⟩) (f.ks.length + 1) d4) (f.ks.length + 1) (tcs f.ks ++ rcells x)) :
 RdInv w l P n (.slice (some ⟨g, 0, none⟩) (gs.length + 1) d) (.int .i64 ((i : Int) + 1)) wz := by
 have hl : (f.ks ++ [x]).length = f.ks.length + 1 := by simp
 refine ⟨i + 1, gs, .mk f.t (some ⟨g4, 0, none⟩) d4 (f.ks ++ [x]) f.e, g, d, growR role gs.length g4, hi, hgs, rfl, rfl, ?_, hfr.grow hg4 hs hch, ?_, growR_one hrg hne, fun b hb => growR_one (hrn b (by omega)) (by omega), fun y hy => Nat.le_succ_of_le (hkg y hy), ?_, ?_, ?_, hgf, hw⟩
 ·rw [← hl, tcs_set] at hst
  exact hst
 ·refine hfl.grow hg4 hs hch hx1 hx3 hx2 ?_
  rw [tcs_append, tcs_one, hl]
  exact hown
 ·show (f.ks ++ [x]).length ≤ i + 1
  omega
 ·show ((gs ++ [Tr.mk f.t (some ⟨g4, 0, none⟩) d4 (f.ks ++ [x]) f.e]).getD 0 r0).t = t0
  cases gs with
  | nil => exact hbt
  | cons y gs => exact hbt
 ·show mrun _ (er1 (.mk f.t (some ⟨g4, 0, none⟩) d4 (f.ks ++ [x]) f.e) :: er gs.reverse) = P
  rw [er1_push]
  exact hrun
theorem FrameOk.but {w w' : World} {B j g : Nat} {role : Nat → Nat} {f : Tr} (h : FrameOk w B role j f) (hg : role g = 1) (hb : But g w w') : FrameOk w' B role j f :=
 h.keep hb.size fun b hlt hr => ⟨hb.block b hlt (fun e => by subst e; omega), rfl⟩
theorem But.setRow (w : World) (g : Nat) (cs : Array Value) : But g w (w.setRow g cs) := ⟨by simp, fun k _ hk => setRow_other w g k cs hk⟩
theorem read_open {w v wz : World} {l : List Tk} {P : Except Int (List Tr)} {n i g g2 d2 : Nat} {role : Nat → Nat} {gs : List Tr} {f : Tr} {t : Tk} (hi : i + 1 ≤ n) (hgs : gs.length + 1 + 1 ≤ 25)
 (hst : Stak wz (w.heap.size + 1) g2 (gs.length + 1 + 1) d2 (tcs (gs ++ [f]) ++ rcells (.mk t none 0 [] 0)))
 (hfr : Frames v (w.heap.size + 1) role gs) (hfl : FrameOk v (w.heap.size + 1) role gs.length f) (hrg : role g = 1) (hrn : ∀ b, v.heap.size ≤ b → role b = 1)
 (hkg : ∀ f ∈ gs, f.ks.length ≤ i) (hkf : f.ks.length ≤ i) (hbt : ((gs ++ [f]).getD 0 r0).t = t0) (hrun : mrun (l.drop (i + 1)) (.mk t none 0 [] 0 :: er1 f :: er gs.reverse) = P)
 (hgf : RowAt wz w.heap.size 39 #[.int .i64 0, .int .i64 0]) (hw : Below w.heap.size w wz) (hg2 : g2 = g ∨ v.heap.size ≤ g2) (hb : But g v wz) :
 RdInv w l P n (.slice (some ⟨g2, 0, none⟩) (gs.length + 1 + 1) d2) (.int .i64 ((i : Int) + 1)) wz := by
 have hl : (gs ++ [f]).length = gs.length + 1 := by simp
 refine ⟨i + 1, gs ++ [f], .mk t none 0 [] 0, g2, d2, role, hi, by rw [hl]; exact hgs, by rw [hl], rfl, ?_, ((hfr.but hrg hb).snoc (hfl.but hrg hb)), FrameOk.new _ _ _ _ _ _, ?_, fun b hbb => hrn b (zM hb.size hbb), fun y hy => ?_, Nat.zero_le _, ?_, ?_, hgf, hw⟩
 ·show Stak wz _ g2 ((gs ++ [f]).length + 1) d2 _
  rw [tcs_append (gs ++ [f]), tcs_one, hl]
  exact hst
 ·show role g2 = 1
  rcases hg2 with rfl | h
  ·exact hrg
  ·exact hrn _ h
 ·rcases List.mem_append.1 hy with h | h
  ·exact Nat.le_succ_of_le (hkg y h)
  ·rw [List.mem_singleton] at h; subst h; exact Nat.le_succ_of_le hkf
 ·show (((gs ++ [f]) ++ [Tr.mk t none 0 [] 0]).getD 0 r0).t = t0
  rw [getD_init _ _ (by simp)]; exact hbt
 ·show mrun _ (er1 (.mk t none 0 [] 0) :: er (gs ++ [f]).reverse) = P
  rw [er_top]
  have e : er1 (.mk t none 0 [] 0) = .mk t none 0 [] 0 := by simp [er1, Tr.t, Tr.ks, Tr.e, er]
  rw [e]; exact hrun
end
section
open Go.RowKit LX TR
theorem treeRead_any (A : Option Addr) (c : Nat) (l : List Tk) (w : World) (hl : l.length ≤ 1073741824) (hA : Toks w A l) :
 Calls Tryz.prog 52 #[.slice A l.length c] w (Rt w.heap.size (parse l) · w ·) := by
 have HA := zh hA; clear hA
 have HDR : Hid (∀ i, i < l.length → l.drop i = l.getD i t0 :: l.drop (i + 1)) := fun i => tdrop_cons
 have HDN : Hid (∀ i, ¬ i < l.length → l.drop i = []) := fun i hi => List.drop_eq_nil_of_le (by omega)
 have HR0 : Hid (mrun (l.drop 0) (er1 r0 :: er [].reverse) = parse l) := by
  rw [List.drop_zero]
  show mrun l _ = mrun l [r0]
  simp [er1, r0, Tr.t, Tr.ks, Tr.e, er]
 show Calls Tryz.prog 52 #[.slice A l.length c] w (fun e w' => Rt w.heap.size (parse l) e w w')
 generalize hP : parse l = P at *
 generalize hn : l.length = n at *
 have HN := zh hn; clear hn hP
 have HG0 : Hid (RowAt ((w.alloc (.cells #[.int .i64 0, .int .i64 0] 39)).alloc (.cells #[.int .u8 0, .string ⟨#[]⟩, .int .i64 0, .slice none 0 0, .int .i64 0] 104)) w.heap.size 39 #[.int .i64 0, .int .i64 0]) := (RowAt.new _ _ _).alloc _
 have HS0 : Hid (Stak ((w.alloc (.cells #[.int .i64 0, .int .i64 0] 39)).alloc (.cells #[.int .u8 0, .string ⟨#[]⟩, .int .i64 0, .slice none 0 0, .int .i64 0] 104)) (w.heap.size + 1) (w.heap.size + 1) [r0].length 1 (tcs [r0])) := by
  refine ⟨zL _, zL _, rfl, #[.int .u8 0, .string ⟨#[]⟩, .int .i64 0, .slice none 0 0, .int .i64 0], ?_, by decide, rfl⟩
  have h := RowAt.new (w.alloc (.cells #[.int .i64 0, .int .i64 0] 39)) 104 #[.int .u8 0, .string ⟨#[]⟩, .int .i64 0, .slice none 0 0, .int .i64 0]
  rw [show (w.alloc (.cells #[.int .i64 0, .int .i64 0] 39)).heap.size = w.heap.size + 1 by simp] at h
  exact h
 have HB0 : Hid (Below w.heap.size w ((w.alloc (.cells #[.int .i64 0, .int .i64 0] 39)).alloc (.cells #[.int .u8 0, .string ⟨#[]⟩, .int .i64 0, .slice none 0 0, .int .i64 0] 104))) := ((zB _ _).alloc (zL _) _).alloc (by simp) _
 have HI0 : Hid (RdInv w l P n (.slice (some ⟨w.heap.size + 1, 0, none⟩) 1 1) (.int .i64 0) ((w.alloc (.cells #[.int .i64 0, .int .i64 0] 39)).alloc (.cells #[.int .u8 0, .string ⟨#[]⟩, .int .i64 0, .slice none 0 0, .int .i64 0] 104))) :=
  ⟨0, [], r0, w.heap.size + 1, 1, fun _ => 1, by omega, by decide, rfl, rfl, HS0.out, fun j hj => by simp at hj, FrameOk.new _ _ _ _ _ _, rfl, fun _ _ => rfl, fun f hf => by simp at hf, zL 0, rfl, HR0.out, HG0.out, HB0.out⟩
 go_enter Tryz.func52, Tryz.ntmps52
 go_wp2
 go_loopw [4, 6, 7, 8, 14] (fun ov _ _ _ iv wr => RdInv w l P n ov iv wr) (fun _ _ _ _ iv _ => n - (intOf iv).toNat)
 case atStart => exact HI0.out
 case round =>
  obtain ⟨i, gs, f, g, d, role, hi, hf25, rfl, rfl, HST0, HFI0, HFL0, HRG, HRN0, HKG, hfl, HBT, HR, HGF0, HW⟩ := hrel
  have hne0 : w.heap.size ≠ g := fun e => by have := HST0.out.1; omega
  have HTOP := zh (fun j => tcs_top gs f j)
  have HCUT := zh (tcs_cut gs f)
  have hrun := HR.out
  have hel : (er gs.reverse).length = gs.length := by rw [er_length, List.length_reverse]
  generalize hm : gs.length = m at *
  have HM := zh hm; clear hm
  by_cases hlt : i < n
  ·obtain ⟨b, o, rfl, hbl, hc⟩ := HA.out.at (k := i) (by rw [HN.out]; exact hlt)
   obtain ⟨hc0, hc1, hc2⟩ := hc i (by rw [HN.out]; exact hlt)
   replace hc0 := (HW.out.cell (p := ⟨b, o + i * 3, none⟩) hbl).trans hc0
   replace hc1 := (HW.out.cell (p := ⟨b, o + i * 3 + 1, none⟩) hbl).trans hc1
   replace hc2 := (HW.out.cell (p := ⟨b, o + i * 3 + 2, none⟩) hbl).trans hc2
   rw [HDR.out i hlt] at hrun
   clear hc
   generalize (l.getD i t0) = t at *
   have hts : ∀ s, mstep (er1 f :: er gs.reverse) t = s → (match s with | some st' => mrun (l.drop (i + 1)) st' = P | none => P = .error t.p) := fun s hs => by
        cases s with
        | some st' => rw [mrun_some hs] at hrun; exact hrun
        | none => rw [mrun_none hs] at hrun; exact hrun.symm
   clear hrun
   obtain ⟨k, s, p⟩ := t
   have hz1 : IntKind.i64.wrap ((m : Int) + 1 - 1) = (m : Int) := by rw [IntKind.wrap_i64] <;> omega
   go_upto_region 7 with fail
   have r8 : RowAt ((wr.alloc (.cells #[.int .u8 (k : Int), .string s, .int .i64 p] 78)).alloc (.cells #[.int .u8 (k : Int), .string s, .int .i64 p, .slice none 0 0, .int .i64 p] 104)) (wr.heap.size + 1) 104 #[.int .u8 (k : Int), .string s, .int .i64 p, .slice none 0 0, .int .i64 p] := by
        have h := RowAt.new (wr.alloc (.cells #[.int .u8 (k : Int), .string s, .int .i64 p] 78)) 104 #[.int .u8 (k : Int), .string s, .int .i64 p, .slice none 0 0, .int .i64 p]
        rw [show (wr.alloc (.cells #[.int .u8 (k : Int), .string s, .int .i64 p] 78)).heap.size = wr.heap.size + 1 by simp] at h
        exact h
   have R6 : Hid (RowAt ((wr.alloc (.cells #[.int .u8 (k : Int), .string s, .int .i64 p] 78)).alloc (.cells #[.int .u8 (k : Int), .string s, .int .i64 p, .slice none 0 0, .int .i64 p] 104)) wr.heap.size 78 #[.int .u8 (k : Int), .string s, .int .i64 p]) := (RowAt.new _ _ _).alloc _
   have hba : Below wr.heap.size wr ((wr.alloc (.cells #[.int .u8 (k : Int), .string s, .int .i64 p] 78)).alloc (.cells #[.int .u8 (k : Int), .string s, .int .i64 p, .slice none 0 0, .int .i64 p] 104)) := ((zB _ _).alloc (zL _) _).alloc (by simp) _
   have HR8 : Hid (role (wr.heap.size + 1) = 1) := HRN0.out _ (by omega)
   have HG8 : Hid (wr.heap.size + 1 ≠ g) := by have := HST0.out.lt; show _ ≠ _; omega
   have HG08 : Hid (w.heap.size + 1 ≤ wr.heap.size) := HGF0.out.lt
   have HST := zh (HST0.out.below hba)
   have HFI := zh (HFI0.out.below hba)
   have HFL := zh (HFL0.out.below hba)
   have HRN : Hid (∀ b, ((wr.alloc (.cells #[.int .u8 (k : Int), .string s, .int .i64 p] 78)).alloc (.cells #[.int .u8 (k : Int), .string s, .int .i64 p, .slice none 0 0, .int .i64 p] 104)).heap.size ≤ b → role b = 1) := fun b hb => HRN0.out b (zM hba.size hb)
   have HWV := zh (HW.out.trans (hba.mono HW.out.size))
   have HGF := zh (HGF0.out.below hba HGF0.out.lt)
   clear hba hc0 hc1 hc2 HW HST0 HFI0 HFL0 HRN0 HGF0 HR
   have HBY := zh r8
   clear r8
   generalize (wr.alloc (.cells #[.int .u8 (k : Int), .string s, .int .i64 p] 78)).alloc (.cells #[.int .u8 (k : Int), .string s, .int .i64 p, .slice none 0 0, .int .i64 p] 104) = v at *
   have HG68 : Hid (wr.heap.size < wr.heap.size + 1) := zS _
   generalize wr.heap.size + 1 = g8 at *
   generalize wr.heap.size = g6 at *
   have b60 := (R6.out.cell 0).trans rfl
   have b61 := (R6.out.cell 1).trans rfl
   have b62 := (R6.out.cell 2).trans rfl
   by_cases h0 : cl k = 0
   rotate_left
   ·rcases cl_cases k with ⟨rfl, _⟩ | ⟨rfl, _⟩ | ⟨rfl, _⟩ | ⟨_, _, _, h⟩
    ·by_cases h24 : m = 24
     ·have hE : P = .error p := hts none (by
       simp only [mstep, if_neg h0]
       rw [if_pos (by simp only [zA8]; omega)])
      subst hE
      subst h24
      clear hts h0 HRN HBY
      go_wp2_with fail
      refine (show Calls Tryz.prog 90 #[.agg #[.int .u8 40, .string s, .int .i64 p]] v _ from fault9_any ⟨40, s, p⟩ v).mono ?_
      rintro e wf ⟨rfl, hbf⟩
      have hgf := RowAt.below (w := v) (w' := wf) HGF.out hbf HGF.out.lt
      have c0 := (hgf.cell 0).trans rfl
      have c1 := (hgf.cell 1).trans rfl
      have x0 := hgf.free 0
      have x1 := hgf.free 1
      have HBF : Hid (Below w.heap.size w wf) := (HWV.out).trans (hbf.mono (HWV.out).size)
      have HGFF := zh hgf
      clear hbf hgf
      go_wp2
      have hgf := (HGFF.out.put 0 (.int .i64 2)).put 1 (.int .i64 p)
      exact bodyPost_ret (ret_slot_cell rfl _ _ _ w.heap.size _ _ (0, 0) _ rfl rfl hgf Tryz.underlying39 rfl (fault_info _ _)) rfl ⟨(HBF.out.setCell (p := ⟨w.heap.size, 0, none⟩) (zL _) _).setCell (p := ⟨w.heap.size, 1, none⟩) (zL _) _, rfl⟩
     ·have HRUN : Hid (mrun (l.drop (i + 1)) (.mk ⟨40, s, p⟩ none 0 [] 0 :: er1 f :: er gs.reverse) = P) := hts (some _) (by
       simp only [mstep, if_neg h0]
       rw [if_neg (by simp only [zA8]; omega)])
      have e24 : ((m : Int) == 24) = false := by rw [beq_eq_false_iff_ne]; omega
      have HSV := zh (HST.out.same (w' := v.alloc (.cells #[.int .u8 40, .string s, .int .i64 p, .slice none 0 0, .int .i64 0] 104)) (heap_alloc_old v _ HST.out.lt))
      have HNW : Hid (∀ j u, ([.int .u8 40, .string s, .int .i64 p, .slice none 0 0, .int .i64 0] : List Value)[j]? = some u → (v.alloc (.cells #[.int .u8 40, .string s, .int .i64 p, .slice none 0 0, .int .i64 0] 104)).cell? ⟨v.heap.size, j, none⟩ = some u) := fun j u hu => by
           rw [World.cell?_alloc_at _ _ _ _ rfl]
           simpa using hu
      have hle : w.heap.size + 1 ≤ v.heap.size := by have := HGF.out.lt; omega
      clear hts h0 HBY
      go_wp2_with (first | (at_builtin; refine wpList_push rfl _ _ 42 rfl (.agg #[.int .u8 0, .string ⟨#[]⟩, .int .i64 0, .slice none 0 0, .int .i64 0]) Tryz.underlying42 infoTree rfl (w.heap.size + 1) g (m + 1) d (tcs (gs ++ [f])) rfl HSV.out v.heap.size [.int .u8 40, .string s, .int .i64 p, .slice none 0 0, .int .i64 0] rfl rfl HNW.out (by simp [Value.oneCell']) (by omega) (by rw [World.size_alloc]; omega) ?_))
      intro g2 d2 w4 hst4 hg4 hbut hb4
      have HZ := zh (read_open (t := ⟨40, s, p⟩) (n := n) (v := v) (wz := w4) (d2 := d2) (g := g) (g2 := g2) (by omega) (by rw [HM.out]; omega) (by rw [HM.out]; exact hst4) HFI.out (by rw [HM.out]; exact HFL.out) HRG.out HRN.out HKG.out hfl HBT.out HRUN.out ((HGF.out.alloc _).below hb4 (zS _)) ((HWV.out.alloc HWV.out.size _).trans (hb4.mono (Nat.le_succ _))) (hg4.imp id (fun h => Nat.le_of_succ_le h)) ((But.below g ((zB _ _).alloc (zL _) _)).trans hbut))
      rw [HM.out] at HZ
      clear hst4 hg4 hbut hb4 HSV HNW
      go_wp2
      go_roundw
      case rel => exact HZ.out
      case measure => simp [intOf]; omega
    ·by_cases h24 : m = 24
     ·have hE : P = .error p := hts none (by
       simp only [mstep, if_neg h0]
       rw [if_pos (by simp only [zA8]; omega)])
      subst hE
      subst h24
      clear hts h0 HRN HBY
      go_wp2_with fail
      refine (show Calls Tryz.prog 90 #[.agg #[.int .u8 123, .string s, .int .i64 p]] v _ from fault9_any ⟨123, s, p⟩ v).mono ?_
      rintro e wf ⟨rfl, hbf⟩
      have hgf := RowAt.below (w := v) (w' := wf) HGF.out hbf HGF.out.lt
      have c0 := (hgf.cell 0).trans rfl
      have c1 := (hgf.cell 1).trans rfl
      have x0 := hgf.free 0
      have x1 := hgf.free 1
      have HBF : Hid (Below w.heap.size w wf) := (HWV.out).trans (hbf.mono (HWV.out).size)
      have HGFF := zh hgf
      clear hbf hgf
      go_wp2
      have hgf := (HGFF.out.put 0 (.int .i64 2)).put 1 (.int .i64 p)
      exact bodyPost_ret (ret_slot_cell rfl _ _ _ w.heap.size _ _ (0, 0) _ rfl rfl hgf Tryz.underlying39 rfl (fault_info _ _)) rfl ⟨(HBF.out.setCell (p := ⟨w.heap.size, 0, none⟩) (zL _) _).setCell (p := ⟨w.heap.size, 1, none⟩) (zL _) _, rfl⟩
     ·have HRUN : Hid (mrun (l.drop (i + 1)) (.mk ⟨123, s, p⟩ none 0 [] 0 :: er1 f :: er gs.reverse) = P) := hts (some _) (by
       simp only [mstep, if_neg h0]
       rw [if_neg (by simp only [zA8]; omega)])
      have e24 : ((m : Int) == 24) = false := by rw [beq_eq_false_iff_ne]; omega
      have HSV := zh (HST.out.same (w' := v.alloc (.cells #[.int .u8 123, .string s, .int .i64 p, .slice none 0 0, .int .i64 0] 104)) (heap_alloc_old v _ HST.out.lt))
      have HNW : Hid (∀ j u, ([.int .u8 123, .string s, .int .i64 p, .slice none 0 0, .int .i64 0] : List Value)[j]? = some u → (v.alloc (.cells #[.int .u8 123, .string s, .int .i64 p, .slice none 0 0, .int .i64 0] 104)).cell? ⟨v.heap.size, j, none⟩ = some u) := fun j u hu => by
           rw [World.cell?_alloc_at _ _ _ _ rfl]
           simpa using hu
      have hle : w.heap.size + 1 ≤ v.heap.size := by have := HGF.out.lt; omega
      clear hts h0 HBY
      go_wp2_with (first | (at_builtin; refine wpList_push rfl _ _ 42 rfl (.agg #[.int .u8 0, .string ⟨#[]⟩, .int .i64 0, .slice none 0 0, .int .i64 0]) Tryz.underlying42 infoTree rfl (w.heap.size + 1) g (m + 1) d (tcs (gs ++ [f])) rfl HSV.out v.heap.size [.int .u8 123, .string s, .int .i64 p, .slice none 0 0, .int .i64 0] rfl rfl HNW.out (by simp [Value.oneCell']) (by omega) (by rw [World.size_alloc]; omega) ?_))
      intro g2 d2 w4 hst4 hg4 hbut hb4
      have HZ := zh (read_open (t := ⟨123, s, p⟩) (n := n) (v := v) (wz := w4) (d2 := d2) (g := g) (g2 := g2) (by omega) (by rw [HM.out]; omega) (by rw [HM.out]; exact hst4) HFI.out (by rw [HM.out]; exact HFL.out) HRG.out HRN.out HKG.out hfl HBT.out HRUN.out ((HGF.out.alloc _).below hb4 (zS _)) ((HWV.out.alloc HWV.out.size _).trans (hb4.mono (Nat.le_succ _))) (hg4.imp id (fun h => Nat.le_of_succ_le h)) ((But.below g ((zB _ _).alloc (zL _) _)).trans hbut))
      rw [HM.out] at HZ
      clear hst4 hg4 hbut hb4 HSV HNW
      go_wp2
      go_roundw
      case rel => exact HZ.out
      case measure => simp [intOf]; omega
    ·by_cases h24 : m = 24
     ·have hE : P = .error p := hts none (by
       simp only [mstep, if_neg h0]
       rw [if_pos (by simp only [zA8]; omega)])
      subst hE
      subst h24
      clear hts h0 HRN HBY
      go_wp2_with fail
      refine (show Calls Tryz.prog 90 #[.agg #[.int .u8 91, .string s, .int .i64 p]] v _ from fault9_any ⟨91, s, p⟩ v).mono ?_
      rintro e wf ⟨rfl, hbf⟩
      have hgf := RowAt.below (w := v) (w' := wf) HGF.out hbf HGF.out.lt
      have c0 := (hgf.cell 0).trans rfl
      have c1 := (hgf.cell 1).trans rfl
      have x0 := hgf.free 0
      have x1 := hgf.free 1
      have HBF : Hid (Below w.heap.size w wf) := (HWV.out).trans (hbf.mono (HWV.out).size)
      have HGFF := zh hgf
      clear hbf hgf
      go_wp2
      have hgf := (HGFF.out.put 0 (.int .i64 2)).put 1 (.int .i64 p)
      exact bodyPost_ret (ret_slot_cell rfl _ _ _ w.heap.size _ _ (0, 0) _ rfl rfl hgf Tryz.underlying39 rfl (fault_info _ _)) rfl ⟨(HBF.out.setCell (p := ⟨w.heap.size, 0, none⟩) (zL _) _).setCell (p := ⟨w.heap.size, 1, none⟩) (zL _) _, rfl⟩
     ·have HRUN : Hid (mrun (l.drop (i + 1)) (.mk ⟨91, s, p⟩ none 0 [] 0 :: er1 f :: er gs.reverse) = P) := hts (some _) (by
       simp only [mstep, if_neg h0]
       rw [if_neg (by simp only [zA8]; omega)])
      have e24 : ((m : Int) == 24) = false := by rw [beq_eq_false_iff_ne]; omega
      have HSV := zh (HST.out.same (w' := v.alloc (.cells #[.int .u8 91, .string s, .int .i64 p, .slice none 0 0, .int .i64 0] 104)) (heap_alloc_old v _ HST.out.lt))
      have HNW : Hid (∀ j u, ([.int .u8 91, .string s, .int .i64 p, .slice none 0 0, .int .i64 0] : List Value)[j]? = some u → (v.alloc (.cells #[.int .u8 91, .string s, .int .i64 p, .slice none 0 0, .int .i64 0] 104)).cell? ⟨v.heap.size, j, none⟩ = some u) := fun j u hu => by
           rw [World.cell?_alloc_at _ _ _ _ rfl]
           simpa using hu
      have hle : w.heap.size + 1 ≤ v.heap.size := by have := HGF.out.lt; omega
      clear hts h0 HBY
      go_wp2_with (first | (at_builtin; refine wpList_push rfl _ _ 42 rfl (.agg #[.int .u8 0, .string ⟨#[]⟩, .int .i64 0, .slice none 0 0, .int .i64 0]) Tryz.underlying42 infoTree rfl (w.heap.size + 1) g (m + 1) d (tcs (gs ++ [f])) rfl HSV.out v.heap.size [.int .u8 91, .string s, .int .i64 p, .slice none 0 0, .int .i64 0] rfl rfl HNW.out (by simp [Value.oneCell']) (by omega) (by rw [World.size_alloc]; omega) ?_))
      intro g2 d2 w4 hst4 hg4 hbut hb4
      have HZ := zh (read_open (t := ⟨91, s, p⟩) (n := n) (v := v) (wz := w4) (d2 := d2) (g := g) (g2 := g2) (by omega) (by rw [HM.out]; omega) (by rw [HM.out]; exact hst4) HFI.out (by rw [HM.out]; exact HFL.out) HRG.out HRN.out HKG.out hfl HBT.out HRUN.out ((HGF.out.alloc _).below hb4 (zS _)) ((HWV.out.alloc HWV.out.size _).trans (hb4.mono (Nat.le_succ _))) (hg4.imp id (fun h => Nat.le_of_succ_le h)) ((But.below g ((zB _ _).alloc (zL _) _)).trans hbut))
      rw [HM.out] at HZ
      clear hst4 hg4 hbut hb4 HSV HNW
      go_wp2
      go_roundw
      case rel => exact HZ.out
      case measure => simp [intOf]; omega
    ·exact absurd h h0
   cases hcz : cls k
   focus
        have HRUN : Hid (mrun (l.drop (i + 1)) (push (er1 f) (er1 (.mk ⟨k, s, p⟩ none 0 [] p)) :: er gs.reverse) = P) := hts (some _) (by simp [mstep, h0, hcz, er1, Tr.t, Tr.ks, Tr.e, er])
        have HX1 : Hid (SlC v (fun b => w.heap.size + 1 ≤ b ∧ role b = 0) (Tr.mk ⟨k, s, p⟩ none 0 [] p).A (tcs (Tr.mk ⟨k, s, p⟩ none 0 [] p).ks)) := SlC.nil _ _ _
        have HX3 : Hid ((Tr.mk ⟨k, s, p⟩ none 0 [] p).ks.length ≤ (Tr.mk ⟨k, s, p⟩ none 0 [] p).c) := zL 0
        have HX2 : Hid (Deep v (fun b => w.heap.size + 1 ≤ b ∧ role b = 0) (Tr.mk ⟨k, s, p⟩ none 0 [] p).ks) := Deep.nil _ _
        have HBX : Hid (RowAt v g8 104 (trv (Tr.mk ⟨k, s, p⟩ none 0 [] p))) := HBY.out
        have hcc := cl_cases k
        have hcs := cls_cases k
        have e40 : ((k : Int) == 40) = false := by rw [beq_eq_false_iff_ne]; omega
        have e123 : ((k : Int) == 123) = false := by rw [beq_eq_false_iff_ne]; omega
        have e91 : ((k : Int) == 91) = false := by rw [beq_eq_false_iff_ne]; omega
        have e41 : ((k : Int) == 41) = false := by rw [beq_eq_false_iff_ne]; rcases hcs with ⟨_, h⟩ | ⟨_, h⟩ | ⟨_, h⟩ | ⟨h1, h2, h3, _⟩ <;> first | (rw [hcz] at h; cases h) | omega
        have e125 : ((k : Int) == 125) = false := by rw [beq_eq_false_iff_ne]; rcases hcs with ⟨_, h⟩ | ⟨_, h⟩ | ⟨_, h⟩ | ⟨h1, h2, h3, _⟩ <;> first | (rw [hcz] at h; cases h) | omega
        have e93 : ((k : Int) == 93) = false := by rw [beq_eq_false_iff_ne]; rcases hcs with ⟨_, h⟩ | ⟨_, h⟩ | ⟨_, h⟩ | ⟨h1, h2, h3, _⟩ <;> first | (rw [hcz] at h; cases h) | omega
        clear hts h0 hcz hcc hcs HBY
        generalize Tr.mk ⟨k, s, p⟩ none 0 [] p = x at *
        go_upto_region 23 with fail
        clear b60 b61 b62 e40 e123 e91 e41 e125 e93
   rotate_left
   focus
        rcases cls_cases k with ⟨rfl, _⟩ | ⟨rfl, _⟩ | ⟨rfl, _⟩ | ⟨_, _, _, h⟩
        rotate_left 3
        ·rw [hcz] at h; cases h
        focus
         obtain ⟨f0, hf0⟩ : ∃ z, z = f := ⟨f, rfl⟩
         subst hf0
         have s0 : v.cell? ⟨g, m * 5, none⟩ = some (.int .u8 (f0.t.k : Int)) := HST.out.cell (by have := HTOP.out 0; rw [Nat.add_zero] at this; rw [this]; rfl)
         have s1 : v.cell? ⟨g, m * 5 + 1, none⟩ = some (.string f0.t.s) := HST.out.cell (by rw [HTOP.out]; rfl)
         have s2 : v.cell? ⟨g, m * 5 + 2, none⟩ = some (.int .i64 f0.t.p) := HST.out.cell (by rw [HTOP.out]; rfl)
         have s3 : v.cell? ⟨g, m * 5 + 3, none⟩ = some (.slice f0.A f0.ks.length f0.c) := HST.out.cell (by rw [HTOP.out]; rfl)
         have s4 : v.cell? ⟨g, m * 5 + 4, none⟩ = some (.int .i64 f0.e) := HST.out.cell (by rw [HTOP.out]; rfl)
         go_upto_region 17 with fail
         go_upto_region 18 with (first | (refine wpList_store_row (by rfl) _ _ _ rfl g8 #[.int .u8 (f0.t.k : Int), .string f0.t.s, .int .i64 f0.t.p, .slice f0.A f0.ks.length f0.c, .int .i64 f0.e] rfl rfl _ _ HBY.out (tree_size _ _ _ _ _) rfl (by simp [Value.oneCell']) ?_))
         have hbut := But.setRow v g8 #[.int .u8 (f0.t.k : Int), .string f0.t.s, .int .i64 f0.t.p, .slice f0.A f0.ks.length f0.c, .int .i64 f0.e]
         have r8 : RowAt (v.setRow g8 #[.int .u8 (f0.t.k : Int), .string f0.t.s, .int .i64 f0.t.p, .slice f0.A f0.ks.length f0.c, .int .i64 f0.e]) g8 104 #[.int .u8 (f0.t.k : Int), .string f0.t.s, .int .i64 f0.t.p, .slice f0.A f0.ks.length f0.c, .int .i64 f0.e] := HBY.out.setRow _
         have R62 : Hid (RowAt (v.setRow g8 #[.int .u8 (f0.t.k : Int), .string f0.t.s, .int .i64 f0.t.p, .slice f0.A f0.ks.length f0.c, .int .i64 f0.e]) g6 78 #[.int .u8 41, .string s, .int .i64 p]) := (hbut.block g6 R6.out.lt (by have := HG68.out; omega)).trans R6.out
         have HST2 := zh (HST.out.same (hbut.block g HST.out.lt (fun e => HG8.out e.symm)))
         have HFI2 := zh (HFI.out.but HR8.out hbut)
         have HFL2 := zh (HFL.out.but HR8.out hbut)
         have HG0N : Hid (w.heap.size ≠ g8) := by have := HG08.out; have := HG68.out; show _ ≠ _; omega
         have HGF2 : Hid (RowAt (v.setRow g8 #[.int .u8 (f0.t.k : Int), .string f0.t.s, .int .i64 f0.t.p, .slice f0.A f0.ks.length f0.c, .int .i64 f0.e]) w.heap.size 39 #[.int .i64 0, .int .i64 0]) := (hbut.block _ HGF.out.lt HG0N.out).trans HGF.out
         have HWV2 := zh (HWV.out.trans (below_setRow (B := w.heap.size) (w := v) (g := g8) (by have := HG08.out; have := HG68.out; omega) #[.int .u8 (f0.t.k : Int), .string f0.t.s, .int .i64 f0.t.p, .slice f0.A f0.ks.length f0.c, .int .i64 f0.e]))
         have HRN2 : Hid (∀ b, (v.setRow g8 #[.int .u8 (f0.t.k : Int), .string f0.t.s, .int .i64 f0.t.p, .slice f0.A f0.ks.length f0.c, .int .i64 f0.e]).heap.size ≤ b → role b = 1) := fun b hb => HRN.out b (zM hbut.size hb)
         have HBY2 := zh r8
         clear hbut r8 b60 b61 b62 s0 s1 s2 s3 s4 HST HFI HFL HGF HWV HRN HBY R6
         generalize v.setRow g8 #[.int .u8 (f0.t.k : Int), .string f0.t.s, .int .i64 f0.t.p, .slice f0.A f0.ks.length f0.c, .int .i64 f0.e] = v2 at *
         have b60 := (R62.out.cell 0).trans rfl
         have b61 := (R62.out.cell 1).trans rfl
         have b62 := (R62.out.cell 2).trans rfl
         have b80 := (HBY2.out.cell 0).trans rfl
         have b84 := (HBY2.out.cell 4).trans rfl
         have f84 := HBY2.out.free 4
         by_cases heq : cl f0.t.k = 41
         rotate_left
         ·have hE : P = .error p := hts none (by
           have e1 : ¬ cl (er1 f0).t.k = 41 := heq
           cases er gs.reverse with
           | nil => simp only [mstep, if_pos h0, if_pos hcz]
           | cons y r => simp only [mstep, if_pos h0, if_pos hcz, if_neg e1])
          subst hE
          have hcl := fun W => closer_any f0.t.k W
          have hqn : (((cl f0.t.k : Nat) : Int) != 41) = true := by simp; omega
          generalize cl f0.t.k = q at *
          have HCL := zh hcl
          clear hts hcl h0 hcz heq HRN2 HBY2 HFI2 HFL2
          generalize f0.t.k = kf at *
          go_quiet ((go_at_call 91; exact quiet_same (HCL.out _)))
          go_wp2_with fail
          refine (show Calls Tryz.prog 90 #[.agg #[.int .u8 41, .string s, .int .i64 p]] (v2.drewN nq) _ from fault9_any ⟨41, s, p⟩ (v2.drewN nq)).mono ?_
          rintro e wf ⟨rfl, hbf⟩
          have hgf := RowAt.below (w := (v2.drewN nq)) (w' := wf) HGF2.out hbf HGF2.out.lt
          have c0 := (hgf.cell 0).trans rfl
          have c1 := (hgf.cell 1).trans rfl
          have x0 := hgf.free 0
          have x1 := hgf.free 1
          have HBF : Hid (Below w.heap.size w wf) := ((bdrewN HWV2.out nq)).trans (hbf.mono ((bdrewN HWV2.out nq)).size)
          have HGFF := zh hgf
          clear hbf hgf
          go_wp2
          have hgf := (HGFF.out.put 0 (.int .i64 2)).put 1 (.int .i64 p)
          exact bodyPost_ret (ret_slot_cell rfl _ _ _ w.heap.size _ _ (0, 0) _ rfl rfl hgf Tryz.underlying39 rfl (fault_info _ _)) rfl ⟨(HBF.out.setCell (p := ⟨w.heap.size, 0, none⟩) (zL _) _).setCell (p := ⟨w.heap.size, 1, none⟩) (zL _) _, rfl⟩
         have hgne : gs ≠ [] := fun e => by
          subst e
          have hb : f0.t = t0 := HBT.out
          rw [hb] at heq
          exact absurd heq (by decide)
         obtain ⟨gs, f, rfl⟩ : ∃ hs g2, gs = hs ++ [g2] := ⟨gs.dropLast, gs.getLast hgne, (List.dropLast_concat_getLast _).symm⟩
         have hrun2 := hts (some (push (er1 f) (.mk f0.t none 0 (er f0.ks) p) :: er gs.reverse)) (by
          rw [er_top]
          have e1 : cl (er1 f0).t.k = 41 := heq
          simp only [mstep, if_pos h0, if_pos hcz, e1, if_true]
          rfl)
         obtain ⟨m, rfl⟩ : ∃ m1, m = m1 + 1 := ⟨gs.length, by have := HM.out; rw [zA7, List.length_singleton] at this; exact this.symm⟩
         have hm1 : gs.length = m := by have := HM.out; rw [zA7, List.length_singleton] at this; omega
         have hmd : m + 1 + 1 ≤ d := HST2.out.2.1
         have hz2 : IntKind.i64.wrap ((m : Int) + 1 - 1) = (m : Int) := by rw [IntKind.wrap_i64] <;> omega
         have hcl := fun W => closer_any f0.t.k W
         rw [heq] at hcl
         have HCL := zh hcl
         clear hts hcl h0 hcz hgne
         generalize hkf : f0.t.k = kf at *
         go_quiet ((go_at_call 91; exact quiet_same (HCL.out _)))
         go_upto_region 23 with fail
         have HB2 : Hid (But g8 v2 ((v2.drewN nq).setCell ⟨g8, 4, none⟩ (.int .i64 p))) := ⟨(But.setCell (v2.drewN nq) g8 4 (.int .i64 p)).size, (But.setCell (v2.drewN nq) g8 4 (.int .i64 p)).block⟩
         have HGRS := zh (HFI2.out.but HR8.out HB2.out)
         have HSH := zh (HFL2.out.but HR8.out HB2.out).shut
         have HFS := zh HGRS.out.shut
         have HST := zh ((HST2.out.same (HB2.out.block g HST2.out.lt (fun e => HG8.out e.symm))).cut (m + 1) (Nat.le_succ _))
         rw [HCUT.out] at HST
         have hlen : (gs ++ [f]).length = m + 1 := HM.out
         rw [hlen] at HFS
         have HFI := zh HFS.out.init
         have HFL := zh HFS.out.last
         rw [hm1] at HFL
         have HMs := zh hm1
         have HRN : Hid (∀ b, ((v2.drewN nq).setCell ⟨g8, 4, none⟩ (.int .i64 p)).heap.size ≤ b → shutR role (m + 1) b = 1) := fun b hb => shutR_one (HRN2.out b (zM HB2.out.size hb))
         have HRGs : Hid (shutR role (m + 1) g = 1) := shutR_one HRG.out
         have HR8s : Hid (shutR role (m + 1) g8 = 1) := shutR_one HR8.out
         have HBX : Hid (RowAt ((v2.drewN nq).setCell ⟨g8, 4, none⟩ (.int .i64 p)) g8 104 (trv (Tr.mk f0.t f0.A f0.c f0.ks p))) := by
          have h := (HBY2.out.drewN nq).put 4 (.int .i64 p)
          rw [← hkf] at h
          exact h
         have HX1 : Hid (SlC ((v2.drewN nq).setCell ⟨g8, 4, none⟩ (.int .i64 p)) (fun b => w.heap.size + 1 ≤ b ∧ shutR role (m + 1) b = 0) (Tr.mk f0.t f0.A f0.c f0.ks p).A (tcs (Tr.mk f0.t f0.A f0.c f0.ks p).ks)) := HSH.out.1
         have HX3 : Hid ((Tr.mk f0.t f0.A f0.c f0.ks p).ks.length ≤ (Tr.mk f0.t f0.A f0.c f0.ks p).c) := own_cap_le HFL2.out.1
         have HX2 : Hid (Deep ((v2.drewN nq).setCell ⟨g8, 4, none⟩ (.int .i64 p)) (fun b => w.heap.size + 1 ≤ b ∧ shutR role (m + 1) b = 0) (Tr.mk f0.t f0.A f0.c f0.ks p).ks) := HSH.out.2
         have HGF : Hid (RowAt ((v2.drewN nq).setCell ⟨g8, 4, none⟩ (.int .i64 p)) w.heap.size 39 #[.int .i64 0, .int .i64 0]) := (HB2.out.block _ HGF2.out.lt HG0N.out).trans HGF2.out
         have HWV : Hid (Below w.heap.size w ((v2.drewN nq).setCell ⟨g8, 4, none⟩ (.int .i64 p))) := (bdrewN HWV2.out nq).setCell (p := ⟨g8, 4, none⟩) (by have := HG08.out; have := HG68.out; show w.heap.size ≤ g8; omega) _
         have HRUN : Hid (mrun (l.drop (i + 1)) (push (er1 f) (er1 (Tr.mk f0.t f0.A f0.c f0.ks p)) :: er gs.reverse) = P) := hrun2
         have hfls : f.ks.length ≤ i := HKG.out f (by simp)
         have HKGs : Hid (∀ y ∈ gs, y.ks.length ≤ i) := fun y hy => HKG.out y (by simp [hy])
         have HBTs : Hid (((gs ++ [f]).getD 0 r0).t = t0) := by
          have h := HBT.out
          rw [getD_init _ _ (by simp)] at h
          exact h
         have HTOPs : Hid (∀ j, (tcs (gs ++ [f]))[m * 5 + j]? = (rcells f)[j]?) := fun j => by have := tcs_top gs f j; rw [hm1] at this; exact this
         have hi25 : m + 1 ≤ 25 := by omega
         clear HB2 HGRS HSH HFS HCUT hlen hrun2 HBY2 R62 hm1 HCL b60 b61 b62 b80 b84 f84 hmd hf25 HRG HR8 HM hfl HKG HBT HTOP HST2 HFI2 HFL2 HGF2 HWV2 HRN2
         have HRG := HRGs; have HR8 := HR8s; have HM := HMs; have hfl := hfls; have HKG := HKGs; have HBT := HBTs; have HTOP := HTOPs
         clear HRGs HR8s HMs hfls HKGs HBTs HTOPs
         generalize Tr.mk f0.t f0.A f0.c f0.ks p = x at *
         generalize shutR role (m + 1) = role at *
         generalize (v2.drewN nq).setCell ⟨g8, 4, none⟩ (.int .i64 p) = v at *
        rotate_left
        focus
         obtain ⟨f0, hf0⟩ : ∃ z, z = f := ⟨f, rfl⟩
         subst hf0
         have s0 : v.cell? ⟨g, m * 5, none⟩ = some (.int .u8 (f0.t.k : Int)) := HST.out.cell (by have := HTOP.out 0; rw [Nat.add_zero] at this; rw [this]; rfl)
         have s1 : v.cell? ⟨g, m * 5 + 1, none⟩ = some (.string f0.t.s) := HST.out.cell (by rw [HTOP.out]; rfl)
         have s2 : v.cell? ⟨g, m * 5 + 2, none⟩ = some (.int .i64 f0.t.p) := HST.out.cell (by rw [HTOP.out]; rfl)
         have s3 : v.cell? ⟨g, m * 5 + 3, none⟩ = some (.slice f0.A f0.ks.length f0.c) := HST.out.cell (by rw [HTOP.out]; rfl)
         have s4 : v.cell? ⟨g, m * 5 + 4, none⟩ = some (.int .i64 f0.e) := HST.out.cell (by rw [HTOP.out]; rfl)
         go_upto_region 17 with fail
         go_upto_region 18 with (first | (refine wpList_store_row (by rfl) _ _ _ rfl g8 #[.int .u8 (f0.t.k : Int), .string f0.t.s, .int .i64 f0.t.p, .slice f0.A f0.ks.length f0.c, .int .i64 f0.e] rfl rfl _ _ HBY.out (tree_size _ _ _ _ _) rfl (by simp [Value.oneCell']) ?_))
         have hbut := But.setRow v g8 #[.int .u8 (f0.t.k : Int), .string f0.t.s, .int .i64 f0.t.p, .slice f0.A f0.ks.length f0.c, .int .i64 f0.e]
         have r8 : RowAt (v.setRow g8 #[.int .u8 (f0.t.k : Int), .string f0.t.s, .int .i64 f0.t.p, .slice f0.A f0.ks.length f0.c, .int .i64 f0.e]) g8 104 #[.int .u8 (f0.t.k : Int), .string f0.t.s, .int .i64 f0.t.p, .slice f0.A f0.ks.length f0.c, .int .i64 f0.e] := HBY.out.setRow _
         have R62 : Hid (RowAt (v.setRow g8 #[.int .u8 (f0.t.k : Int), .string f0.t.s, .int .i64 f0.t.p, .slice f0.A f0.ks.length f0.c, .int .i64 f0.e]) g6 78 #[.int .u8 125, .string s, .int .i64 p]) := (hbut.block g6 R6.out.lt (by have := HG68.out; omega)).trans R6.out
         have HST2 := zh (HST.out.same (hbut.block g HST.out.lt (fun e => HG8.out e.symm)))
         have HFI2 := zh (HFI.out.but HR8.out hbut)
         have HFL2 := zh (HFL.out.but HR8.out hbut)
         have HG0N : Hid (w.heap.size ≠ g8) := by have := HG08.out; have := HG68.out; show _ ≠ _; omega
         have HGF2 : Hid (RowAt (v.setRow g8 #[.int .u8 (f0.t.k : Int), .string f0.t.s, .int .i64 f0.t.p, .slice f0.A f0.ks.length f0.c, .int .i64 f0.e]) w.heap.size 39 #[.int .i64 0, .int .i64 0]) := (hbut.block _ HGF.out.lt HG0N.out).trans HGF.out
         have HWV2 := zh (HWV.out.trans (below_setRow (B := w.heap.size) (w := v) (g := g8) (by have := HG08.out; have := HG68.out; omega) #[.int .u8 (f0.t.k : Int), .string f0.t.s, .int .i64 f0.t.p, .slice f0.A f0.ks.length f0.c, .int .i64 f0.e]))
         have HRN2 : Hid (∀ b, (v.setRow g8 #[.int .u8 (f0.t.k : Int), .string f0.t.s, .int .i64 f0.t.p, .slice f0.A f0.ks.length f0.c, .int .i64 f0.e]).heap.size ≤ b → role b = 1) := fun b hb => HRN.out b (zM hbut.size hb)
         have HBY2 := zh r8
         clear hbut r8 b60 b61 b62 s0 s1 s2 s3 s4 HST HFI HFL HGF HWV HRN HBY R6
         generalize v.setRow g8 #[.int .u8 (f0.t.k : Int), .string f0.t.s, .int .i64 f0.t.p, .slice f0.A f0.ks.length f0.c, .int .i64 f0.e] = v2 at *
         have b60 := (R62.out.cell 0).trans rfl
         have b61 := (R62.out.cell 1).trans rfl
         have b62 := (R62.out.cell 2).trans rfl
         have b80 := (HBY2.out.cell 0).trans rfl
         have b84 := (HBY2.out.cell 4).trans rfl
         have f84 := HBY2.out.free 4
         by_cases heq : cl f0.t.k = 125
         rotate_left
         ·have hE : P = .error p := hts none (by
           have e1 : ¬ cl (er1 f0).t.k = 125 := heq
           cases er gs.reverse with
           | nil => simp only [mstep, if_pos h0, if_pos hcz]
           | cons y r => simp only [mstep, if_pos h0, if_pos hcz, if_neg e1])
          subst hE
          have hcl := fun W => closer_any f0.t.k W
          have hqn : (((cl f0.t.k : Nat) : Int) != 125) = true := by simp; omega
          generalize cl f0.t.k = q at *
          have HCL := zh hcl
          clear hts hcl h0 hcz heq HRN2 HBY2 HFI2 HFL2
          generalize f0.t.k = kf at *
          go_quiet ((go_at_call 91; exact quiet_same (HCL.out _)))
          go_wp2_with fail
          refine (show Calls Tryz.prog 90 #[.agg #[.int .u8 125, .string s, .int .i64 p]] (v2.drewN nq) _ from fault9_any ⟨125, s, p⟩ (v2.drewN nq)).mono ?_
          rintro e wf ⟨rfl, hbf⟩
          have hgf := RowAt.below (w := (v2.drewN nq)) (w' := wf) HGF2.out hbf HGF2.out.lt
          have c0 := (hgf.cell 0).trans rfl
          have c1 := (hgf.cell 1).trans rfl
          have x0 := hgf.free 0
          have x1 := hgf.free 1
          have HBF : Hid (Below w.heap.size w wf) := ((bdrewN HWV2.out nq)).trans (hbf.mono ((bdrewN HWV2.out nq)).size)
          have HGFF := zh hgf
          clear hbf hgf
          go_wp2
          have hgf := (HGFF.out.put 0 (.int .i64 2)).put 1 (.int .i64 p)
          exact bodyPost_ret (ret_slot_cell rfl _ _ _ w.heap.size _ _ (0, 0) _ rfl rfl hgf Tryz.underlying39 rfl (fault_info _ _)) rfl ⟨(HBF.out.setCell (p := ⟨w.heap.size, 0, none⟩) (zL _) _).setCell (p := ⟨w.heap.size, 1, none⟩) (zL _) _, rfl⟩
         have hgne : gs ≠ [] := fun e => by
          subst e
          have hb : f0.t = t0 := HBT.out
          rw [hb] at heq
          exact absurd heq (by decide)
         obtain ⟨gs, f, rfl⟩ : ∃ hs g2, gs = hs ++ [g2] := ⟨gs.dropLast, gs.getLast hgne, (List.dropLast_concat_getLast _).symm⟩
         have hrun2 := hts (some (push (er1 f) (.mk f0.t none 0 (er f0.ks) p) :: er gs.reverse)) (by
          rw [er_top]
          have e1 : cl (er1 f0).t.k = 125 := heq
          simp only [mstep, if_pos h0, if_pos hcz, e1, if_true]
          rfl)
         obtain ⟨m, rfl⟩ : ∃ m1, m = m1 + 1 := ⟨gs.length, by have := HM.out; rw [zA7, List.length_singleton] at this; exact this.symm⟩
         have hm1 : gs.length = m := by have := HM.out; rw [zA7, List.length_singleton] at this; omega
         have hmd : m + 1 + 1 ≤ d := HST2.out.2.1
         have hz2 : IntKind.i64.wrap ((m : Int) + 1 - 1) = (m : Int) := by rw [IntKind.wrap_i64] <;> omega
         have hcl := fun W => closer_any f0.t.k W
         rw [heq] at hcl
         have HCL := zh hcl
         clear hts hcl h0 hcz hgne
         generalize hkf : f0.t.k = kf at *
         go_quiet ((go_at_call 91; exact quiet_same (HCL.out _)))
         go_upto_region 23 with fail
         have HB2 : Hid (But g8 v2 ((v2.drewN nq).setCell ⟨g8, 4, none⟩ (.int .i64 p))) := ⟨(But.setCell (v2.drewN nq) g8 4 (.int .i64 p)).size, (But.setCell (v2.drewN nq) g8 4 (.int .i64 p)).block⟩
         have HGRS := zh (HFI2.out.but HR8.out HB2.out)
         have HSH := zh (HFL2.out.but HR8.out HB2.out).shut
         have HFS := zh HGRS.out.shut
         have HST := zh ((HST2.out.same (HB2.out.block g HST2.out.lt (fun e => HG8.out e.symm))).cut (m + 1) (Nat.le_succ _))
         rw [HCUT.out] at HST
         have hlen : (gs ++ [f]).length = m + 1 := HM.out
         rw [hlen] at HFS
         have HFI := zh HFS.out.init
         have HFL := zh HFS.out.last
         rw [hm1] at HFL
         have HMs := zh hm1
         have HRN : Hid (∀ b, ((v2.drewN nq).setCell ⟨g8, 4, none⟩ (.int .i64 p)).heap.size ≤ b → shutR role (m + 1) b = 1) := fun b hb => shutR_one (HRN2.out b (zM HB2.out.size hb))
         have HRGs : Hid (shutR role (m + 1) g = 1) := shutR_one HRG.out
         have HR8s : Hid (shutR role (m + 1) g8 = 1) := shutR_one HR8.out
         have HBX : Hid (RowAt ((v2.drewN nq).setCell ⟨g8, 4, none⟩ (.int .i64 p)) g8 104 (trv (Tr.mk f0.t f0.A f0.c f0.ks p))) := by
          have h := (HBY2.out.drewN nq).put 4 (.int .i64 p)
          rw [← hkf] at h
          exact h
         have HX1 : Hid (SlC ((v2.drewN nq).setCell ⟨g8, 4, none⟩ (.int .i64 p)) (fun b => w.heap.size + 1 ≤ b ∧ shutR role (m + 1) b = 0) (Tr.mk f0.t f0.A f0.c f0.ks p).A (tcs (Tr.mk f0.t f0.A f0.c f0.ks p).ks)) := HSH.out.1
         have HX3 : Hid ((Tr.mk f0.t f0.A f0.c f0.ks p).ks.length ≤ (Tr.mk f0.t f0.A f0.c f0.ks p).c) := own_cap_le HFL2.out.1
         have HX2 : Hid (Deep ((v2.drewN nq).setCell ⟨g8, 4, none⟩ (.int .i64 p)) (fun b => w.heap.size + 1 ≤ b ∧ shutR role (m + 1) b = 0) (Tr.mk f0.t f0.A f0.c f0.ks p).ks) := HSH.out.2
         have HGF : Hid (RowAt ((v2.drewN nq).setCell ⟨g8, 4, none⟩ (.int .i64 p)) w.heap.size 39 #[.int .i64 0, .int .i64 0]) := (HB2.out.block _ HGF2.out.lt HG0N.out).trans HGF2.out
         have HWV : Hid (Below w.heap.size w ((v2.drewN nq).setCell ⟨g8, 4, none⟩ (.int .i64 p))) := (bdrewN HWV2.out nq).setCell (p := ⟨g8, 4, none⟩) (by have := HG08.out; have := HG68.out; show w.heap.size ≤ g8; omega) _
         have HRUN : Hid (mrun (l.drop (i + 1)) (push (er1 f) (er1 (Tr.mk f0.t f0.A f0.c f0.ks p)) :: er gs.reverse) = P) := hrun2
         have hfls : f.ks.length ≤ i := HKG.out f (by simp)
         have HKGs : Hid (∀ y ∈ gs, y.ks.length ≤ i) := fun y hy => HKG.out y (by simp [hy])
         have HBTs : Hid (((gs ++ [f]).getD 0 r0).t = t0) := by
          have h := HBT.out
          rw [getD_init _ _ (by simp)] at h
          exact h
         have HTOPs : Hid (∀ j, (tcs (gs ++ [f]))[m * 5 + j]? = (rcells f)[j]?) := fun j => by have := tcs_top gs f j; rw [hm1] at this; exact this
         have hi25 : m + 1 ≤ 25 := by omega
         clear HB2 HGRS HSH HFS HCUT hlen hrun2 HBY2 R62 hm1 HCL b60 b61 b62 b80 b84 f84 hmd hf25 HRG HR8 HM hfl HKG HBT HTOP HST2 HFI2 HFL2 HGF2 HWV2 HRN2
         have HRG := HRGs; have HR8 := HR8s; have HM := HMs; have hfl := hfls; have HKG := HKGs; have HBT := HBTs; have HTOP := HTOPs
         clear HRGs HR8s HMs hfls HKGs HBTs HTOPs
         generalize Tr.mk f0.t f0.A f0.c f0.ks p = x at *
         generalize shutR role (m + 1) = role at *
         generalize (v2.drewN nq).setCell ⟨g8, 4, none⟩ (.int .i64 p) = v at *
        rotate_left
        focus
         obtain ⟨f0, hf0⟩ : ∃ z, z = f := ⟨f, rfl⟩
         subst hf0
         have s0 : v.cell? ⟨g, m * 5, none⟩ = some (.int .u8 (f0.t.k : Int)) := HST.out.cell (by have := HTOP.out 0; rw [Nat.add_zero] at this; rw [this]; rfl)
         have s1 : v.cell? ⟨g, m * 5 + 1, none⟩ = some (.string f0.t.s) := HST.out.cell (by rw [HTOP.out]; rfl)
         have s2 : v.cell? ⟨g, m * 5 + 2, none⟩ = some (.int .i64 f0.t.p) := HST.out.cell (by rw [HTOP.out]; rfl)
         have s3 : v.cell? ⟨g, m * 5 + 3, none⟩ = some (.slice f0.A f0.ks.length f0.c) := HST.out.cell (by rw [HTOP.out]; rfl)
         have s4 : v.cell? ⟨g, m * 5 + 4, none⟩ = some (.int .i64 f0.e) := HST.out.cell (by rw [HTOP.out]; rfl)
         go_upto_region 17 with fail
         go_upto_region 18 with (first | (refine wpList_store_row (by rfl) _ _ _ rfl g8 #[.int .u8 (f0.t.k : Int), .string f0.t.s, .int .i64 f0.t.p, .slice f0.A f0.ks.length f0.c, .int .i64 f0.e] rfl rfl _ _ HBY.out (tree_size _ _ _ _ _) rfl (by simp [Value.oneCell']) ?_))
         have hbut := But.setRow v g8 #[.int .u8 (f0.t.k : Int), .string f0.t.s, .int .i64 f0.t.p, .slice f0.A f0.ks.length f0.c, .int .i64 f0.e]
         have r8 : RowAt (v.setRow g8 #[.int .u8 (f0.t.k : Int), .string f0.t.s, .int .i64 f0.t.p, .slice f0.A f0.ks.length f0.c, .int .i64 f0.e]) g8 104 #[.int .u8 (f0.t.k : Int), .string f0.t.s, .int .i64 f0.t.p, .slice f0.A f0.ks.length f0.c, .int .i64 f0.e] := HBY.out.setRow _
         have R62 : Hid (RowAt (v.setRow g8 #[.int .u8 (f0.t.k : Int), .string f0.t.s, .int .i64 f0.t.p, .slice f0.A f0.ks.length f0.c, .int .i64 f0.e]) g6 78 #[.int .u8 93, .string s, .int .i64 p]) := (hbut.block g6 R6.out.lt (by have := HG68.out; omega)).trans R6.out
         have HST2 := zh (HST.out.same (hbut.block g HST.out.lt (fun e => HG8.out e.symm)))
         have HFI2 := zh (HFI.out.but HR8.out hbut)
         have HFL2 := zh (HFL.out.but HR8.out hbut)
         have HG0N : Hid (w.heap.size ≠ g8) := by have := HG08.out; have := HG68.out; show _ ≠ _; omega
         have HGF2 : Hid (RowAt (v.setRow g8 #[.int .u8 (f0.t.k : Int), .string f0.t.s, .int .i64 f0.t.p, .slice f0.A f0.ks.length f0.c, .int .i64 f0.e]) w.heap.size 39 #[.int .i64 0, .int .i64 0]) := (hbut.block _ HGF.out.lt HG0N.out).trans HGF.out
         have HWV2 := zh (HWV.out.trans (below_setRow (B := w.heap.size) (w := v) (g := g8) (by have := HG08.out; have := HG68.out; omega) #[.int .u8 (f0.t.k : Int), .string f0.t.s, .int .i64 f0.t.p, .slice f0.A f0.ks.length f0.c, .int .i64 f0.e]))
         have HRN2 : Hid (∀ b, (v.setRow g8 #[.int .u8 (f0.t.k : Int), .string f0.t.s, .int .i64 f0.t.p, .slice f0.A f0.ks.length f0.c, .int .i64 f0.e]).heap.size ≤ b → role b = 1) := fun b hb => HRN.out b (zM hbut.size hb)
         have HBY2 := zh r8
         clear hbut r8 b60 b61 b62 s0 s1 s2 s3 s4 HST HFI HFL HGF HWV HRN HBY R6
         generalize v.setRow g8 #[.int .u8 (f0.t.k : Int), .string f0.t.s, .int .i64 f0.t.p, .slice f0.A f0.ks.length f0.c, .int .i64 f0.e] = v2 at *
         have b60 := (R62.out.cell 0).trans rfl
         have b61 := (R62.out.cell 1).trans rfl
         have b62 := (R62.out.cell 2).trans rfl
         have b80 := (HBY2.out.cell 0).trans rfl
         have b84 := (HBY2.out.cell 4).trans rfl
         have f84 := HBY2.out.free 4
         by_cases heq : cl f0.t.k = 93
         rotate_left
         ·have hE : P = .error p := hts none (by
           have e1 : ¬ cl (er1 f0).t.k = 93 := heq
           cases er gs.reverse with
           | nil => simp only [mstep, if_pos h0, if_pos hcz]
           | cons y r => simp only [mstep, if_pos h0, if_pos hcz, if_neg e1])
          subst hE
          have hcl := fun W => closer_any f0.t.k W
          have hqn : (((cl f0.t.k : Nat) : Int) != 93) = true := by simp; omega
          generalize cl f0.t.k = q at *
          have HCL := zh hcl
          clear hts hcl h0 hcz heq HRN2 HBY2 HFI2 HFL2
          generalize f0.t.k = kf at *
          go_quiet ((go_at_call 91; exact quiet_same (HCL.out _)))
          go_wp2_with fail
          refine (show Calls Tryz.prog 90 #[.agg #[.int .u8 93, .string s, .int .i64 p]] (v2.drewN nq) _ from fault9_any ⟨93, s, p⟩ (v2.drewN nq)).mono ?_
          rintro e wf ⟨rfl, hbf⟩
          have hgf := RowAt.below (w := (v2.drewN nq)) (w' := wf) HGF2.out hbf HGF2.out.lt
          have c0 := (hgf.cell 0).trans rfl
          have c1 := (hgf.cell 1).trans rfl
          have x0 := hgf.free 0
          have x1 := hgf.free 1
          have HBF : Hid (Below w.heap.size w wf) := ((bdrewN HWV2.out nq)).trans (hbf.mono ((bdrewN HWV2.out nq)).size)
          have HGFF := zh hgf
          clear hbf hgf
          go_wp2
          have hgf := (HGFF.out.put 0 (.int .i64 2)).put 1 (.int .i64 p)
          exact bodyPost_ret (ret_slot_cell rfl _ _ _ w.heap.size _ _ (0, 0) _ rfl rfl hgf Tryz.underlying39 rfl (fault_info _ _)) rfl ⟨(HBF.out.setCell (p := ⟨w.heap.size, 0, none⟩) (zL _) _).setCell (p := ⟨w.heap.size, 1, none⟩) (zL _) _, rfl⟩
         have hgne : gs ≠ [] := fun e => by
          subst e
          have hb : f0.t = t0 := HBT.out
          rw [hb] at heq
          exact absurd heq (by decide)
         obtain ⟨gs, f, rfl⟩ : ∃ hs g2, gs = hs ++ [g2] := ⟨gs.dropLast, gs.getLast hgne, (List.dropLast_concat_getLast _).symm⟩
         have hrun2 := hts (some (push (er1 f) (.mk f0.t none 0 (er f0.ks) p) :: er gs.reverse)) (by
          rw [er_top]
          have e1 : cl (er1 f0).t.k = 93 := heq
          simp only [mstep, if_pos h0, if_pos hcz, e1, if_true]
          rfl)
         obtain ⟨m, rfl⟩ : ∃ m1, m = m1 + 1 := ⟨gs.length, by have := HM.out; rw [zA7, List.length_singleton] at this; exact this.symm⟩
         have hm1 : gs.length = m := by have := HM.out; rw [zA7, List.length_singleton] at this; omega
         have hmd : m + 1 + 1 ≤ d := HST2.out.2.1
         have hz2 : IntKind.i64.wrap ((m : Int) + 1 - 1) = (m : Int) := by rw [IntKind.wrap_i64] <;> omega
         have hcl := fun W => closer_any f0.t.k W
         rw [heq] at hcl
         have HCL := zh hcl
         clear hts hcl h0 hcz hgne
         generalize hkf : f0.t.k = kf at *
         go_quiet ((go_at_call 91; exact quiet_same (HCL.out _)))
         go_upto_region 23 with fail
         have HB2 : Hid (But g8 v2 ((v2.drewN nq).setCell ⟨g8, 4, none⟩ (.int .i64 p))) := ⟨(But.setCell (v2.drewN nq) g8 4 (.int .i64 p)).size, (But.setCell (v2.drewN nq) g8 4 (.int .i64 p)).block⟩
         have HGRS := zh (HFI2.out.but HR8.out HB2.out)
         have HSH := zh (HFL2.out.but HR8.out HB2.out).shut
         have HFS := zh HGRS.out.shut
         have HST := zh ((HST2.out.same (HB2.out.block g HST2.out.lt (fun e => HG8.out e.symm))).cut (m + 1) (Nat.le_succ _))
         rw [HCUT.out] at HST
         have hlen : (gs ++ [f]).length = m + 1 := HM.out
         rw [hlen] at HFS
         have HFI := zh HFS.out.init
         have HFL := zh HFS.out.last
         rw [hm1] at HFL
         have HMs := zh hm1
         have HRN : Hid (∀ b, ((v2.drewN nq).setCell ⟨g8, 4, none⟩ (.int .i64 p)).heap.size ≤ b → shutR role (m + 1) b = 1) := fun b hb => shutR_one (HRN2.out b (zM HB2.out.size hb))
         have HRGs : Hid (shutR role (m + 1) g = 1) := shutR_one HRG.out
         have HR8s : Hid (shutR role (m + 1) g8 = 1) := shutR_one HR8.out
         have HBX : Hid (RowAt ((v2.drewN nq).setCell ⟨g8, 4, none⟩ (.int .i64 p)) g8 104 (trv (Tr.mk f0.t f0.A f0.c f0.ks p))) := by
          have h := (HBY2.out.drewN nq).put 4 (.int .i64 p)
          rw [← hkf] at h
          exact h
         have HX1 : Hid (SlC ((v2.drewN nq).setCell ⟨g8, 4, none⟩ (.int .i64 p)) (fun b => w.heap.size + 1 ≤ b ∧ shutR role (m + 1) b = 0) (Tr.mk f0.t f0.A f0.c f0.ks p).A (tcs (Tr.mk f0.t f0.A f0.c f0.ks p).ks)) := HSH.out.1
         have HX3 : Hid ((Tr.mk f0.t f0.A f0.c f0.ks p).ks.length ≤ (Tr.mk f0.t f0.A f0.c f0.ks p).c) := own_cap_le HFL2.out.1
         have HX2 : Hid (Deep ((v2.drewN nq).setCell ⟨g8, 4, none⟩ (.int .i64 p)) (fun b => w.heap.size + 1 ≤ b ∧ shutR role (m + 1) b = 0) (Tr.mk f0.t f0.A f0.c f0.ks p).ks) := HSH.out.2
         have HGF : Hid (RowAt ((v2.drewN nq).setCell ⟨g8, 4, none⟩ (.int .i64 p)) w.heap.size 39 #[.int .i64 0, .int .i64 0]) := (HB2.out.block _ HGF2.out.lt HG0N.out).trans HGF2.out
         have HWV : Hid (Below w.heap.size w ((v2.drewN nq).setCell ⟨g8, 4, none⟩ (.int .i64 p))) := (bdrewN HWV2.out nq).setCell (p := ⟨g8, 4, none⟩) (by have := HG08.out; have := HG68.out; show w.heap.size ≤ g8; omega) _
         have HRUN : Hid (mrun (l.drop (i + 1)) (push (er1 f) (er1 (Tr.mk f0.t f0.A f0.c f0.ks p)) :: er gs.reverse) = P) := hrun2
         have hfls : f.ks.length ≤ i := HKG.out f (by simp)
         have HKGs : Hid (∀ y ∈ gs, y.ks.length ≤ i) := fun y hy => HKG.out y (by simp [hy])
         have HBTs : Hid (((gs ++ [f]).getD 0 r0).t = t0) := by
          have h := HBT.out
          rw [getD_init _ _ (by simp)] at h
          exact h
         have HTOPs : Hid (∀ j, (tcs (gs ++ [f]))[m * 5 + j]? = (rcells f)[j]?) := fun j => by have := tcs_top gs f j; rw [hm1] at this; exact this
         have hi25 : m + 1 ≤ 25 := by omega
         clear HB2 HGRS HSH HFS HCUT hlen hrun2 HBY2 R62 hm1 HCL b60 b61 b62 b80 b84 f84 hmd hf25 HRG HR8 HM hfl HKG HBT HTOP HST2 HFI2 HFL2 HGF2 HWV2 HRN2
         have HRG := HRGs; have HR8 := HR8s; have HM := HMs; have hfl := hfls; have HKG := HKGs; have HBT := HBTs; have HTOP := HTOPs
         clear HRGs HR8s HMs hfls HKGs HBTs HTOPs
         generalize Tr.mk f0.t f0.A f0.c f0.ks p = x at *
         generalize shutR role (m + 1) = role at *
         generalize (v2.drewN nq).setCell ⟨g8, 4, none⟩ (.int .i64 p) = v at *
   all_goals
        obtain ⟨S, HS, HKK, HSB⟩ := ex_box g8 104 (trv x) v HBX.out
        have C0 : ∀ w', S w' → w'.cell? ⟨g8, 0, none⟩ = some (.int .u8 (x.t.k : Int)) := fun w' h => ((HKK.out w' h).cell 0).trans rfl
        have C1 : ∀ w', S w' → w'.cell? ⟨g8, 1, none⟩ = some (.string x.t.s) := fun w' h => ((HKK.out w' h).cell 1).trans rfl
        have C2 : ∀ w', S w' → w'.cell? ⟨g8, 2, none⟩ = some (.int .i64 x.t.p) := fun w' h => ((HKK.out w' h).cell 2).trans rfl
        have C3 : ∀ w', S w' → w'.cell? ⟨g8, 3, none⟩ = some (.slice x.A x.ks.length x.c) := fun w' h => ((HKK.out w' h).cell 3).trans rfl
        have C4 : ∀ w', S w' → w'.cell? ⟨g8, 4, none⟩ = some (.int .i64 x.e) := fun w' h => ((HKK.out w' h).cell 4).trans rfl
        have hk3 : v.cell? ⟨g, m * 5 + 3, none⟩ = some (.slice f.A f.ks.length f.c) := HST.out.cell (by rw [HTOP.out]; rfl)
        have HLG := zh HST.out.lt
        have HWG : Hid (w.heap.size + 1 ≤ g) := HST.out.1
        have HFIV : Hid (∀ W, Below v.heap.size v W → Frames W (w.heap.size + 1) role gs) := fun W hb => HFI.out.below hb
        have HFLV : Hid (∀ W, Below v.heap.size v W → FrameOk W (w.heap.size + 1) role m f) := fun W hb => HFL.out.below hb
        have HX1V : Hid (∀ W, Below v.heap.size v W → SlC W (fun b => w.heap.size + 1 ≤ b ∧ role b = 0) x.A (tcs x.ks)) := fun W hb => HX1.out.keep hb.size (fun b hlt _ => hb.block b hlt) (fun _ _ h => h)
        have HX2V : Hid (∀ W, Below v.heap.size v W → Deep W (fun b => w.heap.size + 1 ≤ b ∧ role b = 0) x.ks) := fun W hb => HX2.out.below hb
        have HGFV : Hid (∀ W, Below v.heap.size v W → RowAt W w.heap.size 39 #[.int .i64 0, .int .i64 0]) := fun W hb => HGF.out.below hb HGF.out.lt
        have hlm : (m : Int) < (m : Int) + 1 := by omega
        have hlq : (f.ks.length : Int) < (f.ks.length : Int) + 1 := by omega
        refine wp_region_ot S (.take 0 (.take 1 (.take 2 (.take 3 (.take 5 (.two 4 (.take 6 (.solo 7 (.solo 8 (.take 9 (.take 11 (.take 12 (.two 10 (.solo 13 .nil) 13 (.solo 10 .nil)))))))) 7 (.solo 4 (.take 6 (.solo 8 (.take 9 (.take 11 (.take 12 (.two 10 (.solo 13 .nil) 13 (.solo 10 .nil)))))))))))))) (by kernel_rfl) (by kernel_rfl) rfl (by kernel_rfl) HS.out ?_
        iterate 5
         (refine wpOT_step (zO rfl) ?_)
         (first
           | (refine wpOT_skip (by rfl) ?_)
           | (refine wpOT_take (v := ?_) (by rfl) ?_ ?_; rotate_left 1; (intro wx hSx; have hc_0 := C0 wx hSx; have hc_1 := C1 wx hSx; have hc_2 := C2 wx hSx; have hc_3 := C3 wx hSx; have hc_4 := C4 wx hSx; go_simp; try with_reducible rfl)))
         (try simp only [Act.put, zA4, zA5, zA6])
        clear C0 C1 C2 C3 C4
        refine wpOT_two ?_ ?_
        focus
         (refine wpOT_solo (zO rfl) ?_)
         intro K hK
         go_simp
         refine hK.out _ _ HS.out ?_
         clear hK K
         (try simp only [Act.put, zA4, zA5, zA6])
         iterate 1
          (refine wpOT_step (zO rfl) ?_)
          (first
           | (refine wpOT_skip (by rfl) ?_)
           | (refine wpOT_take (v := ?_) (by rfl) ?_ ?_; rotate_left 1; (intro wx hSx; go_simp; try with_reducible rfl)))
          (try simp only [Act.put, zA4, zA5, zA6])
         (refine wpOT_solo (zO rfl) ?_)
         intro K hK
         go_simp
         have hS : S (v.alloc (.cells #[.int .u8 0, .string ⟨#[]⟩, .int .i64 0, .slice none 0 0, .int .i64 0] 104)).drew := HSB.out v.drew _ HS.out (heap_alloc_old v _ HBX.out.lt)
         have HN1 : Hid (Sl (v.alloc (.cells #[.int .u8 0, .string ⟨#[]⟩, .int .i64 0, .slice none 0 0, .int .i64 0] 104)).drew (v.heap.size + 1) (some ⟨v.heap.size, 0, none⟩) [.int .u8 0, .string ⟨#[]⟩, .int .i64 0, .slice none 0 0, .int .i64 0]) := Sl.new v 104 [.int .u8 0, .string ⟨#[]⟩, .int .i64 0, .slice none 0 0, .int .i64 0]
         have HV1 : Hid (Below v.heap.size v (v.alloc (.cells #[.int .u8 0, .string ⟨#[]⟩, .int .i64 0, .slice none 0 0, .int .i64 0] 104)).drew) := ((zB _ _).alloc (zL _) _).drew
         clear HS
         have HS := zh hS; clear hS
         refine hK.out _ _ HS.out ?_
         clear hK K
         (try simp only [Act.put, zA4, zA5, zA6])
         generalize (v.alloc (.cells #[.int .u8 0, .string ⟨#[]⟩, .int .i64 0, .slice none 0 0, .int .i64 0] 104)).drew = v1 at *
         generalize hgv : v.heap.size = g1 at *
         have HGV := zh hgv; clear hgv
         have HST1 := zh (HST.out.same (HV1.out.block g HLG.out))
         have HFI1 := zh (HFIV.out _ HV1.out)
         have HFL1 := zh (HFLV.out _ HV1.out)
         have HX11 := zh (HX1V.out _ HV1.out)
         have HX21 := zh (HX2V.out _ HV1.out)
         have HWV1 : Hid (Below w.heap.size w v1) := HWV.out.trans (HV1.out.mono (by have := HLG.out; have := HWG.out; omega))
         have k3 : v1.cell? ⟨g, m * 5 + 3, none⟩ = some (.slice f.A f.ks.length f.c) := HST1.out.cell (by rw [HTOP.out]; rfl)
         have HRN1 : Hid (∀ b, v1.heap.size ≤ b → role b = 1) := fun b hb => HRN.out b (by have h1 := HV1.out.size; have h2 := HGV.out; omega)
        rotate_left
        focus
         (refine wpOT_solo (zO rfl) ?_)
         intro K hK
         go_simp
         have hS : S (v.alloc (.cells #[.int .u8 0, .string ⟨#[]⟩, .int .i64 0, .slice none 0 0, .int .i64 0] 104)).drew := HSB.out v.drew _ HS.out (heap_alloc_old v _ HBX.out.lt)
         have HN1 : Hid (Sl (v.alloc (.cells #[.int .u8 0, .string ⟨#[]⟩, .int .i64 0, .slice none 0 0, .int .i64 0] 104)).drew (v.heap.size + 1) (some ⟨v.heap.size, 0, none⟩) [.int .u8 0, .string ⟨#[]⟩, .int .i64 0, .slice none 0 0, .int .i64 0]) := Sl.new v 104 [.int .u8 0, .string ⟨#[]⟩, .int .i64 0, .slice none 0 0, .int .i64 0]
         have HV1 : Hid (Below v.heap.size v (v.alloc (.cells #[.int .u8 0, .string ⟨#[]⟩, .int .i64 0, .slice none 0 0, .int .i64 0] 104)).drew) := ((zB _ _).alloc (zL _) _).drew
         clear HS
         have HS := zh hS; clear hS
         refine hK.out _ _ HS.out ?_
         clear hK K
         (try simp only [Act.put, zA4, zA5, zA6])
         generalize (v.alloc (.cells #[.int .u8 0, .string ⟨#[]⟩, .int .i64 0, .slice none 0 0, .int .i64 0] 104)).drew = v1 at *
         generalize hgv : v.heap.size = g1 at *
         have HGV := zh hgv; clear hgv
         have HST1 := zh (HST.out.same (HV1.out.block g HLG.out))
         have HFI1 := zh (HFIV.out _ HV1.out)
         have HFL1 := zh (HFLV.out _ HV1.out)
         have HX11 := zh (HX1V.out _ HV1.out)
         have HX21 := zh (HX2V.out _ HV1.out)
         have HWV1 : Hid (Below w.heap.size w v1) := HWV.out.trans (HV1.out.mono (by have := HLG.out; have := HWG.out; omega))
         have k3 : v1.cell? ⟨g, m * 5 + 3, none⟩ = some (.slice f.A f.ks.length f.c) := HST1.out.cell (by rw [HTOP.out]; rfl)
         have HRN1 : Hid (∀ b, v1.heap.size ≤ b → role b = 1) := fun b hb => HRN.out b (by have h1 := HV1.out.size; have h2 := HGV.out; omega)
         (refine wpOT_solo (zO rfl) ?_)
         intro K hK
         go_simp
         refine hK.out _ _ HS.out ?_
         clear hK K
         (try simp only [Act.put, zA4, zA5, zA6])
         iterate 1
          (refine wpOT_step (zO rfl) ?_)
          (first
           | (refine wpOT_skip (by rfl) ?_)
           | (refine wpOT_take (v := ?_) (by rfl) ?_ ?_; rotate_left 1; (intro wx hSx; go_simp; try with_reducible rfl)))
          (try simp only [Act.put, zA4, zA5, zA6])
        all_goals
         (refine wpOT_solo (zO rfl) ?_)
         intro K hK
         rw [if_pos (by rfl)]
         refine wp_catAt _ _ 42 rfl 104 (.agg #[.int .u8 0, .string ⟨#[]⟩, .int .i64 0, .slice none 0 0, .int .i64 0]) 5 64 Tryz.underlying42 infoTree rfl (by decide) (by decide) (w.heap.size + 1) f.A f.ks.length f.c (tcs f.ks) rfl HFL1.out.1 _ (some ⟨g1, 0, none⟩) 1 1 [.int .u8 0, .string ⟨#[]⟩, .int .i64 0, .slice none 0 0, .int .i64 0] rfl rfl (by decide) HN1.out (by simp [Value.oneCell']) (by omega) (by have := HST1.out.lt; have := HWG.out; omega) ?_
         intro A4 d4 w4 hown4 hb4 hg4 hat4
         obtain ⟨g4, rfl, hg4B, hg4lt, hg4f, _⟩ := own_at hown4 (by intro e; have := congrArg List.length e; rw [zA7] at this; simp at this)
         have hrole4 : role g4 = m + 2 ∨ v1.heap.size ≤ g4 := by
          rcases hat4 with e | e
          ·exact .inl (HFL1.out.2.1 g4 e.symm)
          ·have e2 : some g4 = some v1.heap.size := e
           injection e2 with e2; exact .inr (by omega)
         have hch4 : ∀ b, b < v1.heap.size → role b ≠ m + 2 → w4.heap[b]? = v1.heap[b]? := fun b hb hr => hg4.block b hb (fun e => hr (HFL1.out.2.1 b e.symm))
         have hgg4 : g ≠ g4 := fun e => by
          subst e
          have h1 := HRG.out
          have h2 := HST1.out.lt
          rcases hrole4 with e | e <;> omega
         have hg84 : g8 ≠ g4 := fun e => by
          subst e
          have h1 := HR8.out
          have h2 := (HKK.out _ HS.out).lt
          rcases hrole4 with e | e <;> omega
         have hS4 : S w4 := HSB.out v1 w4 HS.out (hch4 g8 (HKK.out _ HS.out).lt (by rw [HR8.out]; omega))
         have HST4 := zh (HST1.out.same (hch4 g HST1.out.lt (by rw [HRG.out]; omega)))
         have HCH4 := zh hch4
         have HSZ4 := zh hg4.size
         have HOWN4 := zh hown4
         have HB4 := zh hb4
         have HG4LT := zh hg4lt
         clear HS hown4 hb4 hg4 hat4 hch4 hg4lt
         have HS := zh hS4; clear hS4
         refine hK.out _ _ HS.out ?_
         clear hK K
         (try simp only [Act.put, zA4, zA5, zA6])
         iterate 3
          (refine wpOT_step (zO rfl) ?_)
          (first
           | (refine wpOT_skip (by rfl) ?_)
           | (refine wpOT_take (v := ?_) (by rfl) ?_ ?_; rotate_left 1; (intro wx hSx; go_simp; try with_reducible rfl)))
          (try simp only [Act.put, zA4, zA5, zA6])
         obtain ⟨own5, there5⟩ := own_fill HOWN4.out (tcs_length f.ks) (ys := (trv x).toList) rfl
         refine wpOT_two ?_ ?_
         focus
          (refine wpOT_solo (zO rfl) ?_)
          intro K hK
          rw [if_pos (by rfl)]
          refine wp_store_mid 104 _ _ rfl g4 (f.ks.length * 5) (trv x) rfl rfl there5 (tree_size _ _ _ _ _) (by simp [trv, Value.oneCell']) ?_
          have hS5 : S (w4.setCells g4 (f.ks.length * 5) (trv x).toList) := HSB.out w4 _ HS.out (setCells_other _ _ _ _ _ hg84)
          have HST5 := zh (HST4.out.same (setCells_other w4 g4 (f.ks.length * 5) (trv x).toList g hgg4))
          have HOWN5 := zh own5
          have HCH5 : Hid (∀ b, b < v1.heap.size → role b ≠ m + 2 → role b ≠ 1 → (w4.setCells g4 (f.ks.length * 5) (trv x).toList).heap[b]? = v1.heap[b]?) := fun b hb h1 h2 => (setCells_other _ _ _ _ _ (fun e => by subst e; rcases hrole4 with e | e <;> omega)).trans (HCH4.out b hb h1)
          have HSZ5 : Hid (v1.heap.size ≤ (w4.setCells g4 (f.ks.length * 5) (trv x).toList).heap.size) := by rw [setCells_size]; exact HSZ4.out
          have HG4Z : Hid (g4 < (w4.setCells g4 (f.ks.length * 5) (trv x).toList).heap.size) := by rw [setCells_size]; exact HG4LT.out
          have HB5 := zh (HB4.out.trans (setCells_below hg4B (f.ks.length * 5) (trv x).toList))
          clear HS own5 there5 HST4 HOWN4 HCH4 HB4
          have HS := zh hS5; clear hS5
          refine hK.out _ _ HS.out ?_
          clear hK K
          (try simp only [Act.put])
          generalize w4.setCells g4 (f.ks.length * 5) (trv x).toList = w5 at *
          have k5 : w5.cell? ⟨g, m * 5 + 3, none⟩ = some (.slice f.A f.ks.length f.c) := HST5.out.cell (by rw [HTOP.out]; rfl)
          have f5 := HST5.out.free (m * 5 + 3)
          (refine wpOT_solo (zO rfl) ?_)
          intro K hK
          go_simp
          have hS6 : S (w5.setCell ⟨g, m * 5 + 3, none⟩ (.slice (some ⟨g4, 0, none⟩) (f.ks.length + 1) d4)) := HSB.out w5 _ HS.out ((But.setCell w5 g _ _).block g8 (HKK.out _ HS.out).lt HG8.out)
          have HSTz := zh (HST5.out.set (m * 5 + 3) (.slice (some ⟨g4, 0, none⟩) (f.ks.length + 1) d4))
          have HOWNz := zh (own_same (w' := w5.setCell ⟨g, m * 5 + 3, none⟩ (.slice (some ⟨g4, 0, none⟩) (f.ks.length + 1) d4)) HOWN5.out (fun b hb e => (But.setCell w5 g _ _).block b hb (fun e2 => by subst e2; injection e with e; exact hgg4 e.symm)))
          have HCHz : Hid (∀ b, b < v1.heap.size → role b ≠ m + 2 → role b ≠ 1 → (w5.setCell ⟨g, m * 5 + 3, none⟩ (.slice (some ⟨g4, 0, none⟩) (f.ks.length + 1) d4)).heap[b]? = v1.heap[b]?) := fun b hb h1 h2 => ((But.setCell w5 g _ _).block b (zT hb HSZ5.out) (fun e => by subst e; exact h2 HRG.out)).trans (HCH5.out b hb h1 h2)
          have HSZ := zh (zM HSZ5.out (But.setCell w5 g (m * 5 + 3) (.slice (some ⟨g4, 0, none⟩) (f.ks.length + 1) d4)).size)
          have HG4Z := zh (zT HG4Z.out (But.setCell w5 g (m * 5 + 3) (.slice (some ⟨g4, 0, none⟩) (f.ks.length + 1) d4)).size)
          have HBZ := zh (HB5.out.setCell (p := ⟨g, m * 5 + 3, none⟩) HST5.out.1 (.slice (some ⟨g4, 0, none⟩) (f.ks.length + 1) d4))
          have HGFz := zh ((HGFV.out _ HV1.out).below HBZ.out (zS _))
          have HWz := zh (HWV1.out.trans (HBZ.out.mono (Nat.le_succ _)))
          refine hK.out _ _ hS6 ?_
          clear hK K hS6 HS k5 f5 HST5 HOWN5 HCH5 HSZ5 HB5 HBZ HSZ4 HG4LT
          (try simp only [Act.put])
         rotate_left
         focus
          have k5 : w4.cell? ⟨g, m * 5 + 3, none⟩ = some (.slice f.A f.ks.length f.c) := HST4.out.cell (by rw [HTOP.out]; rfl)
          have f5 := HST4.out.free (m * 5 + 3)
          (refine wpOT_solo (zO rfl) ?_)
          intro K hK
          go_simp
          have hS5 : S (w4.setCell ⟨g, m * 5 + 3, none⟩ (.slice (some ⟨g4, 0, none⟩) (f.ks.length + 1) d4)) := HSB.out w4 _ HS.out ((But.setCell w4 g _ _).block g8 (HKK.out _ HS.out).lt HG8.out)
          have HST5 := zh (HST4.out.set (m * 5 + 3) (.slice (some ⟨g4, 0, none⟩) (f.ks.length + 1) d4))
          have HOWN5 := zh (own_same (w' := w4.setCell ⟨g, m * 5 + 3, none⟩ (.slice (some ⟨g4, 0, none⟩) (f.ks.length + 1) d4)) HOWN4.out (fun b hb e => (But.setCell w4 g _ _).block b hb (fun e2 => by subst e2; injection e with e; exact hgg4 e.symm)))
          have HCH5 : Hid (∀ b, b < v1.heap.size → role b ≠ m + 2 → role b ≠ 1 → (w4.setCell ⟨g, m * 5 + 3, none⟩ (.slice (some ⟨g4, 0, none⟩) (f.ks.length + 1) d4)).heap[b]? = v1.heap[b]?) := fun b hb h1 h2 => ((But.setCell w4 g _ _).block b (zT hb HSZ4.out) (fun e => by subst e; exact h2 HRG.out)).trans (HCH4.out b hb h1)
          have HSZ5 := zh (zM HSZ4.out (But.setCell w4 g (m * 5 + 3) (.slice (some ⟨g4, 0, none⟩) (f.ks.length + 1) d4)).size)
          have HG4Z := zh (zT HG4LT.out (But.setCell w4 g (m * 5 + 3) (.slice (some ⟨g4, 0, none⟩) (f.ks.length + 1) d4)).size)
          have HB5 := zh (HB4.out.setCell (p := ⟨g, m * 5 + 3, none⟩) HST4.out.1 (.slice (some ⟨g4, 0, none⟩) (f.ks.length + 1) d4))
          clear own5 there5 HST4 HOWN4 HCH4 HB4 HSZ4 HG4LT
          refine hK.out _ _ hS5 ?_
          clear hK K HS k5 f5
          have HS := zh hS5; clear hS5
          (try simp only [Act.put])
          generalize w4.setCell ⟨g, m * 5 + 3, none⟩ (.slice (some ⟨g4, 0, none⟩) (f.ks.length + 1) d4) = w5 at *
          obtain ⟨own6, there6⟩ := own_fill HOWN5.out (tcs_length f.ks) (ys := (trv x).toList) rfl
          (refine wpOT_solo (zO rfl) ?_)
          intro K hK
          rw [if_pos (by rfl)]
          refine wp_store_mid 104 _ _ rfl g4 (f.ks.length * 5) (trv x) rfl rfl there6 (tree_size _ _ _ _ _) (by simp [trv, Value.oneCell']) ?_
          have hS6 : S (w5.setCells g4 (f.ks.length * 5) (trv x).toList) := HSB.out w5 _ HS.out (setCells_other _ _ _ _ _ hg84)
          have HSTz := zh (HST5.out.same (setCells_other w5 g4 (f.ks.length * 5) (trv x).toList g hgg4))
          have HOWNz := zh own6
          have HCHz : Hid (∀ b, b < v1.heap.size → role b ≠ m + 2 → role b ≠ 1 → (w5.setCells g4 (f.ks.length * 5) (trv x).toList).heap[b]? = v1.heap[b]?) := fun b hb h1 h2 => (setCells_other _ _ _ _ _ (fun e => by subst e; rcases hrole4 with e | e <;> omega)).trans (HCH5.out b hb h1 h2)
          have HSZ : Hid (v1.heap.size ≤ (w5.setCells g4 (f.ks.length * 5) (trv x).toList).heap.size) := by rw [setCells_size]; exact HSZ5.out
          have HG4Z : Hid (g4 < (w5.setCells g4 (f.ks.length * 5) (trv x).toList).heap.size) := by rw [setCells_size]; exact HG4Z.out
          have HBZ := zh (HB5.out.trans (setCells_below hg4B (f.ks.length * 5) (trv x).toList))
          have HGFz := zh ((HGFV.out _ HV1.out).below HBZ.out (zS _))
          have HWz := zh (HWV1.out.trans (HBZ.out.mono (Nat.le_succ _)))
          refine hK.out _ _ hS6 ?_
          clear hK K hS6 HS HST5 HOWN5 HCH5 HSZ5 HB5 HBZ own6 there6
          (try simp only [Act.put])
         all_goals
          refine wpOT_done ?_
          have HZ := zh (read_close (n := n) (by omega) (by rw [HM.out]; omega) (by rw [HM.out]; exact HSTz.out) HFI1.out (by rw [HM.out]; exact HFL1.out) HRG.out HRN1.out HKG.out hfl HBT.out HRUN.out HGFz.out HWz.out HX11.out HX3.out HX21.out (by rw [HM.out]; exact hrole4) HG4Z.out hgg4 HSZ.out (by rw [HM.out]; exact HCHz.out) HOWNz.out)
          rw [HM.out] at HZ
          clear HSTz HFI1 HFL1 HX11 HX21 HOWNz HCHz HGFz HWz k3
          go_wp2
          go_roundw
          case rel => exact HZ.out
          case measure => simp [intOf]; omega
  ·rw [HDN.out i hlt] at hrun
   obtain rfl : i = n := by omega
   have s0 : wr.cell? ⟨g, m * 5, none⟩ = some (.int .u8 (f.t.k : Int)) := HST0.out.cell (by have := HTOP.out 0; rw [Nat.add_zero] at this; rw [this]; rfl)
   have s1 : wr.cell? ⟨g, m * 5 + 1, none⟩ = some (.string f.t.s) := HST0.out.cell (by rw [HTOP.out]; rfl)
   have s2 : wr.cell? ⟨g, m * 5 + 2, none⟩ = some (.int .i64 f.t.p) := HST0.out.cell (by rw [HTOP.out]; rfl)
   have s3 : wr.cell? ⟨g, m * 5 + 3, none⟩ = some (.slice f.A f.ks.length f.c) := HST0.out.cell (by rw [HTOP.out]; rfl)
   have hz1 : IntKind.i64.wrap ((m : Int) + 1 - 1) = (m : Int) := by rw [IntKind.wrap_i64] <;> omega
   by_cases hm0 : m = 0
   ·subst hm0
    have hgs : gs = [] := List.eq_nil_of_length_eq_zero HM.out
    subst hgs
    have hE : P = .ok (er f.ks) := by rw [← hrun]; simp [er, mrun, er1, Tr.ks]
    subst hE
    rw [Nat.zero_mul, Nat.zero_add] at s3
    have c0 := (HGF0.out.cell 0).trans rfl
    have c1 := (HGF0.out.cell 1).trans rfl
    have x0 := HGF0.out.free 0
    have x1 := HGF0.out.free 1
    have hgw : w.heap.size < w.heap.size + 1 := zS _
    have HOWN := zh (own_cell (own_cell HFL0.out.1 (p := ⟨w.heap.size, 0, none⟩) hgw (.int .i64 0)) (p := ⟨w.heap.size, 1, none⟩) hgw (.int .i64 0))
    have HDP : Hid (Deep ((wr.setCell ⟨w.heap.size, 0, none⟩ (.int .i64 0)).setCell ⟨w.heap.size, 1, none⟩ (.int .i64 0)) (fun b => w.heap.size + 1 ≤ b ∧ role b = 0) f.ks) :=
     (HFL0.out.2.2.keep (But.setCell wr w.heap.size 0 (.int .i64 0)).size (fun b hb hk => (But.setCell wr w.heap.size 0 (.int .i64 0)).block b hb (by omega)) (fun _ _ h => h)).keep (But.setCell _ w.heap.size 1 (.int .i64 0)).size (fun b hb hk => (But.setCell _ w.heap.size 1 (.int .i64 0)).block b hb (by omega)) (fun _ _ h => h)
    clear hrun s0 s1 s2 hz1
    go_wp2
    have hgf := (HGF0.out.put 0 (.int .i64 0)).put 1 (.int .i64 0)
    exact bodyPost_ret (ret_slot_cell rfl _ _ _ w.heap.size _ _ (0, 0) _ rfl rfl hgf Tryz.underlying39 rfl (fault_info _ _)) rfl
     ⟨(HW.out.setCell (p := ⟨w.heap.size, 0, none⟩) (zL _) _).setCell (p := ⟨w.heap.size, 1, none⟩) (zL _) _, f.A, f.c, f.ks, rfl, rfl, own_cap_le HOWN.out, HDP.out.trs (Sl.of_own HOWN.out)⟩
   ·have hE : P = .error f.t.p := by
     cases gs with
     | nil => exact absurd HM.out.symm hm0
     | cons y r =>
       obtain ⟨z, q, hzq⟩ : ∃ z q, er (y :: r).reverse = z :: q := by
        cases h : er (y :: r).reverse with
        | nil => rw [h] at hel; simp only [zA9] at hel; exact absurd hel.symm hm0
        | cons z q => exact ⟨z, q, rfl⟩
       rw [hzq] at hrun
       exact hrun.symm
    have hgt : 0 < m := by omega
    have HGF := HGF0
    clear hrun hm0 HGF0 HFI0 HFL0 HRN0 hel
    generalize f.t.k = kf at *
    generalize f.t.s = sf at *
    generalize f.t.p = pf at *
    subst hE
    go_wp2_with fail
    refine (show Calls Tryz.prog 90 #[.agg #[.int .u8 kf, .string sf, .int .i64 pf]] wr _ from fault9_any ⟨kf, sf, pf⟩ wr).mono ?_
    rintro e wf ⟨rfl, hbf⟩
    have hgf := RowAt.below (w := wr) (w' := wf) HGF.out hbf HGF.out.lt
    have c0 := (hgf.cell 0).trans rfl
    have c1 := (hgf.cell 1).trans rfl
    have x0 := hgf.free 0
    have x1 := hgf.free 1
    have HBF : Hid (Below w.heap.size w wf) := (HW.out).trans (hbf.mono (HW.out).size)
    have HGFF := zh hgf
    clear hbf hgf
    go_wp2
    have hgf := (HGFF.out.put 0 (.int .i64 2)).put 1 (.int .i64 pf)
    exact bodyPost_ret (ret_slot_cell rfl _ _ _ w.heap.size _ _ (0, 0) _ rfl rfl hgf Tryz.underlying39 rfl (fault_info _ _)) rfl ⟨(HBF.out.setCell (p := ⟨w.heap.size, 0, none⟩) (zL _) _).setCell (p := ⟨w.heap.size, 1, none⟩) (zL _) _, rfl⟩
end
end Go.Proofs.YtmffnkfohmbbeaaGreatDoor
