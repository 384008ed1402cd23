/-
  Trees and other structs in memory: slices that read as lists of them, rows of the call's own that are cut and written to. Conditions: none.
-/
import Derived.Test.YtnaaejemanmgnaaTreeMath
import Derived.Test.YtnaaejemanmgnaaLexQ
import Derived.Deep.CutRange
import Derived.Maps.AppendAt
namespace Go.Proofs.Ytnaaejemanmgnaa
open Go.RowKit LX TR

section
variable {α : Type} {f : α → List Value} {m : Nat}
theorem fm_length (hf : ∀ x, (f x).length = m) : ∀ l : List α, (l.flatMap f).length = l.length * m
  | [] => by simp
  | x :: l => by
    rw [List.flatMap_cons, List.length_append, fm_length hf l, hf, List.length_cons, Nat.add_mul]; omega
theorem fm_at (hf : ∀ x, (f x).length = m) (z : α) : ∀ (l : List α) (i j : Nat), i < l.length → j < m → (l.flatMap f)[i * m + j]? = (f (l.getD i z))[j]?
  | [], i, j, hi, _ => by simp at hi
  | x :: l, 0, j, _, hj => by
    rw [List.flatMap_cons, List.getElem?_append_left (by rw [hf]; omega)]
    simp
  | x :: l, i + 1, j, hi, hj => by
    have := fm_at hf z l i j (by simpa using hi) hj
    rw [List.flatMap_cons, List.getElem?_append_right (by rw [hf, Nat.add_mul]; omega), hf, show (i + 1) * m + j - m = i * m + j by rw [Nat.add_mul]; omega, this]
    simp
theorem fm_set (hf : ∀ x, (f x).length = m) : ∀ (l : List α) (i : Nat) (x : α), i < l.length → (l.set i x).flatMap f = (l.take i).flatMap f ++ (f x ++ (l.drop (i + 1)).flatMap f)
  | [], i, x, hi => by simp at hi
  | y :: l, 0, x, _ => by simp
  | y :: l, i + 1, x, hi => by
    have := fm_set hf l i x (by simpa using hi)
    simp [this]
theorem sl_at {w : World} {B : Nat} {A : Option Addr} {l : List α} (hf : ∀ x, (f x).length = m) (z : α) (h : Sl w B A (l.flatMap f)) {k : Nat} (hk : k < l.length) (hm : 0 < m) :
    ∃ b o, A = some ⟨b, o, none⟩ ∧ b < B ∧ ∀ i j u, i < l.length → j < m → (f (l.getD i z))[j]? = some u → w.cell? ⟨b, o + (i * m + j), none⟩ = some u := by
  obtain ⟨b, o, hA, hb, hc⟩ := Sl.at_ h (fun e => by
    have := congrArg List.length e
    rw [fm_length hf] at this
    simp only [List.length_nil, Nat.mul_eq_zero] at this
    omega)
  exact ⟨b, o, hA, hb, fun i j u hi hj hu => hc _ _ (by rw [fm_at hf z l i j hi hj]; exact hu)⟩
end

/-- The cells of a tree. -/
def rcells (x : Tr) : List Value := [.int .u8 (x.t.k : Int), .string x.t.s, .int .i64 x.t.p, .slice x.A x.ks.length x.c, .int .i64 x.e]
def trv (x : Tr) : Array Value := #[.int .u8 (x.t.k : Int), .string x.t.s, .int .i64 x.t.p, .slice x.A x.ks.length x.c, .int .i64 x.e]
theorem rcells_length (x : Tr) : (rcells x).length = 5 := rfl
def tcs (l : List Tr) : List Value := l.flatMap rcells
theorem tcs_append (a b : List Tr) : tcs (a ++ b) = tcs a ++ tcs b := by simp [tcs]
theorem tcs_one (x : Tr) : tcs [x] = rcells x := by simp [tcs]
theorem tcs_length (l : List Tr) : (tcs l).length = l.length * 5 := fm_length rcells_length l
theorem infoTree : (Try.prog.info? 38).map (fun i => (i.zero, i.size, i.bytes)) = some (some (.agg #[.int .u8 0, .string ⟨#[]⟩, .int .i64 0, .slice none 0 0, .int .i64 0]), 5, 64) := by kernel_rfl

/-- A slice that reads as this list of trees, all of it below block B. -/
def Trs (w : World) (B : Nat) (A : Option Addr) (l : List Tr) : Prop := Sl w B A (tcs l) ∧ ∀ x ∈ nodes l, Sl w B x.A (tcs x.ks) ∧ x.ks.length ≤ x.c
section
variable {w w' : World} {B B' : Nat} {A : Option Addr} {l : List Tr}
theorem Trs.below (h : Trs w B A l) (hb : Below B w w') : Trs w' B A l := ⟨h.1.below hb, fun x hx => ⟨(h.2 x hx).1.below hb, (h.2 x hx).2⟩⟩
theorem Trs.mono (h : Trs w B A l) (hB : B ≤ B') : Trs w B' A l := ⟨h.1.mono hB, fun x hx => ⟨(h.2 x hx).1.mono hB, (h.2 x hx).2⟩⟩
theorem Trs.nil (w : World) (B : Nat) (A : Option Addr) : Trs w B A [] := ⟨Sl.nil _ _ _, fun x hx => by simp [nodes] at hx⟩
theorem Trs.at (h : Trs w B A l) {k : Nat} (hk : k < l.length) : ∃ b o, A = some ⟨b, o, none⟩ ∧ b < B ∧ ∀ i, i < l.length →
    w.cell? ⟨b, o + i * 5, none⟩ = some (.int .u8 ((l.getD i r0).t.k : Int)) ∧ w.cell? ⟨b, o + i * 5 + 1, none⟩ = some (.string (l.getD i r0).t.s) ∧ w.cell? ⟨b, o + i * 5 + 2, none⟩ = some (.int .i64 (l.getD i r0).t.p)
    ∧ w.cell? ⟨b, o + i * 5 + 3, none⟩ = some (.slice (l.getD i r0).A (l.getD i r0).ks.length (l.getD i r0).c) ∧ w.cell? ⟨b, o + i * 5 + 4, none⟩ = some (.int .i64 (l.getD i r0).e) := by
  obtain ⟨b, o, hA, hb, hc⟩ := sl_at rcells_length r0 h.1 hk (by omega)
  refine ⟨b, o, hA, hb, fun i hi => ⟨hc i 0 _ hi (by omega) rfl, ?_, ?_, ?_, ?_⟩⟩
  · rw [Nat.add_assoc]; exact hc i 1 _ hi (by omega) rfl
  · rw [Nat.add_assoc]; exact hc i 2 _ hi (by omega) rfl
  · rw [Nat.add_assoc]; exact hc i 3 _ hi (by omega) rfl
  · rw [Nat.add_assoc]; exact hc i 4 _ hi (by omega) rfl
theorem Trs.kid (h : Trs w B A l) {x : Tr} (hx : x ∈ l) : Trs w B x.A x.ks := ⟨(h.2 x (mem_nodes hx)).1, fun y hy => h.2 y (mem_kids hx hy)⟩
theorem Trs.cap (h : Trs w B A l) {x : Tr} (hx : x ∈ l) : x.ks.length ≤ x.c := (h.2 x (mem_nodes hx)).2
theorem getD_mem {i : Nat} (hi : i < l.length) : l.getD i r0 ∈ l := by
  rw [List.getD_eq_getElem?_getD, List.getElem?_eq_getElem hi]
  exact List.getElem_mem hi
theorem Trs.kidAt (h : Trs w B A l) {i : Nat} (hi : i < l.length) : Trs w B (l.getD i r0).A (l.getD i r0).ks := h.kid (getD_mem hi)
theorem Trs.tail {x : Tr} {b o : Nat} (h : Trs w B (some ⟨b, o, none⟩) (x :: l)) : Trs w B (some ⟨b, o + 5, none⟩) l := by
  refine ⟨fun _ => ?_, fun y hy => h.2 y ?_⟩
  · obtain ⟨b', o', hA, hb, hc⟩ := Sl.at_ h.1 (by simp [tcs, rcells])
    injection hA with hA
    injection hA with e1 e2 _
    subst e1 e2
    refine ⟨b, o + 5, rfl, hb, fun j u hu => ?_⟩
    rw [Nat.add_assoc]
    refine hc (5 + j) u ?_
    unfold tcs at hu ⊢
    rw [List.flatMap_cons, List.getElem?_append_right (by rw [rcells_length]; omega), rcells_length, show 5 + j - 5 = j by omega]
    exact hu
  · obtain ⟨t, A, c, ks, e⟩ := x
    rw [nodes]
    exact List.mem_cons_of_mem _ (List.mem_append_right _ hy)
theorem Trs.append {A2 : Option Addr} {l2 : List Tr} {A3 : Option Addr} (h : Trs w B A l) (h2 : Trs w B A2 l2) (h3 : Sl w B A3 (tcs (l ++ l2))) : Trs w B A3 (l ++ l2) :=
  ⟨h3, fun x hx => by rw [nodes_append] at hx; exact (List.mem_append.1 hx).elim (h.2 x) (h2.2 x)⟩
end

/-- The cells from A on are these, in a block of which something is said. -/
def SlC (w : World) (ok : Nat → Prop) (A : Option Addr) (cs : List Value) : Prop :=
  cs ≠ [] → ∃ b o, A = some ⟨b, o, none⟩ ∧ b < w.heap.size ∧ ok b ∧ ∀ j u, cs[j]? = some u → w.cell? ⟨b, o + j, none⟩ = some u
section
variable {w w' : World} {ok ok' : Nat → Prop} {A : Option Addr} {cs : List Value}
theorem SlC.nil (w : World) (ok : Nat → Prop) (A : Option Addr) : SlC w ok A [] := fun h => absurd rfl h
theorem SlC.keep (h : SlC w ok A cs) (hs : w.heap.size ≤ w'.heap.size) (hb : ∀ b, b < w.heap.size → ok b → w'.heap[b]? = w.heap[b]?) (hok : ∀ b, b < w.heap.size → ok b → ok' b) : SlC w' ok' A cs := fun hne => by
  obtain ⟨b, o, hA, hlt, hk, hc⟩ := h hne
  exact ⟨b, o, hA, by omega, hok b hlt hk, fun j u hu => (World.cell?_of_block (a := ⟨b, o + j, none⟩) (hb b hlt hk)).trans (hc j u hu)⟩
theorem SlC.sl (h : SlC w ok A cs) : Sl w w.heap.size A cs := fun hne => by
  obtain ⟨b, o, hA, hlt, _, hc⟩ := h hne
  exact ⟨b, o, hA, hlt, hc⟩
theorem SlC.of_own {base e size n c : Nat} (h : w.ownsRow base e size (.slice A n c) n cs) (hok : ∀ b, base ≤ b → (Value.slice A n c).ownBlock = some b → ok b) : SlC w ok A cs := fun hne => by
  rcases h.2 with ⟨_, hn⟩ | ⟨g, cap, cur, hv, hg, hh, h1, h2, h3, h4⟩
  · have := h.1
    rw [hn] at this
    exact absurd (List.eq_nil_of_length_eq_zero (by simpa using this)) hne
  · injection hv with e1 _ e3
    subst e1 e3
    refine ⟨g, 0, rfl, (Array.getElem?_eq_some_iff.1 hh).1, hok g hg rfl, fun j u hu => ?_⟩
    rw [Nat.zero_add, cell_of_row w g j cur e (0, 0) hh]
    rw [← h4, List.getElem?_take] at hu
    split at hu
    · simpa using hu
    · cases hu
end
/-- All that stands below these trees lies in such blocks. -/
def Deep (w : World) (ok : Nat → Prop) (l : List Tr) : Prop := ∀ x ∈ nodes l, SlC w ok x.A (tcs x.ks) ∧ x.ks.length ≤ x.c
section
variable {w w' : World} {ok ok' : Nat → Prop} {A : Option Addr} {l m : List Tr}
theorem Deep.keep (h : Deep w ok l) (hs : w.heap.size ≤ w'.heap.size) (hb : ∀ b, b < w.heap.size → ok b → w'.heap[b]? = w.heap[b]?) (hok : ∀ b, b < w.heap.size → ok b → ok' b) : Deep w' ok' l := fun x hx => ⟨(h x hx).1.keep hs hb hok, (h x hx).2⟩
theorem Deep.nil (w : World) (ok : Nat → Prop) : Deep w ok [] := fun x hx => by simp [nodes] at hx
theorem Deep.append (h : Deep w ok l) (h2 : Deep w ok m) : Deep w ok (l ++ m) := fun x hx => by
  rw [nodes_append] at hx
  exact (List.mem_append.1 hx).elim (h x) (h2 x)
theorem Deep.one {x : Tr} (h : SlC w ok x.A (tcs x.ks)) (hc : x.ks.length ≤ x.c) (h2 : Deep w ok x.ks) : Deep w ok [x] := fun y hy => by
  obtain ⟨t, A, c, ks, e⟩ := x
  simp only [nodes, List.append_nil, List.mem_cons] at hy
  rcases hy with rfl | hy
  · exact ⟨h, hc⟩
  · exact h2 y hy
theorem Deep.trs (h : Deep w ok l) (hA : Sl w w.heap.size A (tcs l)) : Trs w w.heap.size A l := ⟨hA, fun x hx => ⟨(h x hx).1.sl, (h x hx).2⟩⟩
end
theorem own_cap_le {w : World} {base size n c : Nat} {e : TypeId} {A : Option Addr} {cs : List Value} (h : w.ownsRow base e size (.slice A n c) n cs) : n ≤ c := by
  obtain ⟨A', c', hv, hc, _⟩ := own_form h
  injection hv with _ _ h3
  omega
/-- A row of the call's own that is cut short. -/
theorem own_cut {w : World} {base size n c : Nat} {e : TypeId} {A : Option Addr} {cs : List Value} (h : w.ownsRow base e size (.slice A n c) n cs) (m : Nat) (hm : m ≤ n) (hA : A ≠ none) : w.ownsRow base e size (.slice A m c) m (cs.take (m * size)) := by
  have hms : m * size ≤ n * size := Nat.mul_le_mul_right _ hm
  refine ⟨by rw [List.length_take, h.1]; omega, ?_⟩
  rcases h.2 with ⟨hv, _⟩ | ⟨g, cap, cur, hv, hg, hh, h1, h2, h3, h4⟩
  · injection hv with e1 _ _
    exact absurd e1 hA
  · injection hv with e1 _ e3
    subst e1 e3
    refine .inr ⟨g, c, cur, rfl, hg, hh, by omega, h2, h3, ?_⟩
    rw [← h4, List.take_take, Nat.min_eq_left hms]
/-- One cell of it written. -/
theorem own_set {w : World} {base size n c g o : Nat} {e : TypeId} {cs : List Value} (h : w.ownsRow base e size (.slice (some ⟨g, o, none⟩) n c) n cs) (j : Nat) (u : Value) : (w.setCell ⟨g, j, none⟩ u).ownsRow base e size (.slice (some ⟨g, o, none⟩) n c) n (cs.set j u) := by
  refine ⟨by rw [List.length_set]; exact h.1, ?_⟩
  rcases h.2 with ⟨hv, _⟩ | ⟨g', cap, cur, hv, hg, hh, h1, h2, h3, h4⟩
  · cases hv
  · injection hv with e1 _ e3
    injection e1 with e1
    injection e1 with e1 e2 _
    subst e1 e2 e3
    refine .inr ⟨g, c, cur.setIfInBounds j u, rfl, hg, ?_, h1, h2, by rw [Array.size_setIfInBounds]; exact h3, ?_⟩
    · simp [World.setCell, Array.getElem?_modify, hh]
    · rw [Array.toList_setIfInBounds, ← h4, List.take_set]
theorem own_at {w : World} {base size n c : Nat} {e : TypeId} {A : Option Addr} {cs : List Value} (h : w.ownsRow base e size (.slice A n c) n cs) (hA : cs ≠ []) : ∃ g, A = some ⟨g, 0, none⟩ ∧ base ≤ g ∧ g < w.heap.size ∧ (∀ o, w.frozen? ⟨g, o, none⟩ = false) ∧ ∀ j u, cs[j]? = some u → w.cell? ⟨g, j, none⟩ = some u := by
  rcases h.2 with ⟨_, hn⟩ | ⟨g, cap, cur, hv, hg, hh, h1, h2, h3, h4⟩
  · have := h.1
    rw [hn] at this
    exact absurd (List.eq_nil_of_length_eq_zero (by simpa using this)) hA
  · injection hv with e1 _ e3
    subst e1 e3
    refine ⟨g, rfl, hg, (Array.getElem?_eq_some_iff.1 hh).1, fun o => by simp [World.frozen?, hh], fun j u hu => ?_⟩
    rw [cell_of_row w g j cur e (0, 0) hh]
    rw [← h4, List.getElem?_take] at hu
    split at hu
    · simpa using hu
    · cases hu

/-- What a region may be told of the worlds that come: something that is kept while old memory is. -/
theorem ex_kept (B : Nat) (K : World → Prop) (hst : ∀ wa wb, K wa → Below wa.heap.size wa wb → K wb) (w0 w : World) (h1 : K w) (hb : Below B w0 w) :
    ∃ S : World → Prop, Hid (S w.drew) ∧ Hid (∀ w', S w' → K w') ∧ Hid (∀ w', S w' → Below B w0 w') ∧ Hid (B ≤ w.heap.size → ∀ wa wb, S wa → Below wa.heap.size wa wb → S wb) :=
  ⟨fun w' => K w' ∧ Below B w0 w' ∧ w.heap.size ≤ w'.heap.size, ⟨hst _ _ h1 (Below.refl _ _).drew, hb.drew, Nat.le_refl _⟩, fun _ h => h.1, fun _ h => h.2.1,
    fun hB _ _ h hb => ⟨hst _ _ h.1 hb, h.2.1.trans (hb.mono (Nat.le_trans hB h.2.2)), Nat.le_trans h.2.2 hb.size⟩⟩
/-- A cell of old memory. -/
theorem ex_cell (B : Nat) (p : Addr) (v : Value) (w : World) (hp : p.block < B) (h : w.cell? p = some v) :
    ∃ S : World → Prop, Hid (S w.drew) ∧ Hid (∀ w', S w' → w'.cell? p = some v) ∧ Hid (B ≤ w.heap.size → ∀ wa wb, S wa → Below wa.heap.size wa wb → S wb) ∧ Hid (∀ wa wb, S wa → Below B wa wb → S wb) :=
  ⟨fun w' => w'.cell? p = some v ∧ w.heap.size ≤ w'.heap.size, ⟨h, Nat.le_refl _⟩, fun _ h => h.1, fun hB wa _ h hb => ⟨(hb.cell (by have := h.2; omega)).trans h.1, Nat.le_trans h.2 hb.size⟩,
    fun _ _ h hb => ⟨(hb.cell hp).trans h.1, Nat.le_trans h.2 hb.size⟩⟩
/-- Any slice onto a row of the call's own. -/
theorem wp_catAt {P : Program} {o : Oper} {a : Act} {w : World} {K : Act → World → Prop} {Q : Exit → Act → World → Prop} (s x : Operand) (t : TypeId)
    (ho : o.op = .call { callee := .builtin .append, args := #[s, x], argTypes := #[t, t] })
    (e : TypeId) (z : Value) (size bytes : Nat) (ht : P.underlying t = some (.slice e))
    (hinf : (P.info? e).map (fun i => (i.zero, i.size, i.bytes)) = some (some z, size, bytes)) (hzs : z.cells.size = size) (hsz : 0 < size) (hby : bytes ≤ 4096)
    (base : Nat) (A : Option Addr) (n c : Nat) (cs : List Value) (hs : a.eval s = .slice A n c) (hown : w.ownsRow base e size (.slice A n c) n cs)
    (B : Nat) (X : Option Addr) (m k : Nat) (news : List Value) (hx : a.eval x = .slice X m k) (hl : news.length = m * size) (hm : m ≤ 4294967296)
    (hnews : Sl w B X news) (h1 : ∀ u ∈ news, u.oneCell' = true)
    (hn : n ≤ 4294967296) (hbase : base ≤ w.heap.size)
    (h : ∀ A' c' w', w'.ownsRow base e size (.slice A' (n + m) c') (n + m) (cs ++ news) → Below base w w' → w.grownBy w' (Value.slice A n c).ownBlock → ((Value.slice A' (n + m) c').ownBlock = (Value.slice A n c).ownBlock ∨ (Value.slice A' (n + m) c').ownBlock = some w.heap.size) → K (a.put o.dst (.slice A' (n + m) c')) w') :
    o.wp P a w K Q := by
  obtain ⟨i, hi, hz, hi1, hi2⟩ := info_parts hinf
  cases X with
  | some ad =>
    obtain ⟨v', w', hr, hown', hg, _, hat⟩ := run_append_own_at (P := P) w base t o.type e i z size bytes ht hi hz hi1 hi2 hzs hsz (.slice A n c) n cs hown ad m k news hl
      (fun j u hu => by
        obtain ⟨b, off, hA, _, hc⟩ := hnews (by intro e; rw [e] at hu; simp at hu)
        injection hA with hA
        subst hA
        rw [show (⟨b, off, none⟩ : Addr).add j = ⟨b, off + j, none⟩ by unfold Addr.add; split <;> simp_all]
        exact hc j u hu) h1 (by simp only [maxLen]; omega) (Nat.le_trans (Nat.mul_le_mul (show n + m ≤ 8589934592 by omega) hby) (by decide)) hbase
    obtain ⟨A', c', rfl, _, _⟩ := own_form hown'
    unfold Oper.wp execOp
    simp only [ho, resolve, invoke, builtin, Sem.run_bind, Sem.run_pure, Result.andThen_ok, List.map_toArray, List.map_cons, List.map_nil, hs, hx, hr]
    exact h A' c' w' hown' ((Below.refl base w).grown hg hbase (fun k hk => (hown.lt k hk).1)) hg hat
  | none =>
    have hne : news = [] := Classical.byContradiction fun hne => by
      obtain ⟨_, _, hA, _⟩ := hnews hne
      cases hA
    subst hne
    have hm0 : m = 0 := by
      rcases Nat.eq_zero_or_pos m with h | h
      · exact h
      · have := Nat.mul_pos h hsz
        simp only [List.length_nil] at hl
        omega
    subst hm0
    have hrun : (Builtin.append_ #[t, t] o.type #[.slice A n c, .slice none 0 k]).run P w = .ok (.slice A n c) w := by
      rcases hown.2 with ⟨hv, hn0⟩ | ⟨g, cap, cur, hv, _, _, hnc, _⟩
      · injection hv with e1 e2 e3
        subst e1 e2 e3
        simp [Builtin.append_, run_underlying ht, sizeOf, typeInfo, hi, Builtin.lenOf, Builtin.firstCells]
      · injection hv with e1 e2 e3
        subst e1 e3
        simp [Builtin.append_, run_underlying ht, sizeOf, typeInfo, hi, Builtin.lenOf, Builtin.firstCells, hnc, storeCells]
    unfold Oper.wp
    simp only [execOp, ho, resolve, invoke, builtin, Sem.run_bind, Sem.run_pure, Result.andThen_ok, List.map_toArray, List.map_cons, List.map_nil, hs, hx, hrun]
    refine h A c w (by simpa using hown) (Below.refl _ _) ⟨rfl, rfl, rfl, Nat.le_refl _, fun _ _ _ => rfl⟩ (.inl rfl)
theorem wp_cat {P : Program} {o : Oper} {a : Act} {w : World} {K : Act → World → Prop} {Q : Exit → Act → World → Prop} (s x : Operand) (t : TypeId)
    (ho : o.op = .call { callee := .builtin .append, args := #[s, x], argTypes := #[t, t] })
    (e : TypeId) (z : Value) (size bytes : Nat) (ht : P.underlying t = some (.slice e))
    (hinf : (P.info? e).map (fun i => (i.zero, i.size, i.bytes)) = some (some z, size, bytes)) (hzs : z.cells.size = size) (hsz : 0 < size) (hby : bytes ≤ 4096)
    (base : Nat) (A : Option Addr) (n c : Nat) (cs : List Value) (hs : a.eval s = .slice A n c) (hown : w.ownsRow base e size (.slice A n c) n cs)
    (B : Nat) (X : Option Addr) (m k : Nat) (news : List Value) (hx : a.eval x = .slice X m k) (hl : news.length = m * size) (hm : m ≤ 4294967296)
    (hnews : Sl w B X news) (h1 : ∀ u ∈ news, u.oneCell' = true)
    (hn : n ≤ 4294967296) (hbase : base ≤ w.heap.size)
    (h : ∀ A' c' w', w'.ownsRow base e size (.slice A' (n + m) c') (n + m) (cs ++ news) → Below base w w' → w.grownBy w' (Value.slice A n c).ownBlock → K (a.put o.dst (.slice A' (n + m) c')) w') :
    o.wp P a w K Q :=
  wp_catAt s x t ho e z size bytes ht hinf hzs hsz hby base A n c cs hs hown B X m k news hx hl hm hnews h1 hn hbase fun A' c' w' h2 h3 h4 _ => h A' c' w' h2 h3 h4
theorem wpList_cat {P : Program} {ops : Array Oper} {rest : List Oper} {o : Oper} {a : Act} {w : World} {Q : Exit → Act → World → Prop} (hgd : o.guard = none) (s x : Operand) (t : TypeId)
    (ho : o.op = .call { callee := .builtin .append, args := #[s, x], argTypes := #[t, t] })
    (e : TypeId) (z : Value) (size bytes : Nat) (ht : P.underlying t = some (.slice e))
    (hinf : (P.info? e).map (fun i => (i.zero, i.size, i.bytes)) = some (some z, size, bytes)) (hzs : z.cells.size = size) (hsz : 0 < size) (hby : bytes ≤ 4096)
    (base : Nat) (A : Option Addr) (n c : Nat) (cs : List Value) (hs : a.eval s = .slice A n c) (hown : w.ownsRow base e size (.slice A n c) n cs)
    (B : Nat) (X : Option Addr) (m k : Nat) (news : List Value) (hx : a.eval x = .slice X m k) (hl : news.length = m * size) (hm : m ≤ 4294967296)
    (hnews : Sl w B X news) (h1 : ∀ u ∈ news, u.oneCell' = true)
    (hn : n ≤ 4294967296) (hbase : base ≤ w.heap.size)
    (h : ∀ A' c' w', w'.ownsRow base e size (.slice A' (n + m) c') (n + m) (cs ++ news) → Below base w w' → w.grownBy w' (Value.slice A n c).ownBlock → wpList P ops Q rest (a.put o.dst (.slice A' (n + m) c')) w') :
    wpList P ops Q (o :: rest) a w :=
  wpList_plain hgd fun _ hK => wp_cat s x t ho e z size bytes ht hinf hzs hsz hby base A n c cs hs hown B X m k news hx hl hm hnews h1 hn hbase fun A' c' w' h2 h3 h4 => hK _ _ (h A' c' w' h2 h3 h4)
theorem wpList_catAt {P : Program} {ops : Array Oper} {rest : List Oper} {o : Oper} {a : Act} {w : World} {Q : Exit → Act → World → Prop} (hgd : o.guard = none) (s x : Operand) (t : TypeId)
    (ho : o.op = .call { callee := .builtin .append, args := #[s, x], argTypes := #[t, t] })
    (e : TypeId) (z : Value) (size bytes : Nat) (ht : P.underlying t = some (.slice e))
    (hinf : (P.info? e).map (fun i => (i.zero, i.size, i.bytes)) = some (some z, size, bytes)) (hzs : z.cells.size = size) (hsz : 0 < size) (hby : bytes ≤ 4096)
    (base : Nat) (A : Option Addr) (n c : Nat) (cs : List Value) (hs : a.eval s = .slice A n c) (hown : w.ownsRow base e size (.slice A n c) n cs)
    (B : Nat) (X : Option Addr) (m k : Nat) (news : List Value) (hx : a.eval x = .slice X m k) (hl : news.length = m * size) (hm : m ≤ 4294967296)
    (hnews : Sl w B X news) (h1 : ∀ u ∈ news, u.oneCell' = true)
    (hn : n ≤ 4294967296) (hbase : base ≤ w.heap.size)
    (h : ∀ A' c' w', w'.ownsRow base e size (.slice A' (n + m) c') (n + m) (cs ++ news) → Below base w w' → w.grownBy w' (Value.slice A n c).ownBlock → ((Value.slice A' (n + m) c').ownBlock = (Value.slice A n c).ownBlock ∨ (Value.slice A' (n + m) c').ownBlock = some w.heap.size) → wpList P ops Q rest (a.put o.dst (.slice A' (n + m) c')) w') :
    wpList P ops Q (o :: rest) a w :=
  wpList_plain hgd fun _ hK => wp_catAt s x t ho e z size bytes ht hinf hzs hsz hby base A n c cs hs hown B X m k news hx hl hm hnews h1 hn hbase fun A' c' w' h2 h3 h4 h5 => hK _ _ (h A' c' w' h2 h3 h4 h5)
theorem Sl.new (w : World) (t : TypeId) (cs : List Value) : Sl (w.alloc (.cells cs.toArray t)) (w.heap.size + 1) (some ⟨w.heap.size, 0, none⟩) cs := fun _ => ⟨w.heap.size, 0, rfl, by omega, fun j u hu => by
  rw [Nat.zero_add, World.cell?_alloc_at _ _ _ _ rfl]
  simpa using hu⟩
theorem tk_one (l : List Tk) : ∀ u ∈ tkcells l, u.oneCell' = true := by
  intro u hu
  obtain ⟨t, _, ht⟩ := List.mem_flatMap.1 hu
  simp only [tcells, List.mem_cons, List.not_mem_nil, or_false] at ht
  rcases ht with rfl | rfl | rfl <;> rfl
theorem tcs_onecell (l : List Tr) : ∀ u ∈ tcs l, u.oneCell' = true := by
  intro u hu
  obtain ⟨t, _, ht⟩ := List.mem_flatMap.1 hu
  simp only [rcells, List.mem_cons, List.not_mem_nil, or_false] at ht
  rcases ht with rfl | rfl | rfl | rfl | rfl <;> rfl
end Go.Proofs.Ytnaaejemanmgnaa
