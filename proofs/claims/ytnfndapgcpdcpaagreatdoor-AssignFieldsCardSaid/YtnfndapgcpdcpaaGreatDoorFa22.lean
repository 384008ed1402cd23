/- Texts that all the claims need. Conditions: those that each states. -/
import Derived.Lib.AppendStr
import Derived.Lib.OthersKept
import Derived.Maps.AppendAt
import Derived.WalkMore
import Derived.Test.YtnfndapgcpdcpaaGreatDoorFa19
set_option linter.unusedSimpArgs false
set_option linter.unusedVariables false
set_option maxRecDepth 100000
set_option maxHeartbeats 40000000
namespace Go.Proofs.YtnfndapgcpdcpaaGreatDoor
section
namespace TR
open LX
inductive Tr where
 | mk (t : Tk) (A : Option Addr) (c : Nat) (ks : List Tr) (e : Int)
def Tr.t : Tr → Tk | .mk t _ _ _ _ => t
def Tr.A : Tr → Option Addr | .mk _ A _ _ _ => A
def Tr.c : Tr → Nat | .mk _ _ c _ _ => c
def Tr.ks : Tr → List Tr | .mk _ _ _ ks _ => ks
def Tr.e : Tr → Int | .mk _ _ _ _ e => e
def r0 : Tr := .mk t0 none 0 [] 0
def cl (k : Nat) : Nat := if k = 40 then 41 else if k = 123 then 125 else if k = 91 then 93 else 0
def cls (k : Nat) : Bool := decide (k = 41) || (decide (k = 125) || decide (k = 93))
theorem ind {P : List Tr → Prop} (h0 : P []) (h1 : ∀ t A c ks e r, P ks → P r → P (.mk t A c ks e :: r)) : ∀ l, P l
 | [] => h0
 | .mk t A c ks e :: r => h1 t A c ks e r (ind h0 h1 ks) (ind h0 h1 r)
def nodes : List Tr → List Tr
 | [] => []
 | .mk t A c ks e :: r => .mk t A c ks e :: (nodes ks ++ nodes r)
def er : List Tr → List Tr
 | [] => []
 | .mk t _ _ ks e :: r => .mk t none 0 (er ks) e :: er r
theorem nodes_append (a b : List Tr) : nodes (a ++ b) = nodes a ++ nodes b := by
 induction a with
 | nil => simp [nodes]
 | cons x a ih => cases x; simp [nodes, ih]
theorem er_append (a b : List Tr) : er (a ++ b) = er a ++ er b := by
 induction a with
 | nil => simp [er]
 | cons x a ih => cases x; simp [er, ih]
theorem er_length (l : List Tr) : (er l).length = l.length := by
 induction l with
 | nil => simp [er]
 | cons x a ih => cases x; simp [er, ih]
theorem mem_nodes {l : List Tr} {x : Tr} (h : x ∈ l) : x ∈ nodes l := by
 induction l with
 | nil => cases h
 | cons y l ih =>
   obtain ⟨t, A, c, ks, e⟩ := y
   rw [nodes]
   rcases List.mem_cons.1 h with rfl | h
   ·exact List.mem_cons_self
   ·exact List.mem_cons_of_mem _ (List.mem_append_right _ (ih h))
theorem mem_kids {l : List Tr} {x y : Tr} (h : x ∈ l) (hy : y ∈ nodes x.ks) : y ∈ nodes l := by
 induction l with
 | nil => cases h
 | cons z l ih =>
   obtain ⟨t, A, c, ks, e⟩ := z
   rw [nodes]
   rcases List.mem_cons.1 h with rfl | h
   ·exact List.mem_cons_of_mem _ (List.mem_append_left _ hy)
   ·exact List.mem_cons_of_mem _ (List.mem_append_right _ (ih h))
inductive Spells : List Tk → List Tr → Prop
 | nil : Spells [] []
 | leaf {t : Tk} {l : List Tk} {r : List Tr} : cl t.k = 0 → cls t.k = false → Spells l r → Spells (t :: l) (.mk t none 0 [] t.p :: r)
 | node {t c : Tk} {l1 l2 : List Tk} {ks r : List Tr} : ¬ cl t.k = 0 → c.k = cl t.k → Spells l1 ks → Spells l2 r → Spells (t :: (l1 ++ c :: l2)) (.mk t none 0 ks c.p :: r)
theorem Spells.append {a b : List Tk} {x y : List Tr} (h : Spells a x) (h2 : Spells b y) : Spells (a ++ b) (x ++ y) := by
 induction h with
 | nil => exact h2
 | leaf h3 h4 _ ih => exact .leaf h3 h4 ih
 | node h3 h4 h5 _ _ ih =>
   have := Spells.node h3 h4 h5 ih
   simpa using this
end TR
end
section
open Go.RowKit LX TR
section
variable {α : Type} {f : α → List Value} {m : Nat}
theorem fm_length (hf : ∀ x, (f x).length = m) : ∀ l : List α, (l.flatMap f).length = l.length * m
 | [] => by simp
 | x :: l => by
   rw [List.flatMap_cons, zA7, fm_length hf l, hf, zA8, Nat.add_mul]; omega
theorem fm_at (hf : ∀ x, (f x).length = m) (z : α) : ∀ (l : List α) (i j : Nat), i < l.length → j < m → (l.flatMap f)[i * m + j]? = (f (l.getD i z))[j]?
 | [], i, j, hi, _ => by simp at hi
 | x :: l, 0, j, _, hj => by
   rw [List.flatMap_cons, List.getElem?_append_left (by rw [hf]; omega)]
   simp
 | x :: l, i + 1, j, hi, hj => by
   have := fm_at hf z l i j (by simpa using hi) hj
   rw [List.flatMap_cons, List.getElem?_append_right (by rw [hf, Nat.add_mul]; omega), hf, show (i + 1) * m + j - m = i * m + j by rw [Nat.add_mul]; omega, this]
   simp
theorem sl_at {w : World} {B : Nat} {A : Option Addr} {l : List α} (hf : ∀ x, (f x).length = m) (z : α) (h : Sl w B A (l.flatMap f)) {k : Nat} (hk : k < l.length) (hm : 0 < m) :
 ∃ b o, A = some ⟨b, o, none⟩ ∧ b < B ∧ ∀ i j u, i < l.length → j < m → (f (l.getD i z))[j]? = some u → w.cell? ⟨b, o + (i * m + j), none⟩ = some u := by
 obtain ⟨b, o, hA, hb, hc⟩ := Sl.at_ h (fun e => by
  have := congrArg List.length e
  rw [fm_length hf] at this
  simp only [zA9, Nat.mul_eq_zero] at this
  omega)
 exact ⟨b, o, hA, hb, fun i j u hi hj hu => hc _ _ (by rw [fm_at hf z l i j hi hj]; exact hu)⟩
end
def rcells (x : Tr) : List Value := [.int .u8 (x.t.k : Int), .string x.t.s, .int .i64 x.t.p, .slice x.A x.ks.length x.c, .int .i64 x.e]
theorem rcells_length (x : Tr) : (rcells x).length = 5 := rfl
def tcs (l : List Tr) : List Value := l.flatMap rcells
def Trs (w : World) (B : Nat) (A : Option Addr) (l : List Tr) : Prop := Sl w B A (tcs l) ∧ ∀ x ∈ nodes l, Sl w B x.A (tcs x.ks) ∧ x.ks.length ≤ x.c
section
variable {w w' : World} {B B' : Nat} {A : Option Addr} {l : List Tr}
theorem Trs.below (h : Trs w B A l) (hb : Below B w w') : Trs w' B A l := ⟨h.1.below hb, fun x hx => ⟨(h.2 x hx).1.below hb, (h.2 x hx).2⟩⟩
theorem Trs.mono (h : Trs w B A l) (hB : B ≤ B') : Trs w B' A l := ⟨h.1.mono hB, fun x hx => ⟨(h.2 x hx).1.mono hB, (h.2 x hx).2⟩⟩
theorem Trs.nil (w : World) (B : Nat) (A : Option Addr) : Trs w B A [] := ⟨Sl.nil _ _ _, fun x hx => by simp [nodes] at hx⟩
theorem Trs.at (h : Trs w B A l) {k : Nat} (hk : k < l.length) : ∃ b o, A = some ⟨b, o, none⟩ ∧ b < B ∧ ∀ i, i < l.length →
 w.cell? ⟨b, o + i * 5, none⟩ = some (.int .u8 ((l.getD i r0).t.k : Int)) ∧ w.cell? ⟨b, o + i * 5 + 1, none⟩ = some (.string (l.getD i r0).t.s) ∧ w.cell? ⟨b, o + i * 5 + 2, none⟩ = some (.int .i64 (l.getD i r0).t.p)
 ∧ w.cell? ⟨b, o + i * 5 + 3, none⟩ = some (.slice (l.getD i r0).A (l.getD i r0).ks.length (l.getD i r0).c) ∧ w.cell? ⟨b, o + i * 5 + 4, none⟩ = some (.int .i64 (l.getD i r0).e) := by
 obtain ⟨b, o, hA, hb, hc⟩ := sl_at rcells_length r0 h.1 hk (by omega)
 refine ⟨b, o, hA, hb, fun i hi => ⟨hc i 0 _ hi (by omega) rfl, ?_, ?_, ?_, ?_⟩⟩
 ·rw [Nat.add_assoc]; exact hc i 1 _ hi (by omega) rfl
 ·rw [Nat.add_assoc]; exact hc i 2 _ hi (by omega) rfl
 ·rw [Nat.add_assoc]; exact hc i 3 _ hi (by omega) rfl
 ·rw [Nat.add_assoc]; exact hc i 4 _ hi (by omega) rfl
theorem Trs.cap (h : Trs w B A l) {x : Tr} (hx : x ∈ l) : x.ks.length ≤ x.c := (h.2 x (mem_nodes hx)).2
theorem Trs.append {A2 : Option Addr} {l2 : List Tr} {A3 : Option Addr} (h : Trs w B A l) (h2 : Trs w B A2 l2) (h3 : Sl w B A3 (tcs (l ++ l2))) : Trs w B A3 (l ++ l2) :=
 ⟨h3, fun x hx => by rw [nodes_append] at hx; exact (List.mem_append.1 hx).elim (h.2 x) (h2.2 x)⟩
end
def SlC (w : World) (ok : Nat → Prop) (A : Option Addr) (cs : List Value) : Prop :=
 cs ≠ [] → ∃ b o, A = some ⟨b, o, none⟩ ∧ b < w.heap.size ∧ ok b ∧ ∀ j u, cs[j]? = some u → w.cell? ⟨b, o + j, none⟩ = some u
section
variable {w w' : World} {ok ok' : Nat → Prop} {A : Option Addr} {cs : List Value}
theorem SlC.nil (w : World) (ok : Nat → Prop) (A : Option Addr) : SlC w ok A [] := fun h => absurd rfl h
theorem SlC.keep (h : SlC w ok A cs) (hs : w.heap.size ≤ w'.heap.size) (hb : ∀ b, b < w.heap.size → ok b → w'.heap[b]? = w.heap[b]?) (hok : ∀ b, b < w.heap.size → ok b → ok' b) : SlC w' ok' A cs := fun hne => by
 obtain ⟨b, o, hA, hlt, hk, hc⟩ := h hne
 exact ⟨b, o, hA, by omega, hok b hlt hk, fun j u hu => (World.cell?_of_block (a := ⟨b, o + j, none⟩) (hb b hlt hk)).trans (hc j u hu)⟩
theorem SlC.sl (h : SlC w ok A cs) : Sl w w.heap.size A cs := fun hne => by
 obtain ⟨b, o, hA, hlt, _, hc⟩ := h hne
 exact ⟨b, o, hA, hlt, hc⟩
theorem SlC.of_own {base e size n c : Nat} (h : w.ownsRow base e size (.slice A n c) n cs) (hok : ∀ b, base ≤ b → (Value.slice A n c).ownBlock = some b → ok b) : SlC w ok A cs := fun hne => by
 rcases h.2 with ⟨_, hn⟩ | ⟨g, cap, cur, hv, hg, hh, h1, h2, h3, h4⟩
 ·have := h.1
  rw [hn] at this
  exact absurd (List.eq_nil_of_length_eq_zero (by simpa using this)) hne
 ·injection hv with e1 _ e3
  subst e1 e3
  refine ⟨g, 0, rfl, (Array.getElem?_eq_some_iff.1 hh).1, hok g hg rfl, fun j u hu => ?_⟩
  rw [Nat.zero_add, cell_of_row w g j cur e (0, 0) hh]
  rw [← h4, List.getElem?_take] at hu
  split at hu
  ·simpa using hu
  ·cases hu
end
def Deep (w : World) (ok : Nat → Prop) (l : List Tr) : Prop := ∀ x ∈ nodes l, SlC w ok x.A (tcs x.ks) ∧ x.ks.length ≤ x.c
section
variable {w w' : World} {ok ok' : Nat → Prop} {A : Option Addr} {l m : List Tr}
theorem Deep.keep (h : Deep w ok l) (hs : w.heap.size ≤ w'.heap.size) (hb : ∀ b, b < w.heap.size → ok b → w'.heap[b]? = w.heap[b]?) (hok : ∀ b, b < w.heap.size → ok b → ok' b) : Deep w' ok' l := fun x hx => ⟨(h x hx).1.keep hs hb hok, (h x hx).2⟩
theorem Deep.nil (w : World) (ok : Nat → Prop) : Deep w ok [] := fun x hx => by simp [nodes] at hx
theorem Deep.append (h : Deep w ok l) (h2 : Deep w ok m) : Deep w ok (l ++ m) := fun x hx => by
 rw [nodes_append] at hx
 exact (List.mem_append.1 hx).elim (h x) (h2 x)
theorem Deep.one {x : Tr} (h : SlC w ok x.A (tcs x.ks)) (hc : x.ks.length ≤ x.c) (h2 : Deep w ok x.ks) : Deep w ok [x] := fun y hy => by
 obtain ⟨t, A, c, ks, e⟩ := x
 simp only [nodes, List.append_nil, List.mem_cons] at hy
 rcases hy with rfl | hy
 ·exact ⟨h, hc⟩
 ·exact h2 y hy
end
theorem own_cap_le {w : World} {base size n c : Nat} {e : TypeId} {A : Option Addr} {cs : List Value} (h : w.ownsRow base e size (.slice A n c) n cs) : n ≤ c := by
 obtain ⟨A', c', hv, hc, _⟩ := own_form h
 injection hv with _ _ h3
 omega
theorem own_at {w : World} {base size n c : Nat} {e : TypeId} {A : Option Addr} {cs : List Value} (h : w.ownsRow base e size (.slice A n c) n cs) (hA : cs ≠ []) : ∃ g, A = some ⟨g, 0, none⟩ ∧ base ≤ g ∧ g < w.heap.size ∧ (∀ o, w.frozen? ⟨g, o, none⟩ = false) ∧ ∀ j u, cs[j]? = some u → w.cell? ⟨g, j, none⟩ = some u := by
 rcases h.2 with ⟨_, hn⟩ | ⟨g, cap, cur, hv, hg, hh, h1, h2, h3, h4⟩
 ·have := h.1
  rw [hn] at this
  exact absurd (List.eq_nil_of_length_eq_zero (by simpa using this)) hA
 ·injection hv with e1 _ e3
  subst e1 e3
  refine ⟨g, rfl, hg, (Array.getElem?_eq_some_iff.1 hh).1, fun o => by simp [World.frozen?, hh], fun j u hu => ?_⟩
  rw [cell_of_row w g j cur e (0, 0) hh]
  rw [← h4, List.getElem?_take] at hu
  split at hu
  ·simpa using hu
  ·cases hu
theorem Sl.new (w : World) (t : TypeId) (cs : List Value) : Sl (w.alloc (.cells cs.toArray t)) (w.heap.size + 1) (some ⟨w.heap.size, 0, none⟩) cs := fun _ => ⟨w.heap.size, 0, rfl, by omega, fun j u hu => by
 rw [Nat.zero_add, World.cell?_alloc_at _ _ _ _ rfl]
 simpa using hu⟩
end
section
open Go.RowKit LX TR
end
section
namespace TR
open LX
end TR
open Go.RowKit LX TR
end
section
open Go.RowKit LX TR
end
section
open Go.RowKit LX TR
def Sep (B : Nat) (v : Value) (b : Nat) : Prop := B ≤ b ∧ some b ≠ v.ownBlock
theorem Deep.below {w w' : World} {ok : Nat → Prop} {l : List Tr} (h : Deep w ok l) (hb : Below w.heap.size w w') : Deep w' ok l := h.keep hb.size (fun b hlt _ => hb.block b hlt) (fun _ _ h => h)
theorem Deep.grown {w w' : World} {B : Nat} {v v' : Value} {l : List Tr} (h : Deep w (Sep B v) l) (hg : w.grownBy w' v.ownBlock) (hat : v'.ownBlock = v.ownBlock ∨ v'.ownBlock = some w.heap.size) : Deep w' (Sep B v') l :=
 h.keep hg.size (fun b hlt hk => hg.block b hlt hk.2) (fun b hlt hk => ⟨hk.1, by
  rcases hat with e | e
  ·rw [e]; exact hk.2
  ·rw [e]; intro e2; injection e2 with e2; omega⟩)
def SepN (B : Nat) (v : Value) (g b : Nat) : Prop := Sep B v b ∧ b ≠ g
theorem Deep.sep {w : World} {B g : Nat} {v : Value} {l : List Tr} (h : Deep w (SepN B v g) l) : Deep w (Sep B v) l := h.keep (zL _) (fun _ _ _ => rfl) (fun _ _ h => h.1)
end
section
open Go.RowKit LX TR
end
section
namespace TM
open LX TR
structure Wd where
 s : ByteArray
 p : Int
inductive Nd where
 | mk (k p : Int) (s : ByteArray) (A : Option Addr) (c : Nat) (ws : List Wd) (B : Option Addr) (d : Nat) (ks : List Nd)
def Nd.k : Nd → Int | .mk k _ _ _ _ _ _ _ _ => k
def Nd.p : Nd → Int | .mk _ p _ _ _ _ _ _ _ => p
def Nd.s : Nd → ByteArray | .mk _ _ s _ _ _ _ _ _ => s
def Nd.A : Nd → Option Addr | .mk _ _ _ A _ _ _ _ _ => A
def Nd.c : Nd → Nat | .mk _ _ _ _ c _ _ _ _ => c
def Nd.ws : Nd → List Wd | .mk _ _ _ _ _ ws _ _ _ => ws
def Nd.B : Nd → Option Addr | .mk _ _ _ _ _ _ B _ _ => B
def Nd.d : Nd → Nat | .mk _ _ _ _ _ _ _ d _ => d
def Nd.ks : Nd → List Nd | .mk _ _ _ _ _ _ _ _ ks => ks
def nd (k p : Int) (s : ByteArray) (ws : List Wd) (ks : List Nd) : Nd := .mk k p s none 0 ws none 0 ks
def n0 : Nd := nd 0 0 ⟨#[]⟩ [] []
def w0 : Wd := ⟨⟨#[]⟩, 0⟩
theorem ind {P : List Nd → Prop} (h0 : P []) (h1 : ∀ k p s A c ws B d ks r, P ks → P r → P (.mk k p s A c ws B d ks :: r)) : ∀ l, P l
 | [] => h0
 | .mk k p s A c ws B d ks :: r => h1 k p s A c ws B d ks r (ind h0 h1 ks) (ind h0 h1 r)
def all : List Nd → List Nd
 | [] => []
 | .mk k p s A c ws B d ks :: r => .mk k p s A c ws B d ks :: (all ks ++ all r)
def er : List Nd → List Nd
 | [] => []
 | .mk k p s _ _ ws _ _ ks :: r => .mk k p s none 0 ws none 0 (er ks) :: er r
def er1 (x : Nd) : Nd := nd x.k x.p x.s x.ws (er x.ks)
theorem er_cons (x : Nd) (r : List Nd) : er (x :: r) = er1 x :: er r := by cases x; rw [er]; rfl
theorem er_append (a b : List Nd) : er (a ++ b) = er a ++ er b := by
 induction a with
 | nil => simp [er]
 | cons x a ih => rw [List.cons_append, er_cons, er_cons, ih]; rfl
theorem er_length (l : List Nd) : (er l).length = l.length := by
 induction l with
 | nil => simp [er]
 | cons x a ih => rw [er_cons, zA8, ih, zA8]
theorem all_append (a b : List Nd) : all (a ++ b) = all a ++ all b := by
 induction a with
 | nil => simp [all]
 | cons x a ih => cases x; simp [all, ih]
theorem all_cons (x : Nd) (r : List Nd) : all (x :: r) = x :: (all x.ks ++ all r) := by cases x; rw [all]; rfl
theorem mem_all {l : List Nd} {x : Nd} (h : x ∈ l) : x ∈ all l := by
 induction l with
 | nil => cases h
 | cons y l ih =>
   rw [all_cons]
   rcases List.mem_cons.1 h with rfl | h
   ·exact List.mem_cons_self
   ·exact List.mem_cons_of_mem _ (List.mem_append_right _ (ih h))
theorem mem_kids {l : List Nd} {x y : Nd} (h : x ∈ l) (hy : y ∈ all x.ks) : y ∈ all l := by
 induction l with
 | nil => cases h
 | cons z l ih =>
   rw [all_cons]
   rcases List.mem_cons.1 h with rfl | h
   ·exact List.mem_cons_of_mem _ (List.mem_append_left _ hy)
   ·exact List.mem_cons_of_mem _ (List.mem_append_right _ (ih h))
abbrev Res (α : Type) := Except Int (α × List Tr)
abbrev Rdr (α : Type) := List Tr → Int → Res α
def bnd {α β : Type} (x : Res α) (f : α → List Tr → Res β) : Res β := match x with
 | .error p => .error p
 | .ok (a, r) => f a r
def takeR (k : Nat) : Rdr Tk := fun ts e => match ts with
 | [] => .error e
 | x :: r => if x.t.k = k then .ok (x.t, r) else .error x.t.p
def nameR : Rdr Wd := fun ts e => bnd (takeR 97 ts e) fun t r => .ok (⟨t.s, t.p⟩, r)
def moreR {α : Type} (el : Rdr α) : Nat → Rdr (List α)
 | 0 => fun ts _ => .ok ([], ts)
 | n + 1 => fun ts e => match ts with
   | [] => .ok ([], [])
   | c :: r => if c.t.k = 44 then bnd (el r e) fun x r2 => bnd (moreR el n r2 e) fun xs r3 => .ok (x :: xs, r3) else .ok ([], c :: r)
def someR {α : Type} (el : Rdr α) : Rdr (List α) := fun ts e => bnd (el ts e) fun x r => bnd (moreR el ts.length r e) fun xs r3 => .ok (x :: xs, r3)
def withinR {α : Type} (k : Nat) (content : Rdr α) : Rdr α := fun ts e => match ts with
 | [] => .error e
 | x :: r => if x.t.k = k then bnd (content x.ks x.e) fun a r2 => (match r2 with
   | [] => .ok (a, r)
   | y :: _ => .error y.t.p) else .error x.t.p
def namesR : Rdr (List Wd) := withinR 123 (someR nameR)
def e0 : ByteArray := ⟨#[]⟩
def rest (l : List Tr) (i : Int) : List Tr := if i < 0 then [] else l.drop i.toNat
theorem rest_add (l : List Tr) (i : Int) (m : Nat) (hm : m ≤ (rest l i).length) : rest l (i + m) = (rest l i).drop m := by
 unfold rest at hm ⊢
 by_cases h : i < 0
 ·rw [if_pos h] at hm
  have : m = 0 := by simpa using hm
  subst this
  simp [h]
 ·rw [if_neg h, if_neg (by omega), List.drop_drop, show (i + m).toNat = i.toNat + m by omega]
def Adv (l : List Tr) (i i2 : Int) : Prop := ∃ m : Nat, i2 = i + m ∧ m ≤ (rest l i).length
theorem Adv.refl (l : List Tr) (i : Int) : Adv l i i := ⟨0, by simp, Nat.zero_le _⟩
theorem Adv.drop {l : List Tr} {i i2 : Int} (h : Adv l i i2) : ∃ m : Nat, i2 = i + m ∧ m ≤ (rest l i).length ∧ rest l i2 = (rest l i).drop m := by
 obtain ⟨m, rfl, hm⟩ := h
 exact ⟨m, rfl, hm, rest_add _ _ _ hm⟩
theorem Adv.trans {l : List Tr} {i i2 i3 : Int} (h : Adv l i i2) (h2 : Adv l i2 i3) : Adv l i i3 := by
 obtain ⟨m, rfl, hm, hr⟩ := h.drop
 obtain ⟨n, rfl, hn⟩ := h2
 rw [hr, List.length_drop] at hn
 exact ⟨m + n, by omega, by omega⟩
def Step {α : Type} (rd : Rdr α) (l : List Tr) (i e : Int) (f : Option Int) (x : α) (i2 : Int) (f2 : Option Int) : Prop :=
 Adv l i i2 ∧ (∀ p, f = some p → f2 = some p) ∧ (f = none → match rd (rest l i) e with
    | .error p => f2 = some p
    | .ok (y, r) => f2 = none ∧ x = y ∧ r = rest l i2)
section
variable {α β γ : Type} {rd : Rdr α} {l : List Tr} {i e : Int} {f : Option Int} {x : α} {i2 : Int} {f2 : Option Int}
theorem Step.bad {p : Int} (ha : Adv l i i2) : Step rd l i e (some p) x i2 (some p) := ⟨ha, fun _ h => h, fun h => by cases h⟩
theorem Step.ok (ha : Adv l i i2) (h : rd (rest l i) e = .ok (x, rest l i2)) : Step rd l i e none x i2 none :=
 ⟨ha, fun _ h => (by cases h), fun _ => by rw [h]; exact ⟨rfl, rfl, rfl⟩⟩
theorem Step.fault {p : Int} (ha : Adv l i i2) (h : rd (rest l i) e = .error p) : Step rd l i e none x i2 (some p) :=
 ⟨ha, fun _ h => (by cases h), fun _ => by rw [h]⟩
theorem Step.cases (h : Step rd l i e f x i2 f2) :
 (∃ p, f2 = some p ∧ ((f = none ∧ rd (rest l i) e = .error p) ∨ f = some p)) ∨ (f = none ∧ f2 = none ∧ rd (rest l i) e = .ok (x, rest l i2)) := by
 obtain ⟨_, h1, h2⟩ := h
 cases f with
 | some p => exact .inl ⟨p, h1 p rfl, .inr rfl⟩
 | none =>
   have h2 := h2 rfl
   cases hr : rd (rest l i) e with
   | error p => rw [hr] at h2; exact .inl ⟨p, h2, .inl ⟨rfl, rfl⟩⟩
   | ok yr =>
     obtain ⟨y, r⟩ := yr
     rw [hr] at h2
     obtain ⟨rfl, rfl, rfl⟩ := h2
     exact .inr ⟨rfl, rfl, rfl⟩
theorem Step.bind {rd2 : α → Rdr β} {y : β} {i3 : Int} {f3 : Option Int} (h : Step rd l i e f x i2 f2) (h2 : Step (rd2 x) l i2 e f2 y i3 f3) : Step (fun ts e => bnd (rd ts e) fun a r => rd2 a r e) l i e f y i3 f3 := by
 have ha := h.1.trans h2.1
 rcases h.cases with ⟨p, rfl, ⟨rfl, hr⟩ | rfl⟩ | ⟨rfl, rfl, hr⟩
 ·obtain rfl := h2.2.1 p rfl
  exact Step.fault ha (by show bnd _ _ = _; rw [hr]; rfl)
 ·obtain rfl := h2.2.1 p rfl
  exact Step.bad ha
 ·rcases h2.cases with ⟨p, rfl, ⟨_, hr2⟩ | h⟩ | ⟨_, rfl, hr2⟩
  ·exact Step.fault ha (by show bnd _ _ = _; rw [hr]; exact hr2)
  ·cases h
  ·exact Step.ok ha (by show bnd _ _ = _; rw [hr]; exact hr2)
theorem Step.pure (x : β) : Step (fun ts _ => .ok (x, ts)) l i e f x i f := by
 cases f with
 | none => exact Step.ok (Adv.refl _ _) rfl
 | some p => exact Step.bad (Adv.refl _ _)
theorem Step.map (g : α → β) (h : Step rd l i e f x i2 f2) : Step (fun ts e => bnd (rd ts e) fun a r => .ok (g a, r)) l i e f (g x) i2 f2 :=
 h.bind (rd2 := fun a ts _ => .ok (g a, ts)) (Step.pure (g x))
end
section
variable {α : Type} {rd : Rdr α} {l : List Tr} {i e : Int} {f : Option Int} {x : α} {xs : List α} {i2 i3 i4 : Int} {f2 f3 f4 : Option Int} {t : Tk}
end
end TM
end
section
open Go.RowKit LX TR TM
structure Mv (b : Nat) (w w' : World) : Prop where
 low : Below b w w'
 block : ∀ k, k < w.heap.size → k ≠ b → w'.heap[k]? = w.heap[k]?
section
variable {b B : Nat} {w w' w2 : World}
theorem Mv.size (h : Mv b w w') : w.heap.size ≤ w'.heap.size := h.low.size
theorem Mv.refl (b : Nat) (w : World) : Mv b w w := ⟨zB _ _, fun _ _ _ => rfl⟩
theorem Mv.trans (h : Mv b w w') (h2 : Mv b w' w2) : Mv b w w2 := ⟨h.low.trans h2.low, fun k hk hne => (h2.block k (zT hk h.size) hne).trans (h.block k hk hne)⟩
theorem Mv.below (hb : b < w.heap.size) (h : Below w.heap.size w w') : Mv b w w' := ⟨h.mono (by omega), fun k hk _ => h.block k hk⟩
theorem Mv.on (h : Mv b w w') (hb : Below b w' w2) (hc : ∀ k, k < w.heap.size → k ≠ b → w2.heap[k]? = w'.heap[k]?) : Mv b w w2 := ⟨h.low.trans hb, fun k hk hne => (hc k hk hne).trans (h.block k hk hne)⟩
theorem Mv.onBelow (h : Mv b w w') (hbw : b < w.heap.size) (hb : Below B w' w2) (hB : w.heap.size ≤ B) : Mv b w w2 := h.on (hb.mono (by omega)) fun k hk _ => hb.block k (by omega)
theorem Mv.alloc (h : Mv b w w') (hbw : b < w.heap.size) (o : Obj) : Mv b w (w'.alloc o) := h.onBelow hbw ((zB w'.heap.size _).alloc (zL _) o) h.size
theorem Mv.drewN (h : Mv b w w') (n : Nat) : Mv b w (w'.drewN n) := ⟨bdrewN h.low n, h.block⟩
theorem Mv.drew (h : Mv b w w') : Mv b w w'.drew := ⟨h.low.drew, h.block⟩
theorem Mv.setCell (h : Mv b w w') {p : Addr} (hp : p.block = b ∨ w.heap.size ≤ p.block) (hbw : b < w.heap.size) (u : Value) : Mv b w (w'.setCell p u) :=
 h.on ((zB b w').setCell (by rcases hp with hp | hp <;> omega) u) fun k hk hne => by
  simp only [World.setCell, Array.getElem?_modify]
  rw [if_neg]
  rcases hp with hp | hp <;> omega
end
theorem RowAt.mv {b q : Nat} {w w' : World} {t : TypeId} {cs : Array Value} (h : RowAt w q t cs) (hm : Mv b w w') (hq : q ≠ b) : RowAt w' q t cs := (hm.block q h.lt hq).trans h
theorem row2 {w : World} {g : Nat} {t : TypeId} {a b : Value} (h : RowAt w g t #[a, b]) : w.cell? ⟨g, 0, none⟩ = some a ∧ w.cell? ⟨g, 1, none⟩ = some b ∧ w.frozen? ⟨g, 0, none⟩ = false ∧ w.frozen? ⟨g, 1, none⟩ = false :=
 ⟨(h.cell 0).trans rfl, (h.cell 1).trans rfl, h.free 0, h.free 1⟩
theorem row5 {w : World} {g : Nat} {t : TypeId} {a b c d e : Value} (h : RowAt w g t #[a, b, c, d, e]) : w.cell? ⟨g, 0, none⟩ = some a ∧ w.cell? ⟨g, 1, none⟩ = some b ∧ w.cell? ⟨g, 2, none⟩ = some c ∧ w.cell? ⟨g, 3, none⟩ = some d ∧ w.cell? ⟨g, 4, none⟩ = some e
 ∧ w.frozen? ⟨g, 0, none⟩ = false ∧ w.frozen? ⟨g, 1, none⟩ = false ∧ w.frozen? ⟨g, 2, none⟩ = false ∧ w.frozen? ⟨g, 3, none⟩ = false ∧ w.frozen? ⟨g, 4, none⟩ = false :=
 ⟨(h.cell 0).trans rfl, (h.cell 1).trans rfl, (h.cell 2).trans rfl, (h.cell 3).trans rfl, (h.cell 4).trans rfl, h.free 0, h.free 1, h.free 2, h.free 3, h.free 4⟩
section
variable {w : World} {b : Nat} {A : Option Addr} {n c : Nat} {i e x y : Int}
end
end
section
open Go.RowKit LX TR TM
theorem ret_cell {P : Program} {fn : Func} {q : Tmp} {ty : TypeId} (h : fn.results = #[.cell q ty]) (tmps : Array Value) (w : World) (g : Nat) (t : TypeId) (cs : Array Value) (fr : Nat × Nat) (d : TypeDesc)
 (hp : tmps.getD q undef = .pointer (some ⟨g, 0, none⟩)) (hg : w.heap[g]? = some (.cells cs t fr))
 (hu : P.underlying ty = some d) (hd : (match d with | .struct _ | .array _ _ => true | _ => false) = true) (hi : (P.info? ty).map (·.size) = some cs.size) :
 (results fn tmps).run P w = .ok (.agg cs) w := by
 have hp' : tmps[q]?.getD undef = .pointer (some ⟨g, 0, none⟩) := by simpa using hp
 simp [results, h, hp', asAddr, run_loadVar_row w g t ty cs fr d hg hu hd hi]
theorem node_info (a b c d e : Value) : (Tryz.prog.info? 120).map (·.size) = some (#[a, b, c, d, e] : Array Value).size := by kernel_rfl
end
section
open Go.RowKit LX TR TM
def wcells (x : Wd) : List Value := [.string x.s, .int .i64 x.p]
def wv (x : Wd) : Array Value := #[.string x.s, .int .i64 x.p]
theorem wcells_length (x : Wd) : (wcells x).length = 2 := rfl
def wcs (l : List Wd) : List Value := l.flatMap wcells
theorem wcs_append (a b : List Wd) : wcs (a ++ b) = wcs a ++ wcs b := by simp [wcs]
theorem wcs_one (x : Wd) : wcs [x] = wcells x := by simp [wcs]
end
section
open Go.RowKit LX TR TM
theorem infoWord : (Tryz.prog.info? 177).map (fun i => (i.zero, i.size, i.bytes)) = some (some (.agg #[.string ⟨#[]⟩, .int .i64 0]), 2, 24) := by kernel_rfl
theorem wc_one (x : Wd) : ∀ u ∈ wcells x, u.oneCell' = true := by
 intro u hu
 simp only [wcells, List.mem_cons, List.not_mem_nil, or_false] at hu
 rcases hu with rfl | rfl <;> rfl
theorem own_like9 {w w' : World} {base size n : Nat} {e : TypeId} {v : Value} {cs : List Value} (h : w.ownsRow base e size v n cs) (hb : ∀ b, b < w.heap.size → v.ownBlock = some b → w'.heap[b]? = w.heap[b]?) : w'.ownsRow base e size v n cs := by
 refine ⟨h.1, ?_⟩
 rcases h.2 with hn | ⟨g, cap, cur, rfl, hg, hh, rest⟩
 ·exact .inl hn
 ·exact .inr ⟨g, cap, cur, rfl, hg, (hb g (Array.getElem?_eq_some_iff.1 hh).1 rfl).trans hh, rest⟩
def WordsV (w : World) (s : Nat) (xs : List Wd) (v : Value) : Prop := ∃ A c, v = .slice A xs.length c ∧ xs.length ≤ c ∧ SlC w (fun k => s ≤ k) A (wcs xs)
theorem er_one (x : Nd) : TM.er [x] = [er1 x] := by rw [TM.er_cons]; simp [TM.er]
def ncells (x : Nd) : List Value := [.int .i64 x.k, .int .i64 x.p, .string x.s, .slice x.A x.ws.length x.c, .slice x.B x.ks.length x.d]
def nv (x : Nd) : Array Value := #[.int .i64 x.k, .int .i64 x.p, .string x.s, .slice x.A x.ws.length x.c, .slice x.B x.ks.length x.d]
theorem ncells_length (x : Nd) : (ncells x).length = 5 := rfl
def ncs (l : List Nd) : List Value := l.flatMap ncells
theorem ncs_append (a b : List Nd) : ncs (a ++ b) = ncs a ++ ncs b := by simp [ncs]
theorem ncs_one (x : Nd) : ncs [x] = ncells x := by simp [ncs]
theorem ncs_length (l : List Nd) : (ncs l).length = l.length * 5 := fm_length ncells_length l
theorem infoNode : (Tryz.prog.info? 120).map (fun i => (i.zero, i.size, i.bytes)) = some (some (.agg #[.int .i64 0, .int .i64 0, .string ⟨#[]⟩, .slice none 0 0, .slice none 0 0]), 5, 80) := by kernel_rfl
theorem nc_one (x : Nd) : ∀ u ∈ ncells x, u.oneCell' = true := by
 intro u hu
 simp only [ncells, List.mem_cons, List.not_mem_nil, or_false] at hu
 rcases hu with rfl | rfl | rfl | rfl | rfl <;> rfl
def NdOk (w : World) (ok : Nat → Prop) (x : Nd) : Prop := (SlC w ok x.A (wcs x.ws) ∧ x.ws.length ≤ x.c) ∧ SlC w ok x.B (ncs x.ks) ∧ x.ks.length ≤ x.d
def DeepN (w : World) (ok : Nat → Prop) (l : List Nd) : Prop := ∀ x ∈ all l, NdOk w ok x
section
variable {w w' : World} {ok ok' : Nat → Prop} {l m : List Nd} {x : Nd}
theorem DeepN.keep (h : DeepN w ok l) (hs : w.heap.size ≤ w'.heap.size) (hb : ∀ b, b < w.heap.size → ok b → w'.heap[b]? = w.heap[b]?) (hok : ∀ b, b < w.heap.size → ok b → ok' b) : DeepN w' ok' l := fun x hx =>
 ⟨⟨(h x hx).1.1.keep hs hb hok, (h x hx).1.2⟩, (h x hx).2.1.keep hs hb hok, (h x hx).2.2⟩
theorem DeepN.nil (w : World) (ok : Nat → Prop) : DeepN w ok [] := fun x hx => by simp [all] at hx
theorem DeepN.append (h : DeepN w ok l) (h2 : DeepN w ok m) : DeepN w ok (l ++ m) := fun x hx => by
 rw [all_append] at hx
 exact (List.mem_append.1 hx).elim (h x) (h2 x)
theorem DeepN.one (h : NdOk w ok x) (h2 : DeepN w ok x.ks) : DeepN w ok [x] := fun y hy => by
 rw [all_cons] at hy
 simp only [all, List.append_nil, List.mem_cons] at hy
 rcases hy with rfl | hy
 ·exact h
 ·exact h2 y hy
end
def NodeV (w : World) (s : Nat) (x : Nd) (v : Value) : Prop := ∃ z, v = .agg (nv z) ∧ er1 z = x ∧ DeepN w (fun k => s ≤ k) [z]
def NodesV (w : World) (s : Nat) (xs : List Nd) (v : Value) : Prop := ∃ A c zs, v = .slice A zs.length c ∧ zs.length ≤ c ∧ TM.er zs = xs ∧ SlC w (fun k => s ≤ k) A (ncs zs) ∧ DeepN w (fun k => s ≤ k) zs
theorem deep_more {w wr w3 w4 : World} {b n d size : Nat} {e : TypeId} {X : Option Addr} {cs : List Value} {zs : List Nd} {z : Nd} (h : DeepN wr (fun k => w.heap.size ≤ k ∧ (Value.slice X n d).ownBlock ≠ some k) zs) (hm : Mv b wr w4)
 (h2 : DeepN w4 (fun k => w3.heap.size ≤ k) [z]) (ho : wr.ownsRow w.heap.size e size (.slice X n d) n cs) (h3 : wr.heap.size ≤ w3.heap.size) (hb : b < w.heap.size) (hw : w.heap.size ≤ wr.heap.size) (o : Obj) :
 DeepN (w4.alloc o) (fun k => w.heap.size ≤ k ∧ (Value.slice X n d).ownBlock ≠ some k) (zs ++ [z]) := by
 refine DeepN.keep (w := w4) (DeepN.append (h.keep hm.size (fun k hk h => hm.block k hk (by omega)) fun _ _ h => h) (h2.keep (zL _) (fun _ _ _ => rfl) fun k _ h => ⟨by omega, fun e => ?_⟩)) (by simp) (fun k hk _ => heap_alloc_old _ _ hk) fun _ _ h => h
 have := (ho.lt k e).2
 omega
theorem deep_grown {w w4 w5 : World} {n d d5 m : Nat} {X X5 : Option Addr} {zs : List Nd} (h : DeepN w4 (fun k => w.heap.size ≤ k ∧ (Value.slice X n d).ownBlock ≠ some k) zs) (hg : w4.grownBy w5 (Value.slice X n d).ownBlock)
 (hat : (Value.slice X5 m d5).ownBlock = (Value.slice X n d).ownBlock ∨ (Value.slice X5 m d5).ownBlock = some w4.heap.size) : DeepN w5 (fun k => w.heap.size ≤ k ∧ (Value.slice X5 m d5).ownBlock ≠ some k) zs :=
 h.keep hg.size (fun k hk h => hg.block k hk (fun e => h.2 e.symm)) fun k hk h => ⟨h.1, fun e => by
  rcases hat with e2 | e2
  ·exact h.2 (e2 ▸ e)
  ·rw [e2] at e
   injection e with e
   omega⟩
end
section
open Go.RowKit LX TR TM
structure Mv2 (b g : Nat) (w w' : World) : Prop where
 low : Below b w w'
 block : ∀ k, k < w.heap.size → k ≠ b → k ≠ g → w'.heap[k]? = w.heap[k]?
theorem Mv.two {b : Nat} {w w' : World} (h : Mv b w w') (g : Nat) : Mv2 b g w w' := ⟨h.low, fun k hk h1 _ => h.block k hk h1⟩
theorem Mv2.trans {b g : Nat} {w w' w2 : World} (h : Mv2 b g w w') (h2 : Mv2 b g w' w2) : Mv2 b g w w2 :=
 ⟨h.low.trans h2.low, fun k hk hb hg => (h2.block k (zT hk h.low.size) hb hg).trans (h.block k hk hb hg)⟩
end
section
open Go.RowKit LX TR TM
theorem SlC.weak {w : World} {ok ok' : Nat → Prop} {A : Option Addr} {cs : List Value} (h : SlC w ok A cs) (hok : ∀ b, b < w.heap.size → ok b → ok' b) : SlC w ok' A cs := h.keep (zL _) (fun _ _ _ => rfl) hok
theorem DeepN.weak {w : World} {ok ok' : Nat → Prop} {l : List Nd} (h : DeepN w ok l) (hok : ∀ b, b < w.heap.size → ok b → ok' b) : DeepN w ok' l := h.keep (zL _) (fun _ _ _ => rfl) hok
theorem WordsV.mono {w : World} {s s' : Nat} {x : List Wd} {v : Value} (h : WordsV w s x v) (hs : s' ≤ s) : WordsV w s' x v := by
 obtain ⟨A, c, h1, h2, h3⟩ := h
 exact ⟨A, c, h1, h2, h3.weak fun _ _ h => zM hs h⟩
theorem NodesV.mono {w : World} {s s' : Nat} {x : List Nd} {v : Value} (h : NodesV w s x v) (hs : s' ≤ s) : NodesV w s' x v := by
 obtain ⟨A, c, zs, h1, h2, h3, h4, h5⟩ := h
 exact ⟨A, c, zs, h1, h2, h3, h4.weak fun _ _ h => zM hs h, h5.weak fun _ _ h => zM hs h⟩
theorem NodeV.mono {w : World} {s s' : Nat} {x : Nd} {v : Value} (h : NodeV w s x v) (hs : s' ≤ s) : NodeV w s' x v := by
 obtain ⟨z, h1, h2, h3⟩ := h
 exact ⟨z, h1, h2, h3.weak fun _ _ h => zM hs h⟩
end
section
open Go.RowKit LX TR TM
end
section
open Go.RowKit LX TR TM
theorem calls_hid {P : Program} {F : FuncId} {a : Array Value} {w : World} {Q : Ending → World → Prop} (h : ∀ Q' : Ending → World → Prop, (∀ e w, Q e w → Q' e w) → Calls P F a w Q') : Calls P F a w Q := h Q fun _ _ h => h
def set5 (w : World) (g : Nat) (a b c d e : Value) : World := ((((w.setCell ⟨g, 0, none⟩ a).setCell ⟨g, 1, none⟩ b).setCell ⟨g, 2, none⟩ c).setCell ⟨g, 3, none⟩ d).setCell ⟨g, 4, none⟩ e
section
variable {w w0' : World} {b g : Nat} {a0 b0 c0 d0 e0 u0 u1 u2 u3 u4 : Value} {t : TypeId}
theorem set5_row (h : RowAt w g t #[u0, u1, u2, u3, u4]) : RowAt (set5 w g a0 b0 c0 d0 e0) g t #[a0, b0, c0, d0, e0] := ((((h.put 0 a0).put 1 b0).put 2 c0).put 3 d0).put 4 e0
theorem set5_size : (set5 w g a0 b0 c0 d0 e0).heap.size = w.heap.size := by simp [set5, World.setCell]
theorem set5_other {k : Nat} (hk : k ≠ g) : (set5 w g a0 b0 c0 d0 e0).heap[k]? = w.heap[k]? := by
 simp only [set5, World.setCell, Array.getElem?_modify]
 simp only [if_neg (Ne.symm hk)]
theorem set5_below (hb : b ≤ g) : Below b w (set5 w g a0 b0 c0 d0 e0) :=
 (((((zB b w).setCell (p := ⟨g, 0, none⟩) hb _).setCell (p := ⟨g, 1, none⟩) hb _).setCell (p := ⟨g, 2, none⟩) hb _).setCell (p := ⟨g, 3, none⟩) hb _).setCell (p := ⟨g, 4, none⟩) hb _
theorem set5_slc {ok ok' : Nat → Prop} {A : Option Addr} {cs : List Value} (h : SlC w ok A cs) (hk : ∀ k, k < w.heap.size → ok k → k ≠ g ∧ ok' k) : SlC (set5 w g a0 b0 c0 d0 e0) ok' A cs :=
 h.keep (by rw [set5_size]; exact zL _) (fun k hlt ho => set5_other (hk k hlt ho).1) fun k hlt ho => (hk k hlt ho).2
theorem set5_deep {ok ok' : Nat → Prop} {zs : List Nd} (h : DeepN w ok zs) (hk : ∀ k, k < w.heap.size → ok k → k ≠ g ∧ ok' k) : DeepN (set5 w g a0 b0 c0 d0 e0) ok' zs :=
 h.keep (by rw [set5_size]; exact zL _) (fun k hlt ho => set5_other (hk k hlt ho).1) fun k hlt ho => (hk k hlt ho).2
end
theorem deep_leaf (w : World) (ok : Nat → Prop) (k p : Int) (s : ByteArray) : DeepN w ok [nd k p s [] []] :=
 DeepN.one ⟨⟨SlC.nil _ _ _, zL _⟩, SlC.nil _ _ _, zL _⟩ (DeepN.nil _ _)
theorem er1_nd (k p : Int) (s : ByteArray) (ws : List Wd) : er1 (nd k p s ws []) = nd k p s ws [] := by simp [er1, nd, Nd.k, Nd.p, Nd.s, Nd.ws, Nd.ks, TM.er]
theorem nodeV_leaf (w : World) (s0 : Nat) (k p : Int) (s : ByteArray) : NodeV w s0 (nd k p s [] []) (.agg #[.int .i64 k, .int .i64 p, .string s, .slice none 0 0, .slice none 0 0]) := ⟨nd k p s [] [], rfl, er1_nd _ _ _ _, deep_leaf _ _ _ _ _⟩
theorem nodeV_names {w : World} {s0 : Nat} {k p : Int} {s : ByteArray} {ws : List Wd} {X : Option Addr} {d : Nat} (_ : True) (hd : ws.length ≤ d) (h : SlC w (fun k => s0 ≤ k) X (wcs ws)) : NodeV w s0 (nd k p s ws []) (.agg #[.int .i64 k, .int .i64 p, .string s, .slice X ws.length d, .slice none 0 0]) :=
 ⟨.mk k p s X d ws none 0 [], rfl, by simp [er1, nd, Nd.k, Nd.p, Nd.s, Nd.ws, Nd.ks, TM.er], DeepN.one ⟨⟨h, hd⟩, SlC.nil _ _ _, zL _⟩ (DeepN.nil _ _)⟩
theorem nodeV_kids {w : World} {s0 : Nat} {k p : Int} {s : ByteArray} {zs : List Nd} {X : Option Addr} {d : Nat} (hd : zs.length ≤ d) (h : SlC w (fun k => s0 ≤ k) X (ncs zs)) (h2 : DeepN w (fun k => s0 ≤ k) zs) : NodeV w s0 (nd k p s [] (TM.er zs)) (.agg #[.int .i64 k, .int .i64 p, .string s, .slice none 0 0, .slice X zs.length d]) :=
 ⟨.mk k p s none 0 [] X d zs, rfl, by simp [er1, nd, Nd.k, Nd.p, Nd.s, Nd.ws, Nd.ks], DeepN.one ⟨⟨SlC.nil _ _ _, zL _⟩, h, hd⟩ h2⟩
def KeepR (g3 g2 : Nat) (w0' : World) (b : Nat) (s : ByteArray) (p : Int) (w : World) : Prop :=
 RowAt w g3 177 #[.string s, .int .i64 p] ∧ RowAt w g2 120 #[.int .i64 0, .int .i64 0, .string ⟨#[]⟩, .slice none 0 0, .slice none 0 0] ∧ Mv b w0' w ∧ w0'.heap.size ≤ g2 ∧ w0'.heap.size ≤ g3
theorem KeepR.mv {g3 g2 : Nat} {w0' w w' : World} {b : Nat} {s : ByteArray} {p : Int} (h : KeepR g3 g2 w0' b s p w) (hb : b < w0'.heap.size) (hm : Mv b w w') : KeepR g3 g2 w0' b s p w' :=
 ⟨h.1.mv hm (by have := h.2.2.2.2; omega), h.2.1.mv hm (by have := h.2.2.2.1; omega), h.2.2.1.trans hm, h.2.2.2.1, h.2.2.2.2⟩
end
section
open Go.RowKit LX TR TM
theorem size_of_block {wa wb : World} {k : Nat} (hk : k < wa.heap.size) (h : wb.heap[k]? = wa.heap[k]?) : k < wb.heap.size := by
 rw [Array.getElem?_eq_getElem hk] at h
 exact (Array.getElem?_eq_some_iff.1 h).1
theorem SlC.keep9 {wa wb : World} {ok : Nat → Prop} {A : Option Addr} {cs : List Value} (h : SlC wa ok A cs) (hk : ∀ k, k < wa.heap.size → ok k → wb.heap[k]? = wa.heap[k]?) : SlC wb ok A cs := fun hne => by
 obtain ⟨b', o, hA, hlt, hok, hc⟩ := h hne
 have hs := hk b' hlt hok
 exact ⟨b', o, hA, size_of_block hlt hs, hok, fun j u hu => (World.cell?_of_block (a := ⟨b', o + j, none⟩) hs).trans (hc j u hu)⟩
theorem DeepN.keep9 {wa wb : World} {ok : Nat → Prop} {l : List Nd} (h : DeepN wa ok l) (hk : ∀ k, k < wa.heap.size → ok k → wb.heap[k]? = wa.heap[k]?) : DeepN wb ok l := fun x hx =>
 ⟨⟨(h x hx).1.1.keep9 hk, (h x hx).1.2⟩, (h x hx).2.1.keep9 hk, (h x hx).2.2⟩
end
section
open Go.RowKit LX TR TM
section
variable {d : Nat} {l : List Tr} {i e : Int} {f : Option Int} {i2 : Int} {f2 : Option Int}
end
end
section
open Go.RowKit LX TR TM
section
variable {d : Nat} {l : List Tr} {i e : Int} {f : Option Int} {i2 : Int} {f2 : Option Int}
end
end
section
open Go.RowKit LX TR TM
end
section
open Go.RowKit LX TR TM
section
variable {d : Nat} {l : List Tr} {i e : Int} {f : Option Int} {i2 i3 : Int} {f2 f3 : Option Int} {ks : List Nd}
end
end
section
open Go.RowKit LX TR TM
theorem DeepN.drew9 {w : World} {ok : Nat → Prop} {l : List Nd} (h : DeepN w ok l) : DeepN w.drew ok l := h.keep9 fun _ _ _ => rfl
def HandedW (s : Nat) (l : List Tr) (i e : Int) (v : Value) (w : World) : Prop := match namesR (rest l i) e with
 | .error p => v = .tuple #[.slice none 0 0, .agg #[.int .i64 2, .int .i64 p]]
 | .ok (ws, _) => ∃ A c, v = .tuple #[.slice A ws.length c, .agg #[.int .i64 0, .int .i64 0]] ∧ ws.length ≤ c ∧ SlC w (fun k => s ≤ k) A (wcs ws)
theorem HandedW.mono {s s' : Nat} {l : List Tr} {i e : Int} {v : Value} {w : World} (h : HandedW s' l i e v w) (hs : s ≤ s') : HandedW s l i e v w := by
 unfold HandedW at h ⊢
 cases hr : namesR (rest l i) e with
 | error p => rw [hr] at h; exact h
 | ok yr =>
   rw [hr] at h
   obtain ⟨A, c, h1, h2, h3⟩ := h
   exact ⟨A, c, h1, h2, h3.weak fun _ _ h => zM hs h⟩
end
end Go.Proofs.YtnfndapgcpdcpaaGreatDoor
