/- Texts that all the claims need. Conditions: those that each states. -/
import Derived.Deep.CutRange
import Derived.Maps.AppendAt
import Derived.Test.YtmffnkfohmbbeaaGreatDoorCi6
set_option linter.unusedSimpArgs false
set_option linter.unusedVariables false
set_option maxRecDepth 100000
set_option maxHeartbeats 40000000
namespace Go.Proofs.YtmffnkfohmbbeaaGreatDoor
section
namespace TR
open LX
inductive Tr where
 | mk (t : Tk) (A : Option Addr) (c : Nat) (ks : List Tr) (e : Int)
def Tr.t : Tr → Tk | .mk t _ _ _ _ => t
def Tr.A : Tr → Option Addr | .mk _ A _ _ _ => A
def Tr.c : Tr → Nat | .mk _ _ c _ _ => c
def Tr.ks : Tr → List Tr | .mk _ _ _ ks _ => ks
def Tr.e : Tr → Int | .mk _ _ _ _ e => e
def r0 : Tr := .mk t0 none 0 [] 0
def cl (k : Nat) : Nat := if k = 40 then 41 else if k = 123 then 125 else if k = 91 then 93 else 0
def cls (k : Nat) : Bool := decide (k = 41) || (decide (k = 125) || decide (k = 93))
theorem ind {P : List Tr → Prop} (h0 : P []) (h1 : ∀ t A c ks e r, P ks → P r → P (.mk t A c ks e :: r)) : ∀ l, P l
 | [] => h0
 | .mk t A c ks e :: r => h1 t A c ks e r (ind h0 h1 ks) (ind h0 h1 r)
def nodes : List Tr → List Tr
 | [] => []
 | .mk t A c ks e :: r => .mk t A c ks e :: (nodes ks ++ nodes r)
def er : List Tr → List Tr
 | [] => []
 | .mk t _ _ ks e :: r => .mk t none 0 (er ks) e :: er r
def dep : List Tr → Nat
 | [] => 0
 | .mk t _ _ ks _ :: r => max (if cl t.k = 0 then 0 else 1 + dep ks) (dep r)
def same : List Tr → List Tr → Bool
 | [], [] => true
 | .mk t _ _ ks e :: r, .mk u _ _ js f :: q => (decide (t = u) && (decide (e = f) && same ks js)) && same r q
 | _, _ => false
theorem nodes_append (a b : List Tr) : nodes (a ++ b) = nodes a ++ nodes b := by
 induction a with
 | nil => simp [nodes]
 | cons x a ih => cases x; simp [nodes, ih]
theorem er_append (a b : List Tr) : er (a ++ b) = er a ++ er b := by
 induction a with
 | nil => simp [er]
 | cons x a ih => cases x; simp [er, ih]
theorem dep_append (a b : List Tr) : dep (a ++ b) = max (dep a) (dep b) := by
 induction a with
 | nil => simp [dep]
 | cons x a ih => cases x; simp only [List.cons_append, dep, ih]; omega
theorem er_length (l : List Tr) : (er l).length = l.length := by
 induction l with
 | nil => simp [er]
 | cons x a ih => cases x; simp [er, ih]
theorem nodes_er : ∀ l, (nodes (er l)).length = (nodes l).length := by
 refine ind (by simp [er]) fun t A c ks e r h1 h2 => ?_
 simp only [er, nodes, zA8, zA7, h1, h2]
theorem mem_nodes {l : List Tr} {x : Tr} (h : x ∈ l) : x ∈ nodes l := by
 induction l with
 | nil => cases h
 | cons y l ih =>
   obtain ⟨t, A, c, ks, e⟩ := y
   rw [nodes]
   rcases List.mem_cons.1 h with rfl | h
   ·exact List.mem_cons_self
   ·exact List.mem_cons_of_mem _ (List.mem_append_right _ (ih h))
theorem mem_kids {l : List Tr} {x y : Tr} (h : x ∈ l) (hy : y ∈ nodes x.ks) : y ∈ nodes l := by
 induction l with
 | nil => cases h
 | cons z l ih =>
   obtain ⟨t, A, c, ks, e⟩ := z
   rw [nodes]
   rcases List.mem_cons.1 h with rfl | h
   ·exact List.mem_cons_of_mem _ (List.mem_append_left _ hy)
   ·exact List.mem_cons_of_mem _ (List.mem_append_right _ (ih h))
theorem length_nodes (l : List Tr) : l.length ≤ (nodes l).length := by
 induction l with
 | nil => simp
 | cons x l ih => cases x; simp [nodes]; omega
theorem nodes_kid {l : List Tr} {x : Tr} (h : x ∈ l) : (nodes x.ks).length < (nodes l).length := by
 induction l with
 | nil => cases h
 | cons z l ih =>
   obtain ⟨t, A, c, ks, e⟩ := z
   rw [nodes]
   rcases List.mem_cons.1 h with rfl | h
   ·show (nodes ks).length < _
    simp only [zA8, zA7]; omega
   ·have := ih h
    simp only [zA8, zA7]; omega
def push (f x : Tr) : Tr := .mk f.t f.A f.c (f.ks ++ [x]) f.e
def mstep (st : List Tr) (t : Tk) : Option (List Tr) :=
 if cl t.k = 0 then
    if cls t.k = true then
     match st with
     | f :: g :: r => if cl f.t.k = t.k then some (push g (.mk f.t none 0 f.ks t.p) :: r) else none
     | _ => none
    else
     match st with
     | f :: r => some (push f (.mk t none 0 [] t.p) :: r)
     | [] => none
 else if st.length = 25 then none else some (.mk t none 0 [] 0 :: st)
def mrun : List Tk → List Tr → Except Int (List Tr)
 | [], [f] => .ok f.ks
 | [], f :: _ => .error f.t.p
 | [], [] => .ok []
 | t :: l, st => match mstep st t with
   | some st' => mrun l st'
   | none => .error t.p
def parse (l : List Tk) : Except Int (List Tr) := mrun l [r0]
theorem mrun_some {t : Tk} {l : List Tk} {st st' : List Tr} (h : mstep st t = some st') : mrun (t :: l) st = mrun l st' := by
 cases st <;> simp [mrun, h]
theorem mrun_none {t : Tk} {l : List Tk} {st : List Tr} (h : mstep st t = none) : mrun (t :: l) st = .error t.p := by
 cases st <;> simp [mrun, h]
inductive Spells : List Tk → List Tr → Prop
 | nil : Spells [] []
 | leaf {t : Tk} {l : List Tk} {r : List Tr} : cl t.k = 0 → cls t.k = false → Spells l r → Spells (t :: l) (.mk t none 0 [] t.p :: r)
 | node {t c : Tk} {l1 l2 : List Tk} {ks r : List Tr} : ¬ cl t.k = 0 → c.k = cl t.k → Spells l1 ks → Spells l2 r → Spells (t :: (l1 ++ c :: l2)) (.mk t none 0 ks c.p :: r)
theorem Spells.append {a b : List Tk} {x y : List Tr} (h : Spells a x) (h2 : Spells b y) : Spells (a ++ b) (x ++ y) := by
 induction h with
 | nil => exact h2
 | leaf h3 h4 _ ih => exact .leaf h3 h4 ih
 | node h3 h4 h5 _ _ ih =>
   have := Spells.node h3 h4 h5 ih
   simpa using this
theorem cl_cases (k : Nat) : (k = 40 ∧ cl k = 41) ∨ (k = 123 ∧ cl k = 125) ∨ (k = 91 ∧ cl k = 93) ∨ (k ≠ 40 ∧ k ≠ 123 ∧ k ≠ 91 ∧ cl k = 0) := by unfold cl; split <;> (try split) <;> (try split) <;> omega
def Stk : List Tr → List Tk → Prop
 | [], _ => False
 | [f], p => f.t = t0 ∧ Spells p f.ks ∧ dep f.ks ≤ 24
 | f :: g :: st, p => ∃ p1 s, p = p1 ++ f.t :: s ∧ ¬ cl f.t.k = 0 ∧ Spells s f.ks ∧ dep f.ks + (g :: st).length ≤ 24 ∧ Stk (g :: st) p1
theorem dep_one (x : Tr) (n : Nat) (h : dep [x] ≤ n) (l : List Tr) (hl : dep l ≤ n) : dep (l ++ [x]) ≤ n := by rw [dep_append]; omega
theorem Stk.push {f x : Tr} {st : List Tr} {p s : List Tk} (h : Stk (f :: st) p) (hs : Spells s [x]) (hd : dep [x] + st.length ≤ 24) : Stk (push f x :: st) (p ++ s) := by
 obtain ⟨t, A, c, ks, e⟩ := f
 cases st with
 | nil =>
   obtain ⟨h1, h2, h3⟩ := h
   exact ⟨h1, h2.append hs, by simp only [zA9] at hd; exact dep_one _ _ (by omega) _ h3⟩
 | cons g st =>
   obtain ⟨p1, q, rfl, h1, h2, h3, h4⟩ := h
   refine ⟨p1, q ++ s, by simp [TR.push, Tr.t], h1, h2.append hs, ?_, h4⟩
   have h5 : dep (ks ++ [x]) = max (dep ks) (dep [x]) := dep_append _ _
   show dep (ks ++ [x]) + _ ≤ 24
   have h3' : dep ks + (g :: st).length ≤ 24 := h3
   rw [h5]
   omega
theorem mrun_spells : ∀ (l : List Tk) (st : List Tr) (p : List Tk) (ts : List Tr), Stk st p → st.length ≤ 25 → mrun l st = .ok ts → Spells (p ++ l) ts ∧ dep ts ≤ 24
 | [], [], _, _, h, _, _ => absurd h (by simp [Stk])
 | [], [f], p, ts, h, _, hr => by
   obtain ⟨h1, h2, h3⟩ := h
   obtain rfl : f.ks = ts := by simpa [mrun] using hr
   exact ⟨by simpa using h2, h3⟩
 | [], f :: g :: st, p, ts, h, _, hr => by simp [mrun] at hr
 | t :: l, st, p, ts, h, hl, hr => by
   cases hm : mstep st t with
   | none => rw [mrun_none hm] at hr; cases hr
   | some st' =>
     rw [mrun_some hm] at hr
     have hgo : Stk st' (p ++ [t]) ∧ st'.length ≤ 25 := by
        unfold mstep at hm
        split at hm
        ·rename_i h0
         split at hm
         ·rename_i hc
          match st, h, hl, hm with
          | f :: g :: r, h, hl, hm =>
            simp only at hm
            split at hm
            ·rename_i hk
             obtain rfl := Option.some.inj hm
             obtain ⟨p1, s, rfl, h1, h2, h3, h4⟩ := h
             have hsp : Spells (f.t :: (s ++ t :: [])) [.mk f.t none 0 f.ks t.p] := .node h1 hk.symm h2 .nil
             have h6 := h4.push hsp (by simp only [dep, if_neg h1]; simp only [zA8] at h3; omega)
             exact ⟨by simpa using h6, by simp at hl ⊢; omega⟩
            ·cases hm
          | [f], h, hl, hm => simp at hm
         ·rename_i hc
          match st, h, hl, hm with
          | f :: r, h, hl, hm =>
            obtain rfl := Option.some.inj hm
            have hsp : Spells [t] [.mk t none 0 [] t.p] := .leaf h0 (by simpa using hc) .nil
            exact ⟨h.push hsp (by simp only [dep, if_pos h0]; simp at hl ⊢; omega), by simpa using hl⟩
        ·rename_i h0
         split at hm
         ·cases hm
         ·rename_i h25
          obtain rfl := Option.some.inj hm
          match st, h, hl with
          | g :: r, h, hl =>
            exact ⟨⟨p, [], rfl, h0, .nil, by simp [Tr.ks, dep] at hl h25 ⊢; omega, h⟩, by simp at hl h25 ⊢; omega⟩
     have := mrun_spells l st' (p ++ [t]) ts hgo.1 hgo.2 hr
     simpa using this
theorem parse_spells {l : List Tk} {ts : List Tr} (h : parse l = .ok ts) : Spells l ts ∧ dep ts ≤ 24 := by
 have := mrun_spells l [r0] [] ts ⟨rfl, .nil, by simp [r0, Tr.ks, dep]⟩ (by simp) h
 simpa using this
theorem spells_length {s : List Tk} {ts : List Tr} (h : Spells s ts) : (nodes ts).length ≤ s.length := by
 induction h with
 | nil => simp [nodes]
 | leaf _ _ _ ih => simp [nodes]; omega
 | node _ _ _ _ ih1 ih2 => simp [nodes]; omega
def pt (at' : Nat) : List Tk → Int → Nat → Nat
 | [], _, _ => at'
 | t :: l, d, i => if (d + (if cl t.k = 0 then 0 else 1)) - (if cls t.k = true then 1 else 0) = 0 then i else pt at' l ((d + (if cl t.k = 0 then 0 else 1)) - (if cls t.k = true then 1 else 0)) (i + 1)
end TR
end
section
open Go.RowKit LX TR
section
variable {α : Type} {f : α → List Value} {m : Nat}
theorem fm_length (hf : ∀ x, (f x).length = m) : ∀ l : List α, (l.flatMap f).length = l.length * m
 | [] => by simp
 | x :: l => by
   rw [List.flatMap_cons, zA7, fm_length hf l, hf, zA8, Nat.add_mul]; omega
theorem fm_at (hf : ∀ x, (f x).length = m) (z : α) : ∀ (l : List α) (i j : Nat), i < l.length → j < m → (l.flatMap f)[i * m + j]? = (f (l.getD i z))[j]?
 | [], i, j, hi, _ => by simp at hi
 | x :: l, 0, j, _, hj => by
   rw [List.flatMap_cons, List.getElem?_append_left (by rw [hf]; omega)]
   simp
 | x :: l, i + 1, j, hi, hj => by
   have := fm_at hf z l i j (by simpa using hi) hj
   rw [List.flatMap_cons, List.getElem?_append_right (by rw [hf, Nat.add_mul]; omega), hf, show (i + 1) * m + j - m = i * m + j by rw [Nat.add_mul]; omega, this]
   simp
theorem sl_at {w : World} {B : Nat} {A : Option Addr} {l : List α} (hf : ∀ x, (f x).length = m) (z : α) (h : Sl w B A (l.flatMap f)) {k : Nat} (hk : k < l.length) (hm : 0 < m) :
 ∃ b o, A = some ⟨b, o, none⟩ ∧ b < B ∧ ∀ i j u, i < l.length → j < m → (f (l.getD i z))[j]? = some u → w.cell? ⟨b, o + (i * m + j), none⟩ = some u := by
 obtain ⟨b, o, hA, hb, hc⟩ := Sl.at_ h (fun e => by
  have := congrArg List.length e
  rw [fm_length hf] at this
  simp only [zA9, Nat.mul_eq_zero] at this
  omega)
 exact ⟨b, o, hA, hb, fun i j u hi hj hu => hc _ _ (by rw [fm_at hf z l i j hi hj]; exact hu)⟩
end
def rcells (x : Tr) : List Value := [.int .u8 (x.t.k : Int), .string x.t.s, .int .i64 x.t.p, .slice x.A x.ks.length x.c, .int .i64 x.e]
def trv (x : Tr) : Array Value := #[.int .u8 (x.t.k : Int), .string x.t.s, .int .i64 x.t.p, .slice x.A x.ks.length x.c, .int .i64 x.e]
theorem rcells_length (x : Tr) : (rcells x).length = 5 := rfl
def tcs (l : List Tr) : List Value := l.flatMap rcells
theorem tcs_append (a b : List Tr) : tcs (a ++ b) = tcs a ++ tcs b := by simp [tcs]
theorem tcs_one (x : Tr) : tcs [x] = rcells x := by simp [tcs]
theorem tcs_length (l : List Tr) : (tcs l).length = l.length * 5 := fm_length rcells_length l
theorem infoTree : (Tryz.prog.info? 104).map (fun i => (i.zero, i.size, i.bytes)) = some (some (.agg #[.int .u8 0, .string ⟨#[]⟩, .int .i64 0, .slice none 0 0, .int .i64 0]), 5, 64) := by kernel_rfl
def Trs (w : World) (B : Nat) (A : Option Addr) (l : List Tr) : Prop := Sl w B A (tcs l) ∧ ∀ x ∈ nodes l, Sl w B x.A (tcs x.ks) ∧ x.ks.length ≤ x.c
section
variable {w w' : World} {B B' : Nat} {A : Option Addr} {l : List Tr}
theorem Trs.below (h : Trs w B A l) (hb : Below B w w') : Trs w' B A l := ⟨h.1.below hb, fun x hx => ⟨(h.2 x hx).1.below hb, (h.2 x hx).2⟩⟩
theorem Trs.mono (h : Trs w B A l) (hB : B ≤ B') : Trs w B' A l := ⟨h.1.mono hB, fun x hx => ⟨(h.2 x hx).1.mono hB, (h.2 x hx).2⟩⟩
theorem Trs.nil (w : World) (B : Nat) (A : Option Addr) : Trs w B A [] := ⟨Sl.nil _ _ _, fun x hx => by simp [nodes] at hx⟩
theorem Trs.at (h : Trs w B A l) {k : Nat} (hk : k < l.length) : ∃ b o, A = some ⟨b, o, none⟩ ∧ b < B ∧ ∀ i, i < l.length →
 w.cell? ⟨b, o + i * 5, none⟩ = some (.int .u8 ((l.getD i r0).t.k : Int)) ∧ w.cell? ⟨b, o + i * 5 + 1, none⟩ = some (.string (l.getD i r0).t.s) ∧ w.cell? ⟨b, o + i * 5 + 2, none⟩ = some (.int .i64 (l.getD i r0).t.p)
 ∧ w.cell? ⟨b, o + i * 5 + 3, none⟩ = some (.slice (l.getD i r0).A (l.getD i r0).ks.length (l.getD i r0).c) ∧ w.cell? ⟨b, o + i * 5 + 4, none⟩ = some (.int .i64 (l.getD i r0).e) := by
 obtain ⟨b, o, hA, hb, hc⟩ := sl_at rcells_length r0 h.1 hk (by omega)
 refine ⟨b, o, hA, hb, fun i hi => ⟨hc i 0 _ hi (by omega) rfl, ?_, ?_, ?_, ?_⟩⟩
 ·rw [Nat.add_assoc]; exact hc i 1 _ hi (by omega) rfl
 ·rw [Nat.add_assoc]; exact hc i 2 _ hi (by omega) rfl
 ·rw [Nat.add_assoc]; exact hc i 3 _ hi (by omega) rfl
 ·rw [Nat.add_assoc]; exact hc i 4 _ hi (by omega) rfl
theorem Trs.kid (h : Trs w B A l) {x : Tr} (hx : x ∈ l) : Trs w B x.A x.ks := ⟨(h.2 x (mem_nodes hx)).1, fun y hy => h.2 y (mem_kids hx hy)⟩
theorem Trs.cap (h : Trs w B A l) {x : Tr} (hx : x ∈ l) : x.ks.length ≤ x.c := (h.2 x (mem_nodes hx)).2
theorem getD_mem {i : Nat} (hi : i < l.length) : l.getD i r0 ∈ l := by
 rw [List.getD_eq_getElem?_getD, List.getElem?_eq_getElem hi]
 exact List.getElem_mem hi
theorem Trs.kidAt (h : Trs w B A l) {i : Nat} (hi : i < l.length) : Trs w B (l.getD i r0).A (l.getD i r0).ks := h.kid (getD_mem hi)
theorem Trs.tail {x : Tr} {b o : Nat} (h : Trs w B (some ⟨b, o, none⟩) (x :: l)) : Trs w B (some ⟨b, o + 5, none⟩) l := by
 refine ⟨fun _ => ?_, fun y hy => h.2 y ?_⟩
 ·obtain ⟨b', o', hA, hb, hc⟩ := Sl.at_ h.1 (by simp [tcs, rcells])
  injection hA with hA
  injection hA with e1 e2 _
  subst e1 e2
  refine ⟨b, o + 5, rfl, hb, fun j u hu => ?_⟩
  rw [Nat.add_assoc]
  refine hc (5 + j) u ?_
  unfold tcs at hu ⊢
  rw [List.flatMap_cons, List.getElem?_append_right (by rw [rcells_length]; omega), rcells_length, show 5 + j - 5 = j by omega]
  exact hu
 ·obtain ⟨t, A, c, ks, e⟩ := x
  rw [nodes]
  exact List.mem_cons_of_mem _ (List.mem_append_right _ hy)
theorem Trs.append {A2 : Option Addr} {l2 : List Tr} {A3 : Option Addr} (h : Trs w B A l) (h2 : Trs w B A2 l2) (h3 : Sl w B A3 (tcs (l ++ l2))) : Trs w B A3 (l ++ l2) :=
 ⟨h3, fun x hx => by rw [nodes_append] at hx; exact (List.mem_append.1 hx).elim (h.2 x) (h2.2 x)⟩
end
def SlC (w : World) (ok : Nat → Prop) (A : Option Addr) (cs : List Value) : Prop :=
 cs ≠ [] → ∃ b o, A = some ⟨b, o, none⟩ ∧ b < w.heap.size ∧ ok b ∧ ∀ j u, cs[j]? = some u → w.cell? ⟨b, o + j, none⟩ = some u
section
variable {w w' : World} {ok ok' : Nat → Prop} {A : Option Addr} {cs : List Value}
theorem SlC.nil (w : World) (ok : Nat → Prop) (A : Option Addr) : SlC w ok A [] := fun h => absurd rfl h
theorem SlC.keep (h : SlC w ok A cs) (hs : w.heap.size ≤ w'.heap.size) (hb : ∀ b, b < w.heap.size → ok b → w'.heap[b]? = w.heap[b]?) (hok : ∀ b, b < w.heap.size → ok b → ok' b) : SlC w' ok' A cs := fun hne => by
 obtain ⟨b, o, hA, hlt, hk, hc⟩ := h hne
 exact ⟨b, o, hA, by omega, hok b hlt hk, fun j u hu => (World.cell?_of_block (a := ⟨b, o + j, none⟩) (hb b hlt hk)).trans (hc j u hu)⟩
theorem SlC.sl (h : SlC w ok A cs) : Sl w w.heap.size A cs := fun hne => by
 obtain ⟨b, o, hA, hlt, _, hc⟩ := h hne
 exact ⟨b, o, hA, hlt, hc⟩
theorem SlC.of_own {base e size n c : Nat} (h : w.ownsRow base e size (.slice A n c) n cs) (hok : ∀ b, base ≤ b → (Value.slice A n c).ownBlock = some b → ok b) : SlC w ok A cs := fun hne => by
 rcases h.2 with ⟨_, hn⟩ | ⟨g, cap, cur, hv, hg, hh, h1, h2, h3, h4⟩
 ·have := h.1
  rw [hn] at this
  exact absurd (List.eq_nil_of_length_eq_zero (by simpa using this)) hne
 ·injection hv with e1 _ e3
  subst e1 e3
  refine ⟨g, 0, rfl, (Array.getElem?_eq_some_iff.1 hh).1, hok g hg rfl, fun j u hu => ?_⟩
  rw [Nat.zero_add, cell_of_row w g j cur e (0, 0) hh]
  rw [← h4, List.getElem?_take] at hu
  split at hu
  ·simpa using hu
  ·cases hu
end
def Deep (w : World) (ok : Nat → Prop) (l : List Tr) : Prop := ∀ x ∈ nodes l, SlC w ok x.A (tcs x.ks) ∧ x.ks.length ≤ x.c
section
variable {w w' : World} {ok ok' : Nat → Prop} {A : Option Addr} {l m : List Tr}
theorem Deep.keep (h : Deep w ok l) (hs : w.heap.size ≤ w'.heap.size) (hb : ∀ b, b < w.heap.size → ok b → w'.heap[b]? = w.heap[b]?) (hok : ∀ b, b < w.heap.size → ok b → ok' b) : Deep w' ok' l := fun x hx => ⟨(h x hx).1.keep hs hb hok, (h x hx).2⟩
theorem Deep.nil (w : World) (ok : Nat → Prop) : Deep w ok [] := fun x hx => by simp [nodes] at hx
theorem Deep.append (h : Deep w ok l) (h2 : Deep w ok m) : Deep w ok (l ++ m) := fun x hx => by
 rw [nodes_append] at hx
 exact (List.mem_append.1 hx).elim (h x) (h2 x)
theorem Deep.one {x : Tr} (h : SlC w ok x.A (tcs x.ks)) (hc : x.ks.length ≤ x.c) (h2 : Deep w ok x.ks) : Deep w ok [x] := fun y hy => by
 obtain ⟨t, A, c, ks, e⟩ := x
 simp only [nodes, List.append_nil, List.mem_cons] at hy
 rcases hy with rfl | hy
 ·exact ⟨h, hc⟩
 ·exact h2 y hy
theorem Deep.trs (h : Deep w ok l) (hA : Sl w w.heap.size A (tcs l)) : Trs w w.heap.size A l := ⟨hA, fun x hx => ⟨(h x hx).1.sl, (h x hx).2⟩⟩
end
theorem own_cap_le {w : World} {base size n c : Nat} {e : TypeId} {A : Option Addr} {cs : List Value} (h : w.ownsRow base e size (.slice A n c) n cs) : n ≤ c := by
 obtain ⟨A', c', hv, hc, _⟩ := own_form h
 injection hv with _ _ h3
 omega
theorem own_at {w : World} {base size n c : Nat} {e : TypeId} {A : Option Addr} {cs : List Value} (h : w.ownsRow base e size (.slice A n c) n cs) (hA : cs ≠ []) : ∃ g, A = some ⟨g, 0, none⟩ ∧ base ≤ g ∧ g < w.heap.size ∧ (∀ o, w.frozen? ⟨g, o, none⟩ = false) ∧ ∀ j u, cs[j]? = some u → w.cell? ⟨g, j, none⟩ = some u := by
 rcases h.2 with ⟨_, hn⟩ | ⟨g, cap, cur, hv, hg, hh, h1, h2, h3, h4⟩
 ·have := h.1
  rw [hn] at this
  exact absurd (List.eq_nil_of_length_eq_zero (by simpa using this)) hA
 ·injection hv with e1 _ e3
  subst e1 e3
  refine ⟨g, rfl, hg, (Array.getElem?_eq_some_iff.1 hh).1, fun o => by simp [World.frozen?, hh], fun j u hu => ?_⟩
  rw [cell_of_row w g j cur e (0, 0) hh]
  rw [← h4, List.getElem?_take] at hu
  split at hu
  ·simpa using hu
  ·cases hu
theorem wp_catAt {P : Program} {o : Oper} {a : Act} {w : World} {K : Act → World → Prop} {Q : Exit → Act → World → Prop} (s x : Operand) (t : TypeId)
 (ho : o.op = .call { callee := .builtin .append, args := #[s, x], argTypes := #[t, t] })
 (e : TypeId) (z : Value) (size bytes : Nat) (ht : P.underlying t = some (.slice e))
 (hinf : (P.info? e).map (fun i => (i.zero, i.size, i.bytes)) = some (some z, size, bytes)) (hzs : z.cells.size = size) (hsz : 0 < size) (hby : bytes ≤ 4096)
 (base : Nat) (A : Option Addr) (n c : Nat) (cs : List Value) (hs : a.eval s = .slice A n c) (hown : w.ownsRow base e size (.slice A n c) n cs)
 (B : Nat) (X : Option Addr) (m k : Nat) (news : List Value) (hx : a.eval x = .slice X m k) (hl : news.length = m * size) (hm : m ≤ 4294967296)
 (hnews : Sl w B X news) (h1 : ∀ u ∈ news, u.oneCell' = true)
 (hn : n ≤ 4294967296) (hbase : base ≤ w.heap.size)
 (h : ∀ A' c' w', w'.ownsRow base e size (.slice A' (n + m) c') (n + m) (cs ++ news) → Below base w w' → w.grownBy w' (Value.slice A n c).ownBlock → ((Value.slice A' (n + m) c').ownBlock = (Value.slice A n c).ownBlock ∨ (Value.slice A' (n + m) c').ownBlock = some w.heap.size) → K (a.put o.dst (.slice A' (n + m) c')) w') :
 o.wp P a w K Q := by
 obtain ⟨i, hi, hz, hi1, hi2⟩ := info_parts hinf
 cases X with
 | some ad =>
   obtain ⟨v', w', hr, hown', hg, _, hat⟩ := run_append_own_at (P := P) w base t o.type e i z size bytes ht hi hz hi1 hi2 hzs hsz (.slice A n c) n cs hown ad m k news hl
    (fun j u hu => by
        obtain ⟨b, off, hA, _, hc⟩ := hnews (by intro e; rw [e] at hu; simp at hu)
        injection hA with hA
        subst hA
        rw [show (⟨b, off, none⟩ : Addr).add j = ⟨b, off + j, none⟩ by unfold Addr.add; split <;> simp_all]
        exact hc j u hu) h1 (by simp only [maxLen]; omega) (zM (Nat.mul_le_mul (show n + m ≤ 8589934592 by omega) hby) (by decide)) hbase
   obtain ⟨A', c', rfl, _, _⟩ := own_form hown'
   unfold Oper.wp execOp
   simp only [ho, resolve, invoke, builtin, Sem.run_bind, Sem.run_pure, Result.andThen_ok, List.map_toArray, List.map_cons, List.map_nil, hs, hx, hr]
   exact h A' c' w' hown' ((zB base w).grown hg hbase (fun k hk => (hown.lt k hk).1)) hg hat
 | none =>
   have hne : news = [] := Classical.byContradiction fun hne => by
    obtain ⟨_, _, hA, _⟩ := hnews hne
    cases hA
   subst hne
   have hm0 : m = 0 := by
    rcases Nat.eq_zero_or_pos m with h | h
    ·exact h
    ·have := Nat.mul_pos h hsz
     simp only [zA9] at hl
     omega
   subst hm0
   have hrun : (Builtin.append_ #[t, t] o.type #[.slice A n c, .slice none 0 k]).run P w = .ok (.slice A n c) w := by
    rcases hown.2 with ⟨hv, hn0⟩ | ⟨g, cap, cur, hv, _, _, hnc, _⟩
    ·injection hv with e1 e2 e3
     subst e1 e2 e3
     simp [Builtin.append_, run_underlying ht, sizeOf, typeInfo, hi, Builtin.lenOf, Builtin.firstCells]
    ·injection hv with e1 e2 e3
     subst e1 e3
     simp [Builtin.append_, run_underlying ht, sizeOf, typeInfo, hi, Builtin.lenOf, Builtin.firstCells, hnc, storeCells]
   unfold Oper.wp
   simp only [execOp, ho, resolve, invoke, builtin, Sem.run_bind, Sem.run_pure, Result.andThen_ok, List.map_toArray, List.map_cons, List.map_nil, hs, hx, hrun]
   refine h A c w (by simpa using hown) (zB _ _) ⟨rfl, rfl, rfl, zL _, fun _ _ _ => rfl⟩ (.inl rfl)
theorem Sl.new (w : World) (t : TypeId) (cs : List Value) : Sl (w.alloc (.cells cs.toArray t)) (w.heap.size + 1) (some ⟨w.heap.size, 0, none⟩) cs := fun _ => ⟨w.heap.size, 0, rfl, by omega, fun j u hu => by
 rw [Nat.zero_add, World.cell?_alloc_at _ _ _ _ rfl]
 simpa using hu⟩
end
section
open Go.RowKit LX TR
theorem cls_cases (k : Nat) : (k = 41 ∧ cls k = true) ∨ (k = 125 ∧ cls k = true) ∨ (k = 93 ∧ cls k = true) ∨ (k ≠ 41 ∧ k ≠ 125 ∧ k ≠ 93 ∧ cls k = false) := by
 by_cases h1 : k = 41
 ·subst h1; exact .inl ⟨rfl, rfl⟩
 ·by_cases h2 : k = 125
  ·subst h2; exact .inr (.inl ⟨rfl, rfl⟩)
  ·by_cases h3 : k = 93
   ·subst h3; exact .inr (.inr (.inl ⟨rfl, rfl⟩))
   ·exact .inr (.inr (.inr ⟨h1, h2, h3, by simp [cls, h1, h2, h3]⟩))
theorem closer_any (k : Nat) (w : World) :
 Calls Tryz.prog 91 #[.int .u8 (k : Int)] w fun e w' => e = .returned (.int .u8 ((cl k : Nat) : Int)) ∧ w = w' := by
 rcases cl_cases k with ⟨rfl, h⟩ | ⟨rfl, h⟩ | ⟨rfl, h⟩ | ⟨h1, h2, h3, h⟩
 ·rw [h]
  clear h
  go_enter Tryz.func91, Tryz.ntmps91
  go_wp2
  go_ret
  exact ⟨rfl, rfl⟩
 ·rw [h]
  clear h
  go_enter Tryz.func91, Tryz.ntmps91
  go_wp2
  go_ret
  exact ⟨rfl, rfl⟩
 ·rw [h]
  clear h
  go_enter Tryz.func91, Tryz.ntmps91
  go_wp2
  go_ret
  exact ⟨rfl, rfl⟩
 ·rw [h]
  clear h
  have g1 : ((k : Int) == 40) = false := by rw [beq_eq_false_iff_ne]; omega
  have g2 : ((k : Int) == 123) = false := by rw [beq_eq_false_iff_ne]; omega
  have g3 : ((k : Int) == 91) = false := by rw [beq_eq_false_iff_ne]; omega
  clear h1 h2 h3
  go_enter Tryz.func91, Tryz.ntmps91
  go_wp2
  go_ret
  exact ⟨rfl, rfl⟩
theorem fault9_any (t : Tk) (w : World) :
 Calls Tryz.prog 90 #[.agg (tv t)] w fun e w' => e = .returned (.agg #[.int .i64 2, .int .i64 t.p]) ∧ Below w.heap.size w w' := by
 obtain ⟨k, s, p⟩ := t
 show Calls Tryz.prog 90 #[.agg #[.int .u8 (k : Int), .string s, .int .i64 p]] w fun e w' => e = .returned (.agg #[.int .i64 2, .int .i64 p]) ∧ Below w.heap.size w w'
 have hg1 := RowAt.new (w.alloc (.cells #[.int .u8 (k : Int), .string s, .int .i64 p] 78)) 39 #[.int .i64 2, .int .i64 p]
 rw [show (w.alloc (.cells #[.int .u8 (k : Int), .string s, .int .i64 p] 78)).heap.size = w.heap.size + 1 by simp] at hg1
 have HG := zh hg1; clear hg1
 go_enter Tryz.func90, Tryz.ntmps90
 go_wp2
 exact bodyPost_ret (results_cell_row rfl _ _ (w.heap.size + 1) _ _ (0, 0) _ rfl HG.out Tryz.underlying39 rfl (fault_info _ _)) rfl
  ⟨rfl, ((zB _ _).alloc (zL _) _).alloc (by simp) _⟩
end
section
namespace TR
open LX
theorem drop_cons {l : List Tr} {i : Nat} (h : i < l.length) : l.drop i = l.getD i r0 :: l.drop (i + 1) := by
 rw [List.getD_eq_getElem?_getD, List.getElem?_eq_getElem h]
 exact List.drop_eq_getElem_cons h
end TR
open Go.RowKit LX TR
end
section
open Go.RowKit LX TR
theorem tdrop_cons {l : List Tk} {i : Nat} (h : i < l.length) : l.drop i = l.getD i t0 :: l.drop (i + 1) := by
 rw [List.getD_eq_getElem?_getD, List.getElem?_eq_getElem h]
 exact List.drop_eq_getElem_cons h
def Ix (l : List Tk) : List Nat → List Tr → Prop
 | [], [f] => f.t = t0
 | j :: os, f :: st => j < l.length ∧ f.t = l.getD j t0 ∧ Ix l os st
 | _, _ => False
theorem Ix.len {l : List Tk} : ∀ {os : List Nat} {st : List Tr}, Ix l os st → st.length = os.length + 1
 | [], [_], _ => rfl
 | _ :: os, _ :: st, h => by have := Ix.len h.2.2; simp only [zA8]; omega
theorem Ix.push {l : List Tk} : ∀ {os : List Nat} {f : Tr} {st : List Tr} (x : Tr), Ix l os (f :: st) → Ix l os (push f x :: st)
 | [], _, [], _, h => h
 | _ :: _, _, _, _, h => h
end
section
open Go.RowKit LX TR
theorem tree_size (a b c d e : Value) : (Tryz.prog.info? 104).map (·.size) = some (#[a, b, c, d, e] : Array Value).size := by kernel_rfl
theorem below_setRow {B g : Nat} {w : World} (hB : B ≤ g) (cs : Array Value) : Below B w (w.setRow g cs) := ⟨rfl, rfl, rfl, by simp, fun k hk => setRow_other w g k cs (by omega)⟩
def Sep (B : Nat) (v : Value) (b : Nat) : Prop := B ≤ b ∧ some b ≠ v.ownBlock
theorem Deep.below {w w' : World} {ok : Nat → Prop} {l : List Tr} (h : Deep w ok l) (hb : Below w.heap.size w w') : Deep w' ok l := h.keep hb.size (fun b hlt _ => hb.block b hlt) (fun _ _ h => h)
theorem Deep.grown {w w' : World} {B : Nat} {v v' : Value} {l : List Tr} (h : Deep w (Sep B v) l) (hg : w.grownBy w' v.ownBlock) (hat : v'.ownBlock = v.ownBlock ∨ v'.ownBlock = some w.heap.size) : Deep w' (Sep B v') l :=
 h.keep hg.size (fun b hlt hk => hg.block b hlt hk.2) (fun b hlt hk => ⟨hk.1, by
  rcases hat with e | e
  ·rw [e]; exact hk.2
  ·rw [e]; intro e2; injection e2 with e2; omega⟩)
def Rt (B : Nat) (R : Except Int (List Tr)) (e : Ending) (w w' : World) : Prop := Below B w w' ∧
 match R with
 | .ok ts => ∃ X d us, e = .returned (.tuple #[.slice X us.length d, .agg #[.int .i64 0, .int .i64 0]]) ∧ er us = ts ∧ us.length ≤ d ∧ Trs w' w'.heap.size X us
 | .error p => e = .returned (.tuple #[.slice none 0 0, .agg #[.int .i64 2, .int .i64 p]])
end
section
open Go.RowKit LX TR
theorem Deep.off {w : World} {B C g : Nat} {v : Value} {l : List Tr} (h : Deep w (Sep B v) l) (hg : g < B) (o : Nat) (u : Value) (hC : ∀ b, B ≤ b → C ≤ b) : Deep (w.setCell ⟨g, o, none⟩ u) (Sep C v) l :=
 h.keep (by simp [World.setCell]) (fun b _ hk => by
  have hne : g ≠ b := fun e => by have := hk.1; omega
  simp only [World.setCell, Array.getElem?_modify, if_neg hne]) (fun b _ h => ⟨hC b h.1, h.2⟩)
end
section
namespace TM
open LX TR
structure Wd where
 s : ByteArray
 p : Int
inductive Nd where
 | mk (k p : Int) (s : ByteArray) (A : Option Addr) (c : Nat) (ws : List Wd) (B : Option Addr) (d : Nat) (ks : List Nd)
def Nd.k : Nd → Int | .mk k _ _ _ _ _ _ _ _ => k
def Nd.p : Nd → Int | .mk _ p _ _ _ _ _ _ _ => p
def Nd.s : Nd → ByteArray | .mk _ _ s _ _ _ _ _ _ => s
def Nd.A : Nd → Option Addr | .mk _ _ _ A _ _ _ _ _ => A
def Nd.c : Nd → Nat | .mk _ _ _ _ c _ _ _ _ => c
def Nd.ws : Nd → List Wd | .mk _ _ _ _ _ ws _ _ _ => ws
def Nd.B : Nd → Option Addr | .mk _ _ _ _ _ _ B _ _ => B
def Nd.d : Nd → Nat | .mk _ _ _ _ _ _ _ d _ => d
def Nd.ks : Nd → List Nd | .mk _ _ _ _ _ _ _ _ ks => ks
def nd (k p : Int) (s : ByteArray) (ws : List Wd) (ks : List Nd) : Nd := .mk k p s none 0 ws none 0 ks
def n0 : Nd := nd 0 0 ⟨#[]⟩ [] []
def w0 : Wd := ⟨⟨#[]⟩, 0⟩
theorem ind {P : List Nd → Prop} (h0 : P []) (h1 : ∀ k p s A c ws B d ks r, P ks → P r → P (.mk k p s A c ws B d ks :: r)) : ∀ l, P l
 | [] => h0
 | .mk k p s A c ws B d ks :: r => h1 k p s A c ws B d ks r (ind h0 h1 ks) (ind h0 h1 r)
def all : List Nd → List Nd
 | [] => []
 | .mk k p s A c ws B d ks :: r => .mk k p s A c ws B d ks :: (all ks ++ all r)
def er : List Nd → List Nd
 | [] => []
 | .mk k p s _ _ ws _ _ ks :: r => .mk k p s none 0 ws none 0 (er ks) :: er r
def er1 (x : Nd) : Nd := nd x.k x.p x.s x.ws (er x.ks)
theorem er_cons (x : Nd) (r : List Nd) : er (x :: r) = er1 x :: er r := by cases x; rw [er]; rfl
theorem er_append (a b : List Nd) : er (a ++ b) = er a ++ er b := by
 induction a with
 | nil => simp [er]
 | cons x a ih => rw [List.cons_append, er_cons, er_cons, ih]; rfl
theorem er_length (l : List Nd) : (er l).length = l.length := by
 induction l with
 | nil => simp [er]
 | cons x a ih => rw [er_cons, zA8, ih, zA8]
theorem all_append (a b : List Nd) : all (a ++ b) = all a ++ all b := by
 induction a with
 | nil => simp [all]
 | cons x a ih => cases x; simp [all, ih]
theorem all_cons (x : Nd) (r : List Nd) : all (x :: r) = x :: (all x.ks ++ all r) := by cases x; rw [all]; rfl
theorem mem_all {l : List Nd} {x : Nd} (h : x ∈ l) : x ∈ all l := by
 induction l with
 | nil => cases h
 | cons y l ih =>
   rw [all_cons]
   rcases List.mem_cons.1 h with rfl | h
   ·exact List.mem_cons_self
   ·exact List.mem_cons_of_mem _ (List.mem_append_right _ (ih h))
theorem mem_kids {l : List Nd} {x y : Nd} (h : x ∈ l) (hy : y ∈ all x.ks) : y ∈ all l := by
 induction l with
 | nil => cases h
 | cons z l ih =>
   rw [all_cons]
   rcases List.mem_cons.1 h with rfl | h
   ·exact List.mem_cons_of_mem _ (List.mem_append_left _ hy)
   ·exact List.mem_cons_of_mem _ (List.mem_append_right _ (ih h))
abbrev Res (α : Type) := Except Int (α × List Tr)
abbrev Rdr (α : Type) := List Tr → Int → Res α
def bnd {α β : Type} (x : Res α) (f : α → List Tr → Res β) : Res β := match x with
 | .error p => .error p
 | .ok (a, r) => f a r
def takeR (k : Nat) : Rdr Tk := fun ts e => match ts with
 | [] => .error e
 | x :: r => if x.t.k = k then .ok (x.t, r) else .error x.t.p
def nameR : Rdr Wd := fun ts e => bnd (takeR 97 ts e) fun t r => .ok (⟨t.s, t.p⟩, r)
def moreR {α : Type} (el : Rdr α) : Nat → Rdr (List α)
 | 0 => fun ts _ => .ok ([], ts)
 | n + 1 => fun ts e => match ts with
   | [] => .ok ([], [])
   | c :: r => if c.t.k = 44 then bnd (el r e) fun x r2 => bnd (moreR el n r2 e) fun xs r3 => .ok (x :: xs, r3) else .ok ([], c :: r)
def someR {α : Type} (el : Rdr α) : Rdr (List α) := fun ts e => bnd (el ts e) fun x r => bnd (moreR el ts.length r e) fun xs r3 => .ok (x :: xs, r3)
def optR {α : Type} (el : Rdr α) : Rdr (List α) := fun ts e => match ts with
 | [] => .ok ([], [])
 | x :: r => if x.t.k = 124 then .ok ([], x :: r) else someR el (x :: r) e
def withinR {α : Type} (k : Nat) (content : Rdr α) : Rdr α := fun ts e => match ts with
 | [] => .error e
 | x :: r => if x.t.k = k then bnd (content x.ks x.e) fun a r2 => (match r2 with
   | [] => .ok (a, r)
   | y :: _ => .error y.t.p) else .error x.t.p
def setR : Rdr (List Wd) := withinR 123 (optR nameR)
def namesR : Rdr (List Wd) := withinR 123 (someR nameR)
def ruleR : Rdr Nd := fun ts e => bnd (nameR ts e) fun w r => bnd (takeR 58 r e) fun _ r2 => bnd (setR r2 e) fun ws r3 => .ok (nd 6 w.p w.s ws [], r3)
def e0 : ByteArray := ⟨#[]⟩
def constR : Nat → Rdr Nd
 | 0 => fun _ _ => .error 0
 | d + 1 => fun ts e => match ts with
   | [] => .error e
   | x :: r =>
     if x.t.k = 97 then .ok (nd 2 x.t.p x.t.s [] [], r)
     else if x.t.k = 123 then bnd (setR (x :: r) e) fun ws r2 => .ok (nd 3 x.t.p e0 ws [], r2)
     else if x.t.k = 40 then bnd (withinR 40 (someR (constR d)) (x :: r) e) fun ks r2 => .ok (nd 4 x.t.p e0 [] ks, r2)
     else if x.t.k = 91 then bnd (withinR 91 (optR ruleR) (x :: r) e) fun ks r2 => .ok (nd 5 x.t.p e0 [] ks, r2)
     else .error x.t.p
def varR : Rdr Nd := fun ts e => bnd (nameR ts e) fun w r => .ok (nd 1 w.p w.s [] [], r)
def atomR (d : Nat) : Rdr Nd := fun ts e => match ts with
 | [] => .error e
 | x :: r => if x.t.k = 35 then bnd (constR d r e) fun n r2 => .ok (nd 7 x.t.p e0 [] [n], r2) else varR (x :: r) e
def labelR : Nat → Rdr Nd
 | 0 => fun _ _ => .error 0
 | d + 1 => fun ts e => match ts with
   | [] => .error e
   | x :: r =>
     if x.t.k = 43 then bnd (withinR 40 (someR (labelR d)) r e) fun ks r2 => .ok (nd 8 x.t.p e0 [] ks, r2)
     else if x.t.k = 38 then bnd (withinR 40 (someR (labelR d)) r e) fun ks r2 => .ok (nd 9 x.t.p e0 [] ks, r2)
     else atomR (d + 1) (x :: r) e
def fieldR (d : Nat) : Rdr Nd := fun ts e => bnd (nameR ts e) fun w r => bnd (takeR 61 r e) fun _ r2 => bnd (atomR d r2 e) fun n r3 => .ok (nd 11 w.p w.s [] [n], r3)
def tailR (ks : List Nd) : Rdr (List Nd × List Wd) := fun ts e => match ts with
 | [] => .ok ((ks, []), [])
 | y :: r => if y.t.k = 124 then bnd (nameR r e) fun w r2 => .ok ((ks, [w]), r2) else .ok ((ks, []), y :: r)
def inrowR (d : Nat) : Rdr (List Nd × List Wd) := fun ts e => bnd (optR (fieldR d) ts e) fun ks r => tailR ks r e
def rowR (d : Nat) : Rdr Nd := fun ts e => match ts with
 | [] => .error e
 | x :: r => if x.t.k = 91 then bnd (withinR 91 (inrowR d) (x :: r) e) fun kw r2 => .ok (nd 10 x.t.p e0 kw.2 kw.1, r2) else varR (x :: r) e
def rest (l : List Tr) (i : Int) : List Tr := if i < 0 then [] else l.drop i.toNat
theorem rest_add (l : List Tr) (i : Int) (m : Nat) (hm : m ≤ (rest l i).length) : rest l (i + m) = (rest l i).drop m := by
 unfold rest at hm ⊢
 by_cases h : i < 0
 ·rw [if_pos h] at hm
  have : m = 0 := by simpa using hm
  subst this
  simp [h]
 ·rw [if_neg h, if_neg (by omega), List.drop_drop, show (i + m).toNat = i.toNat + m by omega]
theorem rest_nil {l : List Tr} {i : Int} : rest l i = [] ↔ i < 0 ∨ (l.length : Int) ≤ i := by
 unfold rest
 by_cases h : i < 0
 ·simp [h]
 ·rw [if_neg h, List.drop_eq_nil_iff]; omega
theorem rest_cons {l : List Tr} {i : Int} (h0 : 0 ≤ i) (h1 : i < l.length) : rest l i = l.getD i.toNat r0 :: rest l (i + 1) := by
 unfold rest
 rw [if_neg (by omega), if_neg (by omega), drop_cons (by omega), show (i + 1).toNat = i.toNat + 1 by omega]
def kindOf (ts : List Tr) (f : Option Int) : Nat := match f, ts with
 | none, x :: _ => x.t.k
 | _, _ => 0
def offOf (ts : List Tr) (e : Int) : Int := match ts with
 | [] => e
 | x :: _ => x.t.p
def fc (f : Option Int) : Int := if f.isSome then 2 else 0
def fa (f : Option Int) : Int := f.getD 0
theorem takeR_hit {k : Nat} {x : Tr} {r : List Tr} {e : Int} (h : x.t.k = k) : takeR k (x :: r) e = .ok (x.t, r) := by simp only [takeR]; rw [if_pos h]
theorem takeR_miss {k : Nat} {ts : List Tr} {e : Int} (h : kindOf ts none ≠ k) : takeR k ts e = .error (offOf ts e) := by
 cases ts with
 | nil => rfl
 | cons x r =>
   have h' : ¬ x.t.k = k := h
   simp only [takeR]; rw [if_neg h']; rfl
def Adv (l : List Tr) (i i2 : Int) : Prop := ∃ m : Nat, i2 = i + m ∧ m ≤ (rest l i).length
theorem Adv.refl (l : List Tr) (i : Int) : Adv l i i := ⟨0, by simp, Nat.zero_le _⟩
theorem Adv.drop {l : List Tr} {i i2 : Int} (h : Adv l i i2) : ∃ m : Nat, i2 = i + m ∧ m ≤ (rest l i).length ∧ rest l i2 = (rest l i).drop m := by
 obtain ⟨m, rfl, hm⟩ := h
 exact ⟨m, rfl, hm, rest_add _ _ _ hm⟩
theorem Adv.trans {l : List Tr} {i i2 i3 : Int} (h : Adv l i i2) (h2 : Adv l i2 i3) : Adv l i i3 := by
 obtain ⟨m, rfl, hm, hr⟩ := h.drop
 obtain ⟨n, rfl, hn⟩ := h2
 rw [hr, List.length_drop] at hn
 exact ⟨m + n, by omega, by omega⟩
theorem nodes_drop (l : List Tr) (m : Nat) : (nodes (l.drop m)).length ≤ (nodes l).length := by
 have := congrArg List.length (nodes_append (l.take m) (l.drop m))
 rw [List.take_append_drop, zA7] at this
 omega
theorem Adv.nodes {l : List Tr} {i i2 : Int} (h : Adv l i i2) : (nodes (rest l i2)).length ≤ (nodes (rest l i)).length := by
 obtain ⟨m, _, _, hr⟩ := h.drop
 rw [hr]; exact nodes_drop _ _
def Step {α : Type} (rd : Rdr α) (l : List Tr) (i e : Int) (f : Option Int) (x : α) (i2 : Int) (f2 : Option Int) : Prop :=
 Adv l i i2 ∧ (∀ p, f = some p → f2 = some p) ∧ (f = none → match rd (rest l i) e with
    | .error p => f2 = some p
    | .ok (y, r) => f2 = none ∧ x = y ∧ r = rest l i2)
section
variable {α β γ : Type} {rd : Rdr α} {l : List Tr} {i e : Int} {f : Option Int} {x : α} {i2 : Int} {f2 : Option Int}
theorem Step.bad {p : Int} (ha : Adv l i i2) : Step rd l i e (some p) x i2 (some p) := ⟨ha, fun _ h => h, fun h => by cases h⟩
theorem Step.ok (ha : Adv l i i2) (h : rd (rest l i) e = .ok (x, rest l i2)) : Step rd l i e none x i2 none :=
 ⟨ha, fun _ h => (by cases h), fun _ => by rw [h]; exact ⟨rfl, rfl, rfl⟩⟩
theorem Step.fault {p : Int} (ha : Adv l i i2) (h : rd (rest l i) e = .error p) : Step rd l i e none x i2 (some p) :=
 ⟨ha, fun _ h => (by cases h), fun _ => by rw [h]⟩
theorem Step.cases (h : Step rd l i e f x i2 f2) :
 (∃ p, f2 = some p ∧ ((f = none ∧ rd (rest l i) e = .error p) ∨ f = some p)) ∨ (f = none ∧ f2 = none ∧ rd (rest l i) e = .ok (x, rest l i2)) := by
 obtain ⟨_, h1, h2⟩ := h
 cases f with
 | some p => exact .inl ⟨p, h1 p rfl, .inr rfl⟩
 | none =>
   have h2 := h2 rfl
   cases hr : rd (rest l i) e with
   | error p => rw [hr] at h2; exact .inl ⟨p, h2, .inl ⟨rfl, rfl⟩⟩
   | ok yr =>
     obtain ⟨y, r⟩ := yr
     rw [hr] at h2
     obtain ⟨rfl, rfl, rfl⟩ := h2
     exact .inr ⟨rfl, rfl, rfl⟩
theorem Step.bind {rd2 : α → Rdr β} {y : β} {i3 : Int} {f3 : Option Int} (h : Step rd l i e f x i2 f2) (h2 : Step (rd2 x) l i2 e f2 y i3 f3) : Step (fun ts e => bnd (rd ts e) fun a r => rd2 a r e) l i e f y i3 f3 := by
 have ha := h.1.trans h2.1
 rcases h.cases with ⟨p, rfl, ⟨rfl, hr⟩ | rfl⟩ | ⟨rfl, rfl, hr⟩
 ·obtain rfl := h2.2.1 p rfl
  exact Step.fault ha (by show bnd _ _ = _; rw [hr]; rfl)
 ·obtain rfl := h2.2.1 p rfl
  exact Step.bad ha
 ·rcases h2.cases with ⟨p, rfl, ⟨_, hr2⟩ | h⟩ | ⟨_, rfl, hr2⟩
  ·exact Step.fault ha (by show bnd _ _ = _; rw [hr]; exact hr2)
  ·cases h
  ·exact Step.ok ha (by show bnd _ _ = _; rw [hr]; exact hr2)
theorem Step.pure (x : β) : Step (fun ts _ => .ok (x, ts)) l i e f x i f := by
 cases f with
 | none => exact Step.ok (Adv.refl _ _) rfl
 | some p => exact Step.bad (Adv.refl _ _)
theorem Step.map (g : α → β) (h : Step rd l i e f x i2 f2) : Step (fun ts e => bnd (rd ts e) fun a r => .ok (g a, r)) l i e f (g x) i2 f2 :=
 h.bind (rd2 := fun a ts _ => .ok (g a, ts)) (Step.pure (g x))
theorem Step.of_eq {rd' : Rdr α} (h : Step rd l i e f x i2 f2) (he : rd' (rest l i) e = rd (rest l i) e) : Step rd' l i e f x i2 f2 := ⟨h.1, h.2.1, fun hf => by rw [he]; exact h.2.2 hf⟩
end
theorem take_ok {k : Nat} {l : List Tr} {i e : Int} {f : Option Int} {t : Tk} {i2 : Int} (h : Step (takeR k) l i e f t i2 none) :
 f = none ∧ ∃ j : Nat, i = j ∧ j < l.length ∧ i2 = (j : Int) + 1 ∧ t = (l.getD j r0).t ∧ (l.getD j r0).t.k = k ∧ rest l j = l.getD j r0 :: rest l ((j : Int) + 1) := by
 rcases h.cases with ⟨p, h1, _⟩ | ⟨rfl, _, hr⟩
 ·cases h1
 ·have hne : rest l i ≠ [] := fun e => by rw [e] at hr; cases hr
  have hb : ¬ (i < 0 ∨ (l.length : Int) ≤ i) := fun e => hne (rest_nil.2 e)
  obtain ⟨j, rfl⟩ := Int.eq_ofNat_of_zero_le (show 0 ≤ i by omega)
  have hj : j < l.length := by omega
  have hrest := rest_cons (l := l) (i := (j : Int)) (by omega) (by omega)
  rw [Int.toNat_natCast] at hrest
  rw [hrest] at hr
  by_cases hk : (l.getD j r0).t.k = k
  ·rw [takeR_hit hk] at hr
   injection hr with hr
   injection hr with h1 h2
   obtain ⟨m, rfl, hm, hd⟩ := h.1.drop
   have hm1 : m = 1 := by
        rw [← h2, hrest] at hd
        have := congrArg List.length hd
        simp only [List.length_drop, zA8] at this
        rw [hrest, zA8] at hm
        omega
   subst hm1
   exact ⟨rfl, j, rfl, hj, rfl, h1.symm, hk, hrest⟩
  ·have h' : ¬ (l.getD j r0).t.k = k := hk
   simp only [takeR] at hr
   rw [if_neg h'] at hr
   cases hr
theorem within_fault {α : Type} {k : Nat} {rd : Rdr α} {l : List Tr} {i e : Int} {f : Option Int} {t : Tk} {i2 p : Int} (h : Step (takeR k) l i e f t i2 (some p)) (x : α) : Step (withinR k rd) l i e f x i2 (some p) := by
 rcases h.cases with ⟨q, h1, ⟨rfl, hr⟩ | rfl⟩ | ⟨_, h1, _⟩
 ·obtain rfl := Option.some.inj h1
  refine Step.fault h.1 ?_
  cases hl : rest l i with
  | nil =>
    rw [hl] at hr
    simp only [takeR] at hr
    injection hr with hr
    simp only [withinR]
    rw [hr]
  | cons y r =>
    rw [hl] at hr
    by_cases hk : y.t.k = k
    ·rw [takeR_hit hk] at hr; cases hr
    ·simp only [takeR] at hr
     rw [if_neg hk] at hr
     simp only [withinR]
     rw [if_neg hk]
     injection hr with hr
     rw [hr]
 ·obtain rfl := Option.some.inj h1
  exact Step.bad h.1
 ·cases h1
theorem within_step {α : Type} {k : Nat} {rd : Rdr α} {l : List Tr} {e : Int} {j : Nat} {x : α} {i2 : Int} {f2 f3 : Option Int} (hk : (l.getD j r0).t.k = k) (hr : rest l j = l.getD j r0 :: rest l ((j : Int) + 1))
 (h : Step rd (l.getD j r0).ks 0 (l.getD j r0).e none x i2 f2) (h3 : (rest (l.getD j r0).ks i2 = [] ∧ f3 = f2) ∨ (rest (l.getD j r0).ks i2 ≠ [] ∧ f3 = some (f2.getD (offOf (rest (l.getD j r0).ks i2) (l.getD j r0).e)))) : Step (withinR k rd) l j e none x ((j : Int) + 1) f3 := by
 have ha : Adv l j ((j : Int) + 1) := ⟨1, rfl, by rw [hr]; simp⟩
 have h0 : rest (l.getD j r0).ks 0 = (l.getD j r0).ks := by simp [rest]
 rcases h.cases with ⟨p, rfl, ⟨_, h1⟩ | h1⟩ | ⟨_, rfl, h1⟩
 ·have h4 : f3 = some p := by
   rcases h3 with ⟨_, h3⟩ | ⟨_, h3⟩ <;> rw [h3]
   rfl
  subst h4
  refine Step.fault ha ?_
  rw [hr]
  simp only [withinR]
  rw [if_pos hk]
  rw [h0] at h1
  rw [h1]; rfl
 ·cases h1
 ·rw [h0] at h1
  rcases h3 with ⟨hn, rfl⟩ | ⟨hn, rfl⟩
  ·refine Step.ok ha ?_
   rw [hr]
   simp only [withinR]
   rw [if_pos hk, h1, hn]; rfl
  ·cases hq : rest (l.getD j r0).ks i2 with
   | nil => exact absurd hq hn
   | cons y r =>
     refine Step.fault ha ?_
     rw [hr]
     simp only [withinR]
     rw [if_pos hk, h1, hq]; rfl
structure LSt {α : Type} (rd : Rdr α) (l : List Tr) (i e : Int) (f : Option Int) (xs : List α) (i2 : Int) (f2 : Option Int) : Prop where
 adv : Adv l i i2
 few : (xs.length : Int) ≤ i2 - i + 1 ∨ f2 ≠ none
 bad : ∀ p, f = some p → f2 = some p
 good : f = none → (∃ p, f2 = some p ∧ someR rd (rest l i) e = .error p) ∨ (f2 = none ∧ ∃ n : Nat, (rest l i2).length ≤ n ∧ bnd (moreR rd n (rest l i2) e) (fun ys r => .ok (xs ++ ys, r)) = someR rd (rest l i) e)
section
variable {α : Type} {rd : Rdr α} {l : List Tr} {i e : Int} {f : Option Int} {x : α} {xs : List α} {i2 i3 i4 : Int} {f2 f3 f4 : Option Int} {t : Tk}
theorem LSt.start (h : Step rd l i e f x i2 f2) : LSt rd l i e f [x] i2 f2 := by
 refine ⟨h.1, ?_, h.2.1, fun hf => ?_⟩
 ·obtain ⟨m, rfl, _⟩ := h.1
  exact .inl (by simp only [List.length_singleton]; omega)
 ·subst hf
  rcases h.cases with ⟨p, rfl, ⟨_, hr⟩ | h⟩ | ⟨_, rfl, hr⟩
  ·exact .inl ⟨p, rfl, by unfold someR; rw [hr]; rfl⟩
  ·cases h
  ·obtain ⟨m, _, _, hd⟩ := h.1.drop
   exact .inr ⟨rfl, (rest l i).length, by rw [hd, List.length_drop]; omega, by unfold someR; rw [hr]; rfl⟩
theorem moreR_stop {n : Nat} {ts : List Tr} (h : ts.length ≤ n) (hk : kindOf ts none ≠ 44) : moreR rd n ts e = .ok ([], ts) := by
 cases n with
 | zero => rfl
 | succ n =>
   cases ts with
   | nil => rfl
   | cons c r =>
     have h' : ¬ c.t.k = 44 := hk
     simp only [moreR]; rw [if_neg h']
theorem LSt.stop (h : LSt rd l i e f xs i2 f2) (hk : kindOf (rest l i2) f2 ≠ 44) : Step (someR rd) l i e f xs i2 f2 := by
 cases f with
 | some p =>
   obtain rfl := h.bad p rfl
   exact Step.bad h.adv
 | none =>
   rcases h.good rfl with ⟨p, rfl, hr⟩ | ⟨rfl, n, hn, hr⟩
   ·exact Step.fault h.adv hr
   ·rw [moreR_stop hn hk] at hr
    exact Step.ok h.adv (by rw [← hr]; simp [bnd])
theorem LSt.next (h : LSt rd l i e f xs i2 f2) (hk : kindOf (rest l i2) f2 = 44) (h2 : Step (takeR 44) l i2 e f2 t i3 f3) (h3 : Step rd l i3 e f3 x i4 f4) :
 LSt rd l i e f (xs ++ [x]) i4 f4 ∧ f2 = none ∧ f3 = none ∧ (rest l i4).length < (rest l i2).length := by
 obtain rfl : f2 = none := by
  cases f2 with
  | none => rfl
  | some p => cases hr : rest l i2 <;> rw [hr] at hk <;> cases hk
 cases hr : rest l i2 with
 | nil => rw [hr] at hk; cases hk
 | cons c r =>
   rw [hr] at hk
   have hc : c.t.k = 44 := hk
   rcases h2.cases with ⟨p, rfl, ⟨_, h⟩ | h⟩ | ⟨_, rfl, h⟩
   ·rw [hr, takeR_hit hc] at h; cases h
   ·cases h
   ·rw [hr, takeR_hit hc] at h
    injection h with h
    injection h with ht hrest
    have hlen : (rest l i4).length ≤ r.length := by
        obtain ⟨m, _, _, hd⟩ := h3.1.drop
        rw [hd, List.length_drop, ← hrest]; omega
    have hi3 : i2 + 1 ≤ i3 := by
        obtain ⟨m, rfl, hm, hd⟩ := h2.1.drop
        rcases Nat.eq_zero_or_pos m with rfl | hp
        ·exfalso
         rw [List.drop_zero, hr, ← hrest] at hd
         have := congrArg List.length hd
         simp at this
        ·omega
    have hi4 : i3 ≤ i4 := by obtain ⟨m, rfl, _⟩ := h3.1; omega
    refine ⟨⟨(‹LSt rd l i e f xs i2 none›.adv.trans h2.1).trans h3.1, ?_, fun p hp => ?_, fun hf => ?_⟩, rfl, rfl, by rw [zA8]; omega⟩
    ·rcases ‹LSt rd l i e f xs i2 none›.few with h | h
     ·exact .inl (by simp only [zA7, List.length_singleton]; omega)
     ·exact absurd rfl h
    ·have := ‹LSt rd l i e f xs i2 none›.bad p hp; cases this
    ·rcases ‹LSt rd l i e f xs i2 none›.good hf with ⟨p, hp, _⟩ | ⟨_, n, hn, hg⟩
     ·cases hp
     ·rw [hr] at hn hg
      cases n with
      | zero => simp at hn
      | succ n =>
        simp only [moreR] at hg
        rw [if_pos hc] at hg
        rw [hrest] at hg
        rcases h3.cases with ⟨p, rfl, ⟨_, h⟩ | h⟩ | ⟨_, rfl, h⟩
        ·rw [h] at hg
         exact .inl ⟨p, rfl, hg.symm⟩
        ·cases h
        ·rw [h] at hg
         refine .inr ⟨rfl, n, by simp only [zA8] at hn; omega, ?_⟩
         rw [← hg]
         simp only [bnd]
         cases moreR rd n (rest l i4) e with
         | error p => rfl
         | ok yr => simp
end
end TM
end
section
open Go.RowKit LX TR TM
structure Mv (b : Nat) (w w' : World) : Prop where
 low : Below b w w'
 block : ∀ k, k < w.heap.size → k ≠ b → w'.heap[k]? = w.heap[k]?
section
variable {b B : Nat} {w w' w2 : World}
theorem Mv.size (h : Mv b w w') : w.heap.size ≤ w'.heap.size := h.low.size
theorem Mv.refl (b : Nat) (w : World) : Mv b w w := ⟨zB _ _, fun _ _ _ => rfl⟩
theorem Mv.trans (h : Mv b w w') (h2 : Mv b w' w2) : Mv b w w2 := ⟨h.low.trans h2.low, fun k hk hne => (h2.block k (zT hk h.size) hne).trans (h.block k hk hne)⟩
theorem Mv.below (hb : b < w.heap.size) (h : Below w.heap.size w w') : Mv b w w' := ⟨h.mono (by omega), fun k hk _ => h.block k hk⟩
theorem Mv.on (h : Mv b w w') (hb : Below b w' w2) (hc : ∀ k, k < w.heap.size → k ≠ b → w2.heap[k]? = w'.heap[k]?) : Mv b w w2 := ⟨h.low.trans hb, fun k hk hne => (hc k hk hne).trans (h.block k hk hne)⟩
theorem Mv.onBelow (h : Mv b w w') (hbw : b < w.heap.size) (hb : Below B w' w2) (hB : w.heap.size ≤ B) : Mv b w w2 := h.on (hb.mono (by omega)) fun k hk _ => hb.block k (by omega)
theorem Mv.alloc (h : Mv b w w') (hbw : b < w.heap.size) (o : Obj) : Mv b w (w'.alloc o) := h.onBelow hbw ((zB w'.heap.size _).alloc (zL _) o) h.size
theorem Mv.drewN (h : Mv b w w') (n : Nat) : Mv b w (w'.drewN n) := ⟨bdrewN h.low n, h.block⟩
theorem Mv.drew (h : Mv b w w') : Mv b w w'.drew := ⟨h.low.drew, h.block⟩
theorem Mv.setCell (h : Mv b w w') {p : Addr} (hp : p.block = b ∨ w.heap.size ≤ p.block) (hbw : b < w.heap.size) (u : Value) : Mv b w (w'.setCell p u) :=
 h.on ((zB b w').setCell (by rcases hp with hp | hp <;> omega) u) fun k hk hne => by
  simp only [World.setCell, Array.getElem?_modify]
  rw [if_neg]
  rcases hp with hp | hp <;> omega
theorem Mv.setRow (h : Mv b w w') {g : Nat} (hp : g = b ∨ w.heap.size ≤ g) (hbw : b < w.heap.size) (ds : Array Value) : Mv b w (w'.setRow g ds) :=
 h.on (below_setRow (by rcases hp with hp | hp <;> omega) ds) fun k hk hne => setRow_other w' g k ds (by rcases hp with hp | hp <;> omega)
end
theorem RowAt.mv {b q : Nat} {w w' : World} {t : TypeId} {cs : Array Value} (h : RowAt w q t cs) (hm : Mv b w w') (hq : q ≠ b) : RowAt w' q t cs := (hm.block q h.lt hq).trans h
theorem row2 {w : World} {g : Nat} {t : TypeId} {a b : Value} (h : RowAt w g t #[a, b]) : w.cell? ⟨g, 0, none⟩ = some a ∧ w.cell? ⟨g, 1, none⟩ = some b ∧ w.frozen? ⟨g, 0, none⟩ = false ∧ w.frozen? ⟨g, 1, none⟩ = false :=
 ⟨(h.cell 0).trans rfl, (h.cell 1).trans rfl, h.free 0, h.free 1⟩
theorem row3 {w : World} {g : Nat} {t : TypeId} {a b c : Value} (h : RowAt w g t #[a, b, c]) : w.cell? ⟨g, 0, none⟩ = some a ∧ w.cell? ⟨g, 1, none⟩ = some b ∧ w.cell? ⟨g, 2, none⟩ = some c ∧ w.frozen? ⟨g, 0, none⟩ = false ∧ w.frozen? ⟨g, 1, none⟩ = false ∧ w.frozen? ⟨g, 2, none⟩ = false :=
 ⟨(h.cell 0).trans rfl, (h.cell 1).trans rfl, (h.cell 2).trans rfl, h.free 0, h.free 1, h.free 2⟩
theorem row5 {w : World} {g : Nat} {t : TypeId} {a b c d e : Value} (h : RowAt w g t #[a, b, c, d, e]) : w.cell? ⟨g, 0, none⟩ = some a ∧ w.cell? ⟨g, 1, none⟩ = some b ∧ w.cell? ⟨g, 2, none⟩ = some c ∧ w.cell? ⟨g, 3, none⟩ = some d ∧ w.cell? ⟨g, 4, none⟩ = some e
 ∧ w.frozen? ⟨g, 0, none⟩ = false ∧ w.frozen? ⟨g, 1, none⟩ = false ∧ w.frozen? ⟨g, 2, none⟩ = false ∧ w.frozen? ⟨g, 3, none⟩ = false ∧ w.frozen? ⟨g, 4, none⟩ = false :=
 ⟨(h.cell 0).trans rfl, (h.cell 1).trans rfl, (h.cell 2).trans rfl, (h.cell 3).trans rfl, (h.cell 4).trans rfl, h.free 0, h.free 1, h.free 2, h.free 3, h.free 4⟩
def rdc (A : Option Addr) (n c : Nat) (i e x y : Int) : Array Value := #[.slice A n c, .int .i64 i, .int .i64 e, .int .i64 x, .int .i64 y]
abbrev RdAt (w : World) (b : Nat) (A : Option Addr) (n c : Nat) (i e x y : Int) : Prop := RowAt w b 147 (rdc A n c i e x y)
section
variable {w : World} {b : Nat} {A : Option Addr} {n c : Nat} {i e x y : Int}
theorem rd_cells (h : RdAt w b A n c i e x y) : w.cell? ⟨b, 0, none⟩ = some (.slice A n c) ∧ w.cell? ⟨b, 1, none⟩ = some (.int .i64 i) ∧ w.cell? ⟨b, 2, none⟩ = some (.int .i64 e) ∧ w.cell? ⟨b, 3, none⟩ = some (.int .i64 x) ∧ w.cell? ⟨b, 4, none⟩ = some (.int .i64 y) :=
 ⟨(h.cell 0).trans rfl, (h.cell 1).trans rfl, (h.cell 2).trans rfl, (h.cell 3).trans rfl, (h.cell 4).trans rfl⟩
end
theorem ended_any (b : Nat) (A : Option Addr) (n c : Nat) (i e x y : Int) (w : World) (h : RdAt w b A n c i e x y) :
 Calls Tryz.prog 145 #[.pointer (some ⟨b, 0, none⟩)] w fun e' w' => e' = .returned (.bool (decide (i < 0 ∨ (n : Int) ≤ i))) ∧ Dr w w' := by
 obtain ⟨c0, c1, c2, c3, c4⟩ := rd_cells h
 clear h
 by_cases h0 : i < 0
 ·have e0 : decide (i < 0) = true := zE h0
  rw [show decide (i < 0 ∨ (n : Int) ≤ i) = true from zE (.inl h0)]
  go_enter Tryz.func145, Tryz.ntmps145
  go_wp2_with fail
  go_quiet (fail)
  go_wp2
  go_ret
  exact ⟨rfl, (Dr.refl _).more _⟩
 ·by_cases h1 : (n : Int) ≤ i
  ·have e0 : decide (i < 0) = false := zF h0
   have e1 : decide ((n : Int) ≤ i) = true := zE h1
   rw [show decide (i < 0 ∨ (n : Int) ≤ i) = true from zE (.inr h1)]
   go_enter Tryz.func145, Tryz.ntmps145
   go_wp2_with fail
   go_quiet (fail)
   go_wp2
   go_ret
   exact ⟨rfl, (Dr.refl _).more _⟩
  ·have e0 : decide (i < 0) = false := zF h0
   have e1 : decide ((n : Int) ≤ i) = false := zF h1
   rw [show decide (i < 0 ∨ (n : Int) ≤ i) = false from zF (by omega)]
   go_enter Tryz.func145, Tryz.ntmps145
   go_wp2_with fail
   go_quiet (fail)
   go_wp2
   go_ret
   exact ⟨rfl, (Dr.refl _).more _⟩
structure Rs (w : World) (b : Nat) (A : Option Addr) (c : Nat) (l : List Tr) (i e : Int) (f : Option Int) : Prop where
 at_ : RdAt w b A l.length c i e (fc f) (fa f)
 trs : Trs w b A l
 len : l.length ≤ 2199023255552 ∧ ∀ x ∈ nodes l, x.ks.length ≤ 2199023255552
theorem Rs.lt {w : World} {b : Nat} {A : Option Addr} {c : Nat} {l : List Tr} {i e : Int} {f : Option Int} (h : Rs w b A c l i e f) : b < w.heap.size := h.at_.lt
theorem Rs.below {w w' : World} {b : Nat} {A : Option Addr} {c : Nat} {l : List Tr} {i e : Int} {f : Option Int} (h : Rs w b A c l i e f) (hb : Below w.heap.size w w') : Rs w' b A c l i e f := ⟨h.at_.below hb h.lt, h.trs.below (hb.mono (Nat.le_of_lt h.lt)), h.len⟩
theorem Rs.mv {w w' : World} {b : Nat} {A : Option Addr} {c : Nat} {l : List Tr} {i e i' e' : Int} {f f' : Option Int} (h : Rs w b A c l i e f) (hm : Mv b w w') (h' : RdAt w' b A l.length c i' e' (fc f') (fa f')) : Rs w' b A c l i' e' f' := ⟨h', h.trs.below hm.low, h.len⟩
theorem Rs.far {w : World} {b g j : Nat} {A : Option Addr} {c : Nat} {l : List Tr} {i e : Int} {f : Option Int} (h : Rs w b A c l i e f) (hg : b < g) {u : Value} : Rs (w.setCell ⟨g, j, none⟩ u) b A c l i e f :=
 ⟨h.at_.far (p := ⟨g, j, none⟩) (Nat.ne_of_gt hg) u, h.trs.below ((zB b w).setCell (p := ⟨g, j, none⟩) (Nat.le_of_lt hg) u), h.len⟩
theorem Rs.low {w w' : World} {b B : Nat} {A : Option Addr} {c : Nat} {l : List Tr} {i e : Int} {f : Option Int} (h : Rs w b A c l i e f) (hb : Below B w w') (hB : b < B) : Rs w' b A c l i e f := ⟨h.at_.below hb hB, h.trs.below (hb.mono (Nat.le_of_lt hB)), h.len⟩
theorem Rs.alloc {w : World} {b : Nat} {A : Option Addr} {c : Nat} {l : List Tr} {i e : Int} {f : Option Int} (h : Rs w b A c l i e f) (o : Obj) : Rs (w.alloc o) b A c l i e f := h.below ((zB _ _).alloc (zL _) o)
theorem Rs.drewN {w : World} {b : Nat} {A : Option Addr} {c : Nat} {l : List Tr} {i e : Int} {f : Option Int} (h : Rs w b A c l i e f) (m : Nat) : Rs (w.drewN m) b A c l i e f := h.below (bdrewN (zB _ _) m)
theorem Rs.dr {w w' : World} {b : Nat} {A : Option Addr} {c : Nat} {l : List Tr} {i e : Int} {f : Option Int} (h : Rs w b A c l i e f) (hd : Dr w w') : Rs w' b A c l i e f := h.below hd.below
theorem Mv.dr {b : Nat} {w w' w2 : World} (h : Mv b w w') (hbw : b < w.heap.size) (hd : Dr w' w2) : Mv b w w2 := h.onBelow hbw hd.below h.size
theorem kind_any {w : World} {b : Nat} {A : Option Addr} {c : Nat} {l : List Tr} {i e : Int} {f : Option Int} (h : Rs w b A c l i e f) :
 Calls Tryz.prog 131 #[.pointer (some ⟨b, 0, none⟩)] w fun e' w' => e' = .returned (.int .u8 ((kindOf (rest l i) f : Nat) : Int)) ∧ Dr w w' := by
 obtain ⟨c0, c1, c2, c3, c4⟩ := rd_cells h.at_
 have HE := zh (fun q => ended_any b A l.length c i e (fc f) (fa f) (w.drewN q) (h.at_.drewN q))
 have HE0 := zh (ended_any b A l.length c i e (fc f) (fa f) w h.at_)
 cases f with
 | some p =>
   have hx : kindOf (rest l i) (some p) = 0 := by cases rest l i <;> rfl
   rw [hx]
   clear h hx HE HE0
   simp only [fc, Option.isSome_some, if_true] at c3
   go_enter Tryz.func131, Tryz.ntmps131
   go_wp2_with fail
   go_ret
   exact ⟨rfl, Dr.refl _⟩
 | none =>
   simp only [fc, Option.isSome_none, Bool.false_eq_true, if_false] at c3
   by_cases hend : i < 0 ∨ (l.length : Int) ≤ i
   ·rw [zE hend] at HE0 HE
    rw [rest_nil.2 hend]
    show Calls _ _ _ _ fun e' w' => e' = .returned (.int .u8 ((0 : Nat) : Int)) ∧ _
    clear h hend
    generalize l.length = n at *
    go_enter Tryz.func131, Tryz.ntmps131
    go_wp2_with fail
    refine HE0.out.mono ?_
    rintro e' w' ⟨rfl, hd⟩
    have HD := zh hd; clear hd
    go_wp2
    go_ret
    exact ⟨rfl, HD.out⟩
   ·rw [zF hend] at HE0 HE
    obtain ⟨j, rfl⟩ : ∃ j : Nat, i = j := Int.eq_ofNat_of_zero_le (by omega)
    have hj : j < l.length := by omega
    rw [rest_cons (by omega) (by omega), Int.toNat_natCast]
    show Calls _ _ _ _ fun e' w' => e' = .returned (.int .u8 (((l.getD j r0).t.k : Nat) : Int)) ∧ _
    obtain ⟨bb, o, rfl, hbl, hc⟩ := h.trs.at hj
    obtain ⟨k0, k1, k2, k3, k4⟩ := hc j hj
    have hbw := h.lt
    clear h hend hc
    generalize (l.getD j r0).t.k = q at *
    clear k1 k2 k3 k4
    generalize l.length = n at *
    go_enter Tryz.func131, Tryz.ntmps131
    go_wp2_with fail
    refine HE0.out.mono ?_
    rintro e' w' ⟨rfl, m, rfl⟩
    go_wp2_with fail
    go_quiet (fail)
    go_wp2
    go_ret
    exact ⟨rfl, ((Dr.refl _).more _).more _⟩
theorem offset_any {w : World} {b : Nat} {A : Option Addr} {c : Nat} {l : List Tr} {i e : Int} {f : Option Int} (h : Rs w b A c l i e f) :
 Calls Tryz.prog 135 #[.pointer (some ⟨b, 0, none⟩)] w fun e' w' => e' = .returned (.int .i64 (offOf (rest l i) e)) ∧ Dr w w' := by
 obtain ⟨c0, c1, c2, c3, c4⟩ := rd_cells h.at_
 have HE0 := zh (ended_any b A l.length c i e (fc f) (fa f) w h.at_)
 by_cases hend : i < 0 ∨ (l.length : Int) ≤ i
 ·rw [zE hend] at HE0
  rw [rest_nil.2 hend]
  show Calls _ _ _ _ fun e' w' => e' = .returned (.int .i64 e) ∧ _
  clear h hend
  generalize l.length = n at *
  go_enter Tryz.func135, Tryz.ntmps135
  go_wp2_with fail
  refine HE0.out.mono ?_
  rintro e' w' ⟨rfl, m, rfl⟩
  go_wp2
  go_ret
  exact ⟨rfl, (Dr.refl _).more _⟩
 ·rw [zF hend] at HE0
  obtain ⟨j, rfl⟩ : ∃ j : Nat, i = j := Int.eq_ofNat_of_zero_le (by omega)
  have hj : j < l.length := by omega
  rw [rest_cons (by omega) (by omega), Int.toNat_natCast]
  show Calls _ _ _ _ fun e' w' => e' = .returned (.int .i64 (l.getD j r0).t.p) ∧ _
  obtain ⟨bb, o, rfl, hbl, hc⟩ := h.trs.at hj
  obtain ⟨k0, k1, k2, k3, k4⟩ := hc j hj
  have hbw := h.lt
  clear h hend hc
  generalize (l.getD j r0).t.p = q at *
  clear k0 k1 k3 k4
  generalize l.length = n at *
  go_enter Tryz.func135, Tryz.ntmps135
  go_wp2_with fail
  refine HE0.out.mono ?_
  rintro e' w' ⟨rfl, m, rfl⟩
  go_wp2_with fail
  go_quiet (fail)
  go_wp2
  go_ret
  exact ⟨rfl, ((Dr.refl _).more _).more _⟩
end
section
open Go.RowKit LX TR TM
def failed (l : List Tr) (i e : Int) (f : Option Int) : Option Int := some (f.getD (offOf (rest l i) e))
theorem fail_any {w : World} {b : Nat} {A : Option Addr} {c : Nat} {l : List Tr} {i e : Int} {f : Option Int} (h : Rs w b A c l i e f) :
 Calls Tryz.prog 149 #[.pointer (some ⟨b, 0, none⟩)] w fun e' w' => e' = .returned (.tuple #[]) ∧ Rs w' b A c l i e (failed l i e f) ∧ Mv b w w' ∧ w'.heap.size = w.heap.size := by
 obtain ⟨c0, c1, c2, c3, c4⟩ := rd_cells h.at_
 cases f with
 | some p =>
   have HR : Hid (Rs w b A c l i e (failed l i e (some p))) := h
   clear h
   simp only [fc, Option.isSome_some, if_true] at c3
   go_enter Tryz.func149, Tryz.ntmps149
   go_wp2_with fail
   go_end0
   exact ⟨rfl, HR.out, Mv.refl _ _, rfl⟩
 | none =>
   have HO := zh (offset_any h)
   have H := zh h
   have f0 := h.at_.free
   have hbw := h.lt
   clear h
   show Calls _ _ _ _ fun e' w' => e' = .returned (.tuple #[]) ∧ Rs w' b A c l i e (some (offOf (rest l i) e)) ∧ _
   generalize offOf (rest l i) e = q at *
   simp only [fc, Option.isSome_none, Bool.false_eq_true, if_false] at c3
   go_enter Tryz.func149, Tryz.ntmps149
   go_wp2_with fail
   refine HO.out.mono ?_
   rintro e' w' ⟨rfl, m, rfl⟩
   go_wp2
   go_end0
   have hm : Mv b w (((w.drewN m).setCell ⟨b, 3, none⟩ (.int .i64 2)).setCell ⟨b, 4, none⟩ (.int .i64 q)) := (((Mv.refl b w).drewN m).setCell (p := ⟨b, 3, none⟩) (.inl rfl) hbw _).setCell (p := ⟨b, 4, none⟩) (.inl rfl) hbw _
   exact ⟨rfl, H.out.mv hm (((H.out.at_.drewN m).put 3 _).put 4 _), hm, by simp [World.setCell]⟩
theorem ret_cell {P : Program} {fn : Func} {q : Tmp} {ty : TypeId} (h : fn.results = #[.cell q ty]) (tmps : Array Value) (w : World) (g : Nat) (t : TypeId) (cs : Array Value) (fr : Nat × Nat) (d : TypeDesc)
 (hp : tmps.getD q undef = .pointer (some ⟨g, 0, none⟩)) (hg : w.heap[g]? = some (.cells cs t fr))
 (hu : P.underlying ty = some d) (hd : (match d with | .struct _ | .array _ _ => true | _ => false) = true) (hi : (P.info? ty).map (·.size) = some cs.size) :
 (results fn tmps).run P w = .ok (.agg cs) w := by
 have hp' : tmps[q]?.getD undef = .pointer (some ⟨g, 0, none⟩) := by simpa using hp
 simp [results, h, hp', asAddr, run_loadVar_row w g t ty cs fr d hg hu hd hi]
theorem ret_one {P : Program} {fn : Func} {q : Tmp} {ty e : TypeId} (h : fn.results = #[.cell q ty]) (tmps : Array Value) (w : World) (g : Nat) (v : Value)
 (hp : tmps.getD q undef = .pointer (some ⟨g, 0, none⟩)) (hg : w.cell? ⟨g, 0, none⟩ = some v) (hu : P.underlying ty = some (.slice e)) :
 (results fn tmps).run P w = .ok v w := by
 have hp' : tmps[q]?.getD undef = .pointer (some ⟨g, 0, none⟩) := by simpa using hp
 have hagg : (isAgg ty).run P w = .ok false w := by
  unfold isAgg
  rw [Sem.run_bind, run_underlying hu w]
  rfl
 simp [results, h, hp', asAddr, loadVar, Sem.run_bind, hagg, hg]
theorem tok_info (a b c : Value) : (Tryz.prog.info? 78).map (·.size) = some (#[a, b, c] : Array Value).size := by kernel_rfl
theorem word_info (a b : Value) : (Tryz.prog.info? 23).map (·.size) = some (#[a, b] : Array Value).size := by kernel_rfl
theorem node_info (a b c d e : Value) : (Tryz.prog.info? 28).map (·.size) = some (#[a, b, c, d, e] : Array Value).size := by kernel_rfl
theorem rd_row {w : World} {b : Nat} {A : Option Addr} {n c : Nat} {i e x y : Int} (h : RdAt w b A n c i e x y) (i2 : Int) : RdAt (w.setCell ⟨b, 1, none⟩ (.int .i64 i2)) b A n c i2 e x y := h.put 1 _
theorem take_any {w : World} {b : Nat} {A : Option Addr} {c : Nat} {l : List Tr} {i e : Int} {f : Option Int} (h : Rs w b A c l i e f) (k : Nat) (hk : 0 < k) :
 Calls Tryz.prog 140 #[.pointer (some ⟨b, 0, none⟩), .int .u8 (k : Int)] w fun e' w' => ∃ t i2 f2, e' = .returned (.agg (tv t)) ∧ Rs w' b A c l i2 e f2 ∧ Mv b w w' ∧ Step (takeR k) l i e f t i2 f2 := by
 have hbw := h.lt
 have HA0 := zh (h.at_.alloc (.cells #[.int .u8 0, .string ⟨#[]⟩, .int .i64 0] 78))
 have HM0 : Hid (Mv b w (w.alloc (.cells #[.int .u8 0, .string ⟨#[]⟩, .int .i64 0] 78))) := (Mv.refl b w).alloc hbw _
 have HG := zh (RowAt.new w 78 #[.int .u8 0, .string ⟨#[]⟩, .int .i64 0])
 have HS := zh (h.mv HM0.out HA0.out)
 have HK := zh (kind_any HS.out)
 by_cases hm : kindOf (rest l i) f = k
 ·obtain ⟨rfl, h0, hj⟩ : f = none ∧ 0 ≤ i ∧ i < l.length := by
   cases f with
   | some p => cases hr : rest l i <;> rw [hr] at hm <;> simp only [kindOf] at hm <;> omega
   | none =>
     refine ⟨rfl, ?_⟩
     by_cases hend : i < 0 ∨ (l.length : Int) ≤ i
     ·rw [rest_nil.2 hend] at hm
      simp only [kindOf] at hm; omega
     ·omega
  obtain ⟨j, rfl⟩ := Int.eq_ofNat_of_zero_le h0
  have hj : j < l.length := by omega
  have hrest := rest_cons (l := l) (i := (j : Int)) (by omega) (by omega)
  rw [Int.toNat_natCast] at hrest
  have hkk : (l.getD j r0).t.k = k := by rw [hrest] at hm; exact hm
  have HST : Hid (∀ t, t = (l.getD j r0).t → Step (takeR k) l j e none t ((j : Int) + 1) none) := fun t ht => by
   subst ht
   exact Step.ok ⟨1, rfl, by rw [hrest]; simp⟩ (by rw [hrest]; exact takeR_hit hkk)
  obtain ⟨bb, o, rfl, hbl, hc⟩ := h.trs.at hj
  obtain ⟨k0, k1, k2, k3, k4⟩ := hc j hj
  have hne : bb ≠ b := by omega
  have hb1 : bb < w.heap.size := by omega
  rw [hm] at HK
  have hlen := h.len.1
  clear h k3 k4 hc hm hrest h0
  generalize (l.getD j r0).t = t at *
  obtain ⟨k', s', p'⟩ := t
  obtain rfl : k' = k := hkk
  simp only at k0 k1 k2
  have HL := zh k0; have HL1 := zh k1; have HL2 := zh k2
  clear k0 k1 k2
  have hjn : (j : Int) < (l.length : Int) := by omega
  have hw1 : IntKind.i64.wrap ((j : Int) + 1) = (j : Int) + 1 := by rw [IntKind.wrap_i64] <;> omega
  generalize hn : l.length = n at *
  have HN := zh hn; clear hn
  go_enter Tryz.func140, Tryz.ntmps140
  go_wp2_with fail
  refine HK.out.mono ?_
  rintro e' w' ⟨rfl, hd⟩
  have HM1 := zh (HM0.out.onBelow hbw hd.below HM0.out.size)
  have HS1 := zh (HS.out.below hd.below)
  have HG1 := zh (HG.out.below hd.below HG.out.lt)
  have K0 := (HM1.out.low.cell (p := ⟨bb, o + j * 5, none⟩) hbl).trans HL.out
  have K1 := (HM1.out.low.cell (p := ⟨bb, o + j * 5 + 1, none⟩) hbl).trans HL1.out
  have K2 := (HM1.out.low.cell (p := ⟨bb, o + j * 5 + 2, none⟩) hbl).trans HL2.out
  obtain ⟨c0, c1, c2, c3, c4⟩ := rd_cells HS1.out.at_
  rw [HN.out] at c0
  clear hd
  go_wp2_with fail
  have q1 := HS1.out.lt
  have q2 : bb < w'.heap.size := by omega
  have q3 := HG1.out.lt
  obtain ⟨g0, g1, g2, u0, u1, u2⟩ := row3 HG1.out
  have q4 : w.heap.size ≠ w'.heap.size := by omega
  have q5 : b ≠ w'.heap.size := by omega
  have q6 : bb ≠ w'.heap.size := by omega
  have HB3 : Hid (Below w'.heap.size w' ((w'.alloc (.cells #[.int .u8 (k' : Int), .string s', .int .i64 p'] 78)).drew)) := ((zB _ _).alloc (zL _) _).drew
  have HM3 : Hid (Mv b w ((w'.alloc (.cells #[.int .u8 (k' : Int), .string s', .int .i64 p'] 78)).drew)) := (HM1.out.alloc hbw _).drew
  have HS3 := zh (HS1.out.below HB3.out)
  have HG3 := zh (HG1.out.below HB3.out HG1.out.lt)
  have HN5 : Hid (RowAt ((w'.alloc (.cells #[.int .u8 (k' : Int), .string s', .int .i64 p'] 78)).drew) w'.heap.size 78 #[.int .u8 (k' : Int), .string s', .int .i64 p']) := (RowAt.new w' _ _).drew
  go_region
  clear c0 c1 c2 c3 c4 g0 g1 g2 u0 u1 u2 K0 K1 K2 HB3
  generalize (w'.alloc (.cells #[.int .u8 (k' : Int), .string s', .int .i64 p'] 78)).drew = w2 at *
  obtain ⟨c0, c1, c2, c3, c4⟩ := rd_cells HS3.out.at_
  obtain ⟨g0, g1, g2, u0, u1, u2⟩ := row3 HG3.out
  obtain ⟨m0, m1, m2, _, _, _⟩ := row3 HN5.out
  have f1 := HS3.out.at_.free 1
  have hd2 : w.heap.size ≠ b := by omega
  go_wp2_with fail
  have hmf := HM3.out.setCell (p := ⟨b, 1, none⟩) (.inl rfl) hbw (.int .i64 ((j : Int) + 1))
  have hsf := HS3.out.mv ((Mv.refl b _).setCell (p := ⟨b, 1, none⟩) (.inl rfl) HS3.out.lt (.int .i64 ((j : Int) + 1))) (rd_row HS3.out.at_ _)
  have hgf := (((HG3.out.far (p := ⟨b, 1, none⟩) (Nat.ne_of_lt hbw) (.int .i64 ((j : Int) + 1))).put 0 (.int .u8 (k' : Int))).put 1 (.string s')).put 2 (.int .i64 p')
  exact bodyPost_ret (ret_cell rfl _ _ w.heap.size _ _ (0, 0) _ rfl hgf Tryz.underlying78 rfl (tok_info _ _ _)) rfl ⟨⟨k', s', p'⟩, (j : Int) + 1, none, rfl, ((hsf.far hbw).far hbw).far hbw,
   ((hmf.setCell (p := ⟨w.heap.size, 0, none⟩) (.inr (zL _)) hbw _).setCell (p := ⟨w.heap.size, 1, none⟩) (.inr (zL _)) hbw _).setCell (p := ⟨w.heap.size, 2, none⟩) (.inr (zL _)) hbw _, HST.out _ rfl⟩
 ·have HST : Hid (∀ t, Step (takeR k) l i e f t i (failed l i e f)) := fun t => by
   cases f with
   | some p => exact Step.bad (Adv.refl _ _)
   | none => exact Step.fault (Adv.refl _ _) (takeR_miss hm)
  have hne : ((kindOf (rest l i) f : Int) != (k : Int)) = true := by simp; omega
  clear hm
  generalize kindOf (rest l i) f = q at *
  go_enter Tryz.func140, Tryz.ntmps140
  go_wp2_with fail
  refine HK.out.mono ?_
  rintro e' w' ⟨rfl, m, rfl⟩
  have HF := zh (fail_any (HS.out.below (bdrewN (zB _ _) m)))
  go_wp2_with fail
  refine HF.out.mono ?_
  rintro e' w1 ⟨rfl, hs1, hm1, hz1⟩
  have hg1 := (HG.out.drewN m).mv hm1 (Nat.ne_of_gt hbw)
  obtain ⟨g0, g1, g2, u0, u1, u2⟩ := row3 hg1
  have HG1 := zh hg1; clear hg1
  have HM1 := zh ((HM0.out.drewN m).trans hm1)
  have HS1 := zh hs1
  clear hs1 hm1
  go_wp2_with fail
  have hgf := ((HG1.out.put 0 (.int .u8 0)).put 1 (.string ⟨#[]⟩)).put 2 (.int .i64 0)
  refine bodyPost_ret (ret_cell rfl _ _ w.heap.size _ _ (0, 0) _ rfl hgf Tryz.underlying78 rfl (tok_info _ _ _)) rfl ⟨t0, i, failed l i e f, rfl, ?_, ?_, HST.out _⟩
  ·exact ((HS1.out.far hbw).far hbw).far hbw
  ·exact ((HM1.out.setCell (p := ⟨w.heap.size, 0, none⟩) (.inr (zL _)) hbw _).setCell (p := ⟨w.heap.size, 1, none⟩) (.inr (zL _)) hbw _).setCell (p := ⟨w.heap.size, 2, none⟩) (.inr (zL _)) hbw _
end
section
open Go.RowKit LX TR TM
def Reads {α : Type} (F : FuncId) (V : World → Nat → α → Value → Prop) (rd : Rdr α) (N : Nat) : Prop :=
 ∀ (w : World) (b : Nat) (A : Option Addr) (c : Nat) (l : List Tr) (i e : Int) (f : Option Int), Rs w b A c l i e f → (nodes (rest l i)).length ≤ N →
   Calls Tryz.prog F #[.pointer (some ⟨b, 0, none⟩)] w fun e' w' => ∃ v x i2 f2, e' = .returned v ∧ V w' w.heap.size x v ∧ Rs w' b A c l i2 e f2 ∧ Mv b w w' ∧ Step rd l i e f x i2 f2
def wcells (x : Wd) : List Value := [.string x.s, .int .i64 x.p]
def wv (x : Wd) : Array Value := #[.string x.s, .int .i64 x.p]
theorem wcells_length (x : Wd) : (wcells x).length = 2 := rfl
def wcs (l : List Wd) : List Value := l.flatMap wcells
theorem wcs_append (a b : List Wd) : wcs (a ++ b) = wcs a ++ wcs b := by simp [wcs]
theorem wcs_one (x : Wd) : wcs [x] = wcells x := by simp [wcs]
def WordV (_w : World) (_s : Nat) (x : Wd) (v : Value) : Prop := v = .agg (wv x)
theorem name_step {l : List Tr} {i e : Int} {f : Option Int} {t : Tk} {i2 : Int} {f2 : Option Int} (h : Step (takeR 97) l i e f t i2 f2) : Step nameR l i e f ⟨t.s, t.p⟩ i2 f2 := by
 have h2 := h.map (fun t : Tk => (⟨t.s, t.p⟩ : Wd))
 exact h2
theorem name_any (N : Nat) : Reads 141 WordV nameR N := by
 intro w b A c l i e f h _
 have hbw := h.lt
 have HM0 : Hid (Mv b w (w.alloc (.cells #[.string ⟨#[]⟩, .int .i64 0] 23))) := (Mv.refl b w).alloc hbw _
 have HG := zh (RowAt.new w 23 #[.string ⟨#[]⟩, .int .i64 0])
 have HT := zh (take_any (h.mv HM0.out (h.at_.alloc _)) 97 (by decide))
 clear h
 go_enter Tryz.func141, Tryz.ntmps141
 go_wp2_with fail
 refine HT.out.mono ?_
 rintro e' w1 ⟨⟨k, s, p⟩, i2, f2, rfl, hs, hm, hst⟩
 have HG1 := HG.out.mv hm (Nat.ne_of_gt hbw)
 have hsz := HG1.lt
 have HS1 := zh hs
 have HM1 := zh (HM0.out.trans hm)
 have hn5 := RowAt.new w1 78 #[.int .u8 (k : Int), .string s, .int .i64 p]
 have HST := zh (name_step hst)
 obtain ⟨g0, g1, u0, u1⟩ := row2 HG1
 obtain ⟨m0, m1, m2, _, _, _⟩ := row3 hn5
 have HG2 := zh HG1
 clear hs hm hst HG1 hn5
 unfold tv
 go_wp2_with fail
 have hgf := ((HG2.out.put 0 (.string s)).put 1 (.int .i64 p)).alloc (.cells #[.int .u8 (k : Int), .string s, .int .i64 p] 78)
 exact bodyPost_ret (ret_cell rfl _ _ w.heap.size _ _ (0, 0) _ rfl hgf Tryz.underlying23 rfl (word_info _ _)) rfl ⟨.agg (wv ⟨s, p⟩), ⟨s, p⟩, i2, f2, rfl, rfl, ((HS1.out.far hbw).far hbw).alloc _,
  ((HM1.out.setCell (p := ⟨w.heap.size, 0, none⟩) (.inr (zL _)) hbw _).setCell (p := ⟨w.heap.size, 1, none⟩) (.inr (zL _)) hbw _).alloc hbw _, HST.out⟩
end
section
open Go.RowKit LX TR TM
theorem wpList_moreB {P : Program} (w : World) {ops : Array Oper} {rest : List Oper} {o : Oper} {a : Act} {Q : Exit → Act → World → Prop} (hgd : o.guard = none) (s x : Operand) (t : TypeId)
 (ho : o.op = .call { callee := .builtin .append, args := #[s, x], argTypes := #[t, t] })
 (e : TypeId) (z : Value) (size bytes : Nat) (ht : P.underlying t = some (.slice e))
 (hinf : (P.info? e).map (fun i => (i.zero, i.size, i.bytes)) = some (some z, size, bytes)) (hzs : z.cells.size = size) (hsz : 0 < size)
 (base : Nat) (A : Option Addr) (n c : Nat) (cs : List Value) (hs : a.eval s = .slice A n c) (hown : w.ownsRow base e size (.slice A n c) n cs)
 (g : Nat) (news : List Value) (hx : a.eval x = .slice (some ⟨g, 0, none⟩) 1 1) (hl : news.length = size)
 (hnews : ∀ j u, news[j]? = some u → w.cell? ⟨g, j, none⟩ = some u) (h1 : ∀ u ∈ news, u.oneCell' = true)
 (hn : n + 1 ≤ maxLen) (hb2 : (n + 1) * bytes ≤ 140737488355328) (hbase : base ≤ w.heap.size)
 (h : ∀ A' c' w', w'.ownsRow base e size (.slice A' (n + 1) c') (n + 1) (cs ++ news) → Below base w w' → w.grownBy w' (Value.slice A n c).ownBlock → ((Value.slice A' (n + 1) c').ownBlock = (Value.slice A n c).ownBlock ∨ (Value.slice A' (n + 1) c').ownBlock = some w.heap.size) → wpList P ops Q rest (a.put o.dst (.slice A' (n + 1) c')) w') :
 wpList P ops Q (o :: rest) a w := by
 obtain ⟨i, hi, hz, hi1, hi2⟩ := info_parts hinf
 have hadd : ∀ j, (⟨g, 0, none⟩ : Addr).add j = ⟨g, j, none⟩ := fun j => by unfold Addr.add; split <;> simp_all
 refine wpList_plain hgd fun _ hK => ?_
 obtain ⟨v', w', hr, hown', hg, _, hat⟩ := run_append_own_at (P := P) w base t o.type e i z size bytes ht hi hz hi1 hi2 hzs hsz (.slice A n c) n cs hown ⟨g, 0, none⟩ 1 1 news (by rw [hl, Nat.one_mul])
  (fun j u hu => by rw [hadd]; exact hnews j u hu) h1 hn hb2 hbase
 obtain ⟨A', c', rfl, _, _⟩ := own_form hown'
 unfold Oper.wp execOp
 simp only [ho, resolve, invoke, builtin, Sem.run_bind, Sem.run_pure, Result.andThen_ok, List.map_toArray, List.map_cons, List.map_nil, hs, hx, hr]
 exact hK _ _ (h A' c' w' hown' ((zB base w).grown hg hbase (fun k hk => (hown.lt k hk).1)) hg hat)
theorem infoWord : (Tryz.prog.info? 23).map (fun i => (i.zero, i.size, i.bytes)) = some (some (.agg #[.string ⟨#[]⟩, .int .i64 0]), 2, 24) := by kernel_rfl
theorem wc_one (x : Wd) : ∀ u ∈ wcells x, u.oneCell' = true := by
 intro u hu
 simp only [wcells, List.mem_cons, List.not_mem_nil, or_false] at hu
 rcases hu with rfl | rfl <;> rfl
theorem rest_le (l : List Tr) (i : Int) : (rest l i).length ≤ l.length := by
 unfold rest
 split
 ·simp
 ·rw [List.length_drop]; omega
theorem own_like9 {w w' : World} {base size n : Nat} {e : TypeId} {v : Value} {cs : List Value} (h : w.ownsRow base e size v n cs) (hb : ∀ b, b < w.heap.size → v.ownBlock = some b → w'.heap[b]? = w.heap[b]?) : w'.ownsRow base e size v n cs := by
 refine ⟨h.1, ?_⟩
 rcases h.2 with hn | ⟨g, cap, cur, rfl, hg, hh, rest⟩
 ·exact .inl hn
 ·exact .inr ⟨g, cap, cur, rfl, hg, (hb g (Array.getElem?_eq_some_iff.1 hh).1 rfl).trans hh, rest⟩
def WordsV (w : World) (s : Nat) (xs : List Wd) (v : Value) : Prop := ∃ A c, v = .slice A xs.length c ∧ xs.length ≤ c ∧ SlC w (fun k => s ≤ k) A (wcs xs)
theorem listW_any {rd : Rdr Wd} {F : FuncId} {N : Nat} (hf : ∀ args w, (callFunc F args).run Tryz.prog w = .ok (.enter F args) w) (HF : Reads F WordV rd N)
 {w : World} {b : Nat} {A : Option Addr} {c : Nat} {l : List Tr} {i e : Int} {f : Option Int} (h : Rs w b A c l i e f) (hN : (nodes (rest l i)).length ≤ N) (hbig : True) :
 Calls Tryz.prog 144 #[.pointer (some ⟨b, 0, none⟩), .func (.func F) #[] #[]] w fun e' w' => ∃ v x i2 f2, e' = .returned v ∧ WordsV w' w.heap.size x v ∧ Rs w' b A c l i2 e f2 ∧ Mv b w w' ∧ Step (someR rd) l i e f x i2 f2 := by
 have hbw := h.lt
 have HC := zh (HF w b A c l i e f h hN)
 have HLEN := zh h.len.1
 have HFF := zh HF; clear HF
 clear h
 go_enter Tryz.func144, Tryz.ntmps144
 go_wp2_with fail
 refine HC.out.mono ?_
 rintro e' w1 ⟨v, x, i2, f2, rfl, rfl, hs, hm, hst⟩
 have HL0 := zh (LSt.start hst)
 skip
 have hsz1 := hm.size
 have HS1 := zh (hs.alloc (.cells (wcells x).toArray 23))
 have HM1 := zh (hm.alloc hbw (.cells (wcells x).toArray 23))
 have HO1 : Hid ((w1.alloc (.cells (wcells x).toArray 23)).ownsRow w.heap.size 23 2 (.slice (some ⟨w1.heap.size, 0, none⟩) 1 1) 1 (wcs [x])) :=
  ⟨rfl, .inr ⟨w1.heap.size, 1, _, rfl, hsz1, heap_alloc_new w1 _, zL _, by decide, rfl, rfl⟩⟩
 have hhh0 : True := trivial
 have HG0 := zh hhh0
 clear hs hm hst hhh0
 unfold wv
 go_wp2_with fail
 go_loopg [5] ((rest l i).length + 2) (fun mm sv wr => ∃ (zs : List Wd) (X : Option Addr) (d : Nat) (i2 : Int) (f2 : Option Int), mm ≤ (rest l i).length + 2 ∧ sv = .slice X zs.length d ∧ Hid (f2 = none → (rest l i2).length < mm) ∧ Hid (wr.ownsRow w.heap.size 23 2 (.slice X zs.length d) zs.length (wcs zs)) ∧ Hid (Rs wr b A c l i2 e f2) ∧ Hid (Mv b w wr) ∧ Hid (LSt rd l i e f (id zs) i2 f2) ∧ Hid (True))
 case atStart => exact ⟨[x], some ⟨w1.heap.size, 0, none⟩, 1, i2, f2, by omega, rfl, fun _ => by have := HL0.out.adv; obtain ⟨m, _, _, hd⟩ := this.drop; rw [hd, List.length_drop]; omega, HO1.out, HS1.out, HM1.out, HL0.out, HG0.out⟩
 case round =>
  obtain ⟨zs, X, d, i2, f2, hmm, rfl, HME, HO, HS, HM, HL, HD⟩ := hrel
  have HK := zh (kind_any HS.out)
  have hszr : w.heap.size ≤ wr.heap.size := HM.out.size
  by_cases hk : kindOf (rest l i2) f2 = 44
  ·have hfew : zs.length ≤ l.length + 1 := by
        have h1 := HL.out.few
        obtain ⟨m, rfl, hm⟩ := HL.out.adv
        have h2 := rest_le l i
        have h3 : f2 = none := by
         cases f2 with
         | none => rfl
         | some p => cases hr : rest l (i + m) <;> rw [hr] at hk <;> cases hk
        rcases h1 with h1 | h1
        ·simp only [id] at h1
         omega
        ·exact absurd h3 h1
   rw [hk] at HK
   have HKK := zh hk; clear hk
   have hlen := HLEN.out
   generalize hn : zs.length = n at *
   have HN := zh hn; clear hn
   go_wp2_with fail
   refine HK.out.mono ?_
   rintro e' w2 ⟨rfl, hd2⟩
   have hs2 := HS.out.dr hd2
   have HTK := zh (take_any hs2 44 (by decide))
   have HM2 := zh (HM.out.dr hbw hd2)
   have HMR2 := zh (Mv.below (b := b) HS.out.lt hd2.below)
   clear hd2 hs2
   go_wp2_with fail
   refine HTK.out.mono ?_
   rintro e' w3 ⟨t, i3, f3, rfl, hs3, hm3, hst3⟩
   have HC3 := zh (HFF.out w3 b A c l i3 e f3 hs3 (by
        have h1 := (HL.out.adv.trans hst3.1).nodes
        omega))
   have HM3 := zh (HM2.out.trans hm3)
   have HMR3 := zh (HMR2.out.trans hm3)
   have HST3 := zh hst3
   clear hs3 hm3 hst3
   go_wp2_with fail
   refine HC3.out.mono ?_
   rintro e' w4 ⟨v4, x4, i4, f4, rfl, rfl, hs4, hm4, hst4⟩
   have hMR4 := HMR3.out.trans hm4
   have hsz4 := hMR4.size
   have hsz34 := hm4.size
   have hsz3 := HMR3.out.size
   have hown4 := own_like9 HO.out (fun k hk e => hMR4.block k hk (by have := HO.out.lt k e; omega))
   have HNX := zh (HL.out.next HKK.out HST3.out hst4)
   have HO4 := zh (hown4.alloc (.cells (wcells x4).toArray 23))
   have HM4 := zh ((HM3.out.trans hm4).alloc hbw (.cells (wcells x4).toArray 23))
   have HS4 := zh (hs4.alloc (.cells (wcells x4).toArray 23))
   have hhh4 : True := trivial
   have HG4 := zh hhh4
   clear hs4 hm4 hst4 hown4 hhh4
   have hbase : w.heap.size ≤ (w4.alloc (.cells (wcells x4).toArray 23)).heap.size := by simp; omega
   unfold wv
   go_wp2_with (at_builtin; refine wpList_moreB _ rfl _ _ 24 rfl 23 (.agg #[.string ⟨#[]⟩, .int .i64 0]) 2 24 Tryz.underlying24 infoWord rfl (by decide) w.heap.size X n d (wcs zs) rfl ?c1 w4.heap.size (wcells x4) rfl rfl ?c2 (wc_one x4) ?c3 ?c4 ?c5 ?_)
   case c1 => exact HO4.out
   case c2 => intro j u hu; have h := (RowAt.new w4 23 (wcells x4).toArray).cell j; exact h.trans (by simpa using hu)
   case c3 => simp only [maxLen]; omega
   case c4 => omega
   case c5 => exact hbase
   intro X5 d5 w5 hown5 hb5 hg5 hat5
   have HO5 : Hid (w5.ownsRow w.heap.size 23 2 (.slice X5 (zs ++ [x4]).length d5) (zs ++ [x4]).length (wcs (zs ++ [x4]))) := by
        rw [zA7, List.length_singleton, HN.out, wcs_append, wcs_one]; exact zh hown5
   have HS5 := zh (HS4.out.low hb5 hbw)
   have HM5 := zh (HM4.out.onBelow hbw hb5 (zL _))
   have hhh5 : True := trivial
   have HL5 : Hid (LSt rd l i e f (id (zs ++ [x4])) i4 f4) := HNX.out.1
   have HLE : Hid (1 ≤ gk ∧ (rest l i4).length < gk - 1) := by
        have h1 := HME.out HNX.out.2.1
        have h2 := HNX.out.2.2.2
        show _ ∧ _
        omega
   have HG5 := zh hhh5
   clear hown5 hb5 hg5 hat5 hhh5 HO HS HM HL HD HK HKK HO4 HS4 HM4 HNX HC3 HTK
   go_wp2
   go_roundg (gk - 1)
   case measure => have h1 := HLE.out; omega
   case rel => exact ⟨zs ++ [x4], X5, d5, i4, f4, by omega, by rw [zA7, List.length_singleton, HN.out], fun _ => HLE.out.2, HO5.out, HS5, HM5, HL5, HG5⟩
  ·have hne : ((kindOf (rest l i2) f2 : Int) == 44) = false := by rw [beq_eq_false_iff_ne]; omega
   have HST := zh (HL.out.stop hk)
   clear hk
   generalize kindOf (rest l i2) f2 = q at *
   go_wp2_with fail
   refine HK.out.mono ?_
   rintro e' w2 ⟨rfl, hd2⟩
   have HS2 := zh (HS.out.dr hd2)
   have HM2 := zh (HM.out.dr hbw hd2)
   have HO2 := zh (own_below HO.out hd2.below (zL _))
   have hhh2 : True := trivial
   clear hd2
   have HCP := zh (own_cap_le HO2.out)
   have HSC : Hid (SlC w2 (fun k => w.heap.size ≤ k) X (wcs zs)) := SlC.of_own HO2.out fun k hk _ => hk
   have HG2 := zh hhh2
   clear hhh2
   go_wp2_with fail
   go_ret
   exact ⟨_, id zs, i2, f2, rfl, ⟨X, d, rfl, HCP.out, HSC.out⟩, HS2.out, HM2.out, HST.out⟩
theorem er_one (x : Nd) : TM.er [x] = [er1 x] := by rw [TM.er_cons]; simp [TM.er]
def ncells (x : Nd) : List Value := [.int .i64 x.k, .int .i64 x.p, .string x.s, .slice x.A x.ws.length x.c, .slice x.B x.ks.length x.d]
def nv (x : Nd) : Array Value := #[.int .i64 x.k, .int .i64 x.p, .string x.s, .slice x.A x.ws.length x.c, .slice x.B x.ks.length x.d]
theorem ncells_length (x : Nd) : (ncells x).length = 5 := rfl
def ncs (l : List Nd) : List Value := l.flatMap ncells
theorem ncs_append (a b : List Nd) : ncs (a ++ b) = ncs a ++ ncs b := by simp [ncs]
theorem ncs_one (x : Nd) : ncs [x] = ncells x := by simp [ncs]
theorem infoNode : (Tryz.prog.info? 28).map (fun i => (i.zero, i.size, i.bytes)) = some (some (.agg #[.int .i64 0, .int .i64 0, .string ⟨#[]⟩, .slice none 0 0, .slice none 0 0]), 5, 80) := by kernel_rfl
theorem nc_one (x : Nd) : ∀ u ∈ ncells x, u.oneCell' = true := by
 intro u hu
 simp only [ncells, List.mem_cons, List.not_mem_nil, or_false] at hu
 rcases hu with rfl | rfl | rfl | rfl | rfl <;> rfl
def NdOk (w : World) (ok : Nat → Prop) (x : Nd) : Prop := (SlC w ok x.A (wcs x.ws) ∧ x.ws.length ≤ x.c) ∧ SlC w ok x.B (ncs x.ks) ∧ x.ks.length ≤ x.d
def DeepN (w : World) (ok : Nat → Prop) (l : List Nd) : Prop := ∀ x ∈ all l, NdOk w ok x
section
variable {w w' : World} {ok ok' : Nat → Prop} {l m : List Nd} {x : Nd}
theorem DeepN.keep (h : DeepN w ok l) (hs : w.heap.size ≤ w'.heap.size) (hb : ∀ b, b < w.heap.size → ok b → w'.heap[b]? = w.heap[b]?) (hok : ∀ b, b < w.heap.size → ok b → ok' b) : DeepN w' ok' l := fun x hx =>
 ⟨⟨(h x hx).1.1.keep hs hb hok, (h x hx).1.2⟩, (h x hx).2.1.keep hs hb hok, (h x hx).2.2⟩
theorem DeepN.nil (w : World) (ok : Nat → Prop) : DeepN w ok [] := fun x hx => by simp [all] at hx
theorem DeepN.append (h : DeepN w ok l) (h2 : DeepN w ok m) : DeepN w ok (l ++ m) := fun x hx => by
 rw [all_append] at hx
 exact (List.mem_append.1 hx).elim (h x) (h2 x)
theorem DeepN.one (h : NdOk w ok x) (h2 : DeepN w ok x.ks) : DeepN w ok [x] := fun y hy => by
 rw [all_cons] at hy
 simp only [all, List.append_nil, List.mem_cons] at hy
 rcases hy with rfl | hy
 ·exact h
 ·exact h2 y hy
end
def NodeV (w : World) (s : Nat) (x : Nd) (v : Value) : Prop := ∃ z, v = .agg (nv z) ∧ er1 z = x ∧ DeepN w (fun k => s ≤ k) [z]
def NodesV (w : World) (s : Nat) (xs : List Nd) (v : Value) : Prop := ∃ A c zs, v = .slice A zs.length c ∧ zs.length ≤ c ∧ TM.er zs = xs ∧ SlC w (fun k => s ≤ k) A (ncs zs) ∧ DeepN w (fun k => s ≤ k) zs
theorem deep_first {w w1 : World} {z : Nd} (h : DeepN w1 (fun k => w.heap.size ≤ k) [z]) (o : Obj) : DeepN (w1.alloc o) (fun k => w.heap.size ≤ k ∧ (Value.slice (some ⟨w1.heap.size, 0, none⟩) 1 1).ownBlock ≠ some k) [z] :=
 h.keep (by simp) (fun k hk _ => heap_alloc_old _ _ hk) fun k hk h => ⟨h, fun e => by
  have e2 : w1.heap.size = k := by simpa [Value.ownBlock] using e
  omega⟩
theorem deep_more {w wr w3 w4 : World} {b n d size : Nat} {e : TypeId} {X : Option Addr} {cs : List Value} {zs : List Nd} {z : Nd} (h : DeepN wr (fun k => w.heap.size ≤ k ∧ (Value.slice X n d).ownBlock ≠ some k) zs) (hm : Mv b wr w4)
 (h2 : DeepN w4 (fun k => w3.heap.size ≤ k) [z]) (ho : wr.ownsRow w.heap.size e size (.slice X n d) n cs) (h3 : wr.heap.size ≤ w3.heap.size) (hb : b < w.heap.size) (hw : w.heap.size ≤ wr.heap.size) (o : Obj) :
 DeepN (w4.alloc o) (fun k => w.heap.size ≤ k ∧ (Value.slice X n d).ownBlock ≠ some k) (zs ++ [z]) := by
 refine DeepN.keep (w := w4) (DeepN.append (h.keep hm.size (fun k hk h => hm.block k hk (by omega)) fun _ _ h => h) (h2.keep (zL _) (fun _ _ _ => rfl) fun k _ h => ⟨by omega, fun e => ?_⟩)) (by simp) (fun k hk _ => heap_alloc_old _ _ hk) fun _ _ h => h
 have := (ho.lt k e).2
 omega
theorem deep_grown {w w4 w5 : World} {n d d5 m : Nat} {X X5 : Option Addr} {zs : List Nd} (h : DeepN w4 (fun k => w.heap.size ≤ k ∧ (Value.slice X n d).ownBlock ≠ some k) zs) (hg : w4.grownBy w5 (Value.slice X n d).ownBlock)
 (hat : (Value.slice X5 m d5).ownBlock = (Value.slice X n d).ownBlock ∨ (Value.slice X5 m d5).ownBlock = some w4.heap.size) : DeepN w5 (fun k => w.heap.size ≤ k ∧ (Value.slice X5 m d5).ownBlock ≠ some k) zs :=
 h.keep hg.size (fun k hk h => hg.block k hk (fun e => h.2 e.symm)) fun k hk h => ⟨h.1, fun e => by
  rcases hat with e2 | e2
  ·exact h.2 (e2 ▸ e)
  ·rw [e2] at e
   injection e with e
   omega⟩
theorem listN_any {rd : Rdr Nd} {F : FuncId} {N : Nat} (hf : ∀ args w, (callFunc F args).run Tryz.prog w = .ok (.enter F args) w) (HF : Reads F NodeV rd N)
 {w : World} {b : Nat} {A : Option Addr} {c : Nat} {l : List Tr} {i e : Int} {f : Option Int} (h : Rs w b A c l i e f) (hN : (nodes (rest l i)).length ≤ N) (hbig : l.length ≤ 4294967296) :
 Calls Tryz.prog 147 #[.pointer (some ⟨b, 0, none⟩), .func (.func F) #[] #[]] w fun e' w' => ∃ v x i2 f2, e' = .returned v ∧ NodesV w' w.heap.size x v ∧ Rs w' b A c l i2 e f2 ∧ Mv b w w' ∧ Step (someR rd) l i e f x i2 f2 := by
 have hbw := h.lt
 have HC := zh (HF w b A c l i e f h hN)
 have HLEN := zh h.len.1
 have HFF := zh HF; clear HF
 clear h
 go_enter Tryz.func147, Tryz.ntmps147
 go_wp2_with fail
 refine HC.out.mono ?_
 rintro e' w1 ⟨v, x, i2, f2, rfl, ⟨z, rfl, rfl, hdz⟩, hs, hm, hst⟩
 have HL0 := zh (LSt.start hst)
 rw [← er_one] at HL0
 have hsz1 := hm.size
 have HS1 := zh (hs.alloc (.cells (ncells z).toArray 28))
 have HM1 := zh (hm.alloc hbw (.cells (ncells z).toArray 28))
 have HO1 : Hid ((w1.alloc (.cells (ncells z).toArray 28)).ownsRow w.heap.size 28 5 (.slice (some ⟨w1.heap.size, 0, none⟩) 1 1) 1 (ncs [z])) :=
  ⟨rfl, .inr ⟨w1.heap.size, 1, _, rfl, hsz1, heap_alloc_new w1 _, zL _, by decide, rfl, rfl⟩⟩
 have hhh0 := deep_first hdz (.cells (ncells z).toArray 28)
 have HG0 := zh hhh0
 clear hs hm hst hhh0
 unfold nv
 go_wp2_with fail
 go_loopg [5] ((rest l i).length + 2) (fun mm sv wr => ∃ (zs : List Nd) (X : Option Addr) (d : Nat) (i2 : Int) (f2 : Option Int), mm ≤ (rest l i).length + 2 ∧ sv = .slice X zs.length d ∧ Hid (f2 = none → (rest l i2).length < mm) ∧ Hid (wr.ownsRow w.heap.size 28 5 (.slice X zs.length d) zs.length (ncs zs)) ∧ Hid (Rs wr b A c l i2 e f2) ∧ Hid (Mv b w wr) ∧ Hid (LSt rd l i e f (TM.er zs) i2 f2) ∧ Hid (DeepN wr (fun k => w.heap.size ≤ k ∧ (Value.slice X zs.length d).ownBlock ≠ some k) zs))
 case atStart => exact ⟨[z], some ⟨w1.heap.size, 0, none⟩, 1, i2, f2, by omega, rfl, fun _ => by have := HL0.out.adv; obtain ⟨m, _, _, hd⟩ := this.drop; rw [hd, List.length_drop]; omega, HO1.out, HS1.out, HM1.out, HL0.out, HG0.out⟩
 case round =>
  obtain ⟨zs, X, d, i2, f2, hmm, rfl, HME, HO, HS, HM, HL, HD⟩ := hrel
  have HK := zh (kind_any HS.out)
  have hszr : w.heap.size ≤ wr.heap.size := HM.out.size
  by_cases hk : kindOf (rest l i2) f2 = 44
  ·have hfew : zs.length ≤ l.length + 1 := by
        have h1 := HL.out.few
        obtain ⟨m, rfl, hm⟩ := HL.out.adv
        have h2 := rest_le l i
        have h3 : f2 = none := by
         cases f2 with
         | none => rfl
         | some p => cases hr : rest l (i + m) <;> rw [hr] at hk <;> cases hk
        rcases h1 with h1 | h1
        ·rw [TM.er_length] at h1
         omega
        ·exact absurd h3 h1
   rw [hk] at HK
   have HKK := zh hk; clear hk
   have hlen := HLEN.out
   generalize hn : zs.length = n at *
   have HN := zh hn; clear hn
   go_wp2_with fail
   refine HK.out.mono ?_
   rintro e' w2 ⟨rfl, hd2⟩
   have hs2 := HS.out.dr hd2
   have HTK := zh (take_any hs2 44 (by decide))
   have HM2 := zh (HM.out.dr hbw hd2)
   have HMR2 := zh (Mv.below (b := b) HS.out.lt hd2.below)
   clear hd2 hs2
   go_wp2_with fail
   refine HTK.out.mono ?_
   rintro e' w3 ⟨t, i3, f3, rfl, hs3, hm3, hst3⟩
   have HC3 := zh (HFF.out w3 b A c l i3 e f3 hs3 (by
        have h1 := (HL.out.adv.trans hst3.1).nodes
        omega))
   have HM3 := zh (HM2.out.trans hm3)
   have HMR3 := zh (HMR2.out.trans hm3)
   have HST3 := zh hst3
   clear hs3 hm3 hst3
   go_wp2_with fail
   refine HC3.out.mono ?_
   rintro e' w4 ⟨v4, x4, i4, f4, rfl, ⟨z4, rfl, rfl, hdz4⟩, hs4, hm4, hst4⟩
   have hMR4 := HMR3.out.trans hm4
   have hsz4 := hMR4.size
   have hsz34 := hm4.size
   have hsz3 := HMR3.out.size
   have hown4 := own_like9 HO.out (fun k hk e => hMR4.block k hk (by have := HO.out.lt k e; omega))
   have HNX := zh (HL.out.next HKK.out HST3.out hst4)
   have HO4 := zh (hown4.alloc (.cells (ncells z4).toArray 28))
   have HM4 := zh ((HM3.out.trans hm4).alloc hbw (.cells (ncells z4).toArray 28))
   have HS4 := zh (hs4.alloc (.cells (ncells z4).toArray 28))
   have hhh4 := deep_more HD.out hMR4 hdz4 HO.out hsz3 hbw hszr (.cells (ncells z4).toArray 28)
   have HG4 := zh hhh4
   clear hs4 hm4 hst4 hown4 hhh4
   have hbase : w.heap.size ≤ (w4.alloc (.cells (ncells z4).toArray 28)).heap.size := by simp; omega
   unfold nv
   go_wp2_with (at_builtin; refine wpList_moreB _ rfl _ _ 26 rfl 28 (.agg #[.int .i64 0, .int .i64 0, .string ⟨#[]⟩, .slice none 0 0, .slice none 0 0]) 5 80 Tryz.underlying26 infoNode rfl (by decide) w.heap.size X n d (ncs zs) rfl ?c1 w4.heap.size (ncells z4) rfl rfl ?c2 (nc_one z4) ?c3 ?c4 ?c5 ?_)
   case c1 => exact HO4.out
   case c2 => intro j u hu; have h := (RowAt.new w4 28 (ncells z4).toArray).cell j; exact h.trans (by simpa using hu)
   case c3 => simp only [maxLen]; omega
   case c4 => omega
   case c5 => exact hbase
   intro X5 d5 w5 hown5 hb5 hg5 hat5
   have HO5 : Hid (w5.ownsRow w.heap.size 28 5 (.slice X5 (zs ++ [z4]).length d5) (zs ++ [z4]).length (ncs (zs ++ [z4]))) := by
        rw [zA7, List.length_singleton, HN.out, ncs_append, ncs_one]; exact zh hown5
   have HS5 := zh (HS4.out.low hb5 hbw)
   have HM5 := zh (HM4.out.onBelow hbw hb5 (zL _))
   have hhh5 : DeepN w5 (fun k => w.heap.size ≤ k ∧ (Value.slice X5 (zs ++ [z4]).length d5).ownBlock ≠ some k) (zs ++ [z4]) := by rw [zA7, List.length_singleton, HN.out]; exact deep_grown HG4.out hg5 (by simpa using hat5)
   have HL5 : Hid (LSt rd l i e f (TM.er (zs ++ [z4])) i4 f4) := by rw [TM.er_append, er_one]; exact HNX.out.1
   have HLE : Hid (1 ≤ gk ∧ (rest l i4).length < gk - 1) := by
        have h1 := HME.out HNX.out.2.1
        have h2 := HNX.out.2.2.2
        show _ ∧ _
        omega
   have HG5 := zh hhh5
   clear hown5 hb5 hg5 hat5 hhh5 HO HS HM HL HD HK HKK HO4 HS4 HM4 HNX HC3 HTK
   go_wp2
   go_roundg (gk - 1)
   case measure => have h1 := HLE.out; omega
   case rel => exact ⟨zs ++ [z4], X5, d5, i4, f4, by omega, by rw [zA7, List.length_singleton, HN.out], fun _ => HLE.out.2, HO5.out, HS5, HM5, HL5, HG5⟩
  ·have hne : ((kindOf (rest l i2) f2 : Int) == 44) = false := by rw [beq_eq_false_iff_ne]; omega
   have HST := zh (HL.out.stop hk)
   clear hk
   generalize kindOf (rest l i2) f2 = q at *
   go_wp2_with fail
   refine HK.out.mono ?_
   rintro e' w2 ⟨rfl, hd2⟩
   have HS2 := zh (HS.out.dr hd2)
   have HM2 := zh (HM.out.dr hbw hd2)
   have HO2 := zh (own_below HO.out hd2.below (zL _))
   have hhh2 : DeepN w2 (fun k => w.heap.size ≤ k) zs := HD.out.keep hd2.below.size (fun k hk _ => hd2.below.block k hk) (fun _ _ h => h.1)
   clear hd2
   have HCP := zh (own_cap_le HO2.out)
   have HSC : Hid (SlC w2 (fun k => w.heap.size ≤ k) X (ncs zs)) := SlC.of_own HO2.out fun k hk _ => hk
   have HG2 := zh hhh2
   clear hhh2
   go_wp2_with fail
   go_ret
   exact ⟨_, TM.er zs, i2, f2, rfl, ⟨X, d, zs, rfl, HCP.out, rfl, HSC.out, HG2.out⟩, HS2.out, HM2.out, HST.out⟩
end
section
open Go.RowKit LX TR TM
def Content {α : Type} (G : FuncId) (caps : Array Value) (V : World → α → Prop) (rd : Rdr α) (b g N : Nat) (x0 : α) : Prop :=
 ∀ (w : World) (A : Option Addr) (c : Nat) (l : List Tr) (e : Int), V w x0 → Rs w b A c l 0 e none → (nodes l).length ≤ N →
   Calls Tryz.prog G caps w fun e' w' => ∃ x i2 f2, e' = .returned (.tuple #[]) ∧ V w' x ∧ Rs w' b A c l i2 e f2 ∧ Below b w w' ∧ (∀ k, k < w.heap.size → k ≠ b → k ≠ g → w'.heap[k]? = w.heap[k]?) ∧ Step rd l 0 e none x i2 f2
structure Mv2 (b g : Nat) (w w' : World) : Prop where
 low : Below b w w'
 block : ∀ k, k < w.heap.size → k ≠ b → k ≠ g → w'.heap[k]? = w.heap[k]?
theorem Mv.two {b : Nat} {w w' : World} (h : Mv b w w') (g : Nat) : Mv2 b g w w' := ⟨h.low, fun k hk h1 _ => h.block k hk h1⟩
theorem Mv2.trans {b g : Nat} {w w' w2 : World} (h : Mv2 b g w w') (h2 : Mv2 b g w' w2) : Mv2 b g w w2 :=
 ⟨h.low.trans h2.low, fun k hk hb hg => (h2.block k (zT hk h.low.size) hb hg).trans (h.block k hk hb hg)⟩
def turn (w : World) (b : Nat) (A : Option Addr) (n c : Nat) (i e : Int) : World := ((w.setCell ⟨b, 0, none⟩ (.slice A n c)).setCell ⟨b, 1, none⟩ (.int .i64 i)).setCell ⟨b, 2, none⟩ (.int .i64 e)
theorem turn_mv (w : World) (b : Nat) (hb : b < w.heap.size) (A : Option Addr) (n c : Nat) (i e : Int) : Mv b w (turn w b A n c i e) :=
 (((Mv.refl b w).setCell (p := ⟨b, 0, none⟩) (.inl rfl) hb _).setCell (p := ⟨b, 1, none⟩) (.inl rfl) hb _).setCell (p := ⟨b, 2, none⟩) (.inl rfl) hb _
theorem turn_rs {w : World} {b : Nat} {A A2 : Option Addr} {c c2 : Nat} {l l2 : List Tr} {i e i2 e2 : Int} {f : Option Int} (h : Rs w b A c l i e f) (hT : Trs w b A2 l2) (hl : l2.length ≤ 2199023255552 ∧ ∀ x ∈ nodes l2, x.ks.length ≤ 2199023255552) :
 Rs (turn w b A2 l2.length c2 i2 e2) b A2 c2 l2 i2 e2 f := ⟨((h.at_.put 0 _).put 1 _).put 2 _, hT.below (turn_mv w b h.lt _ _ _ _ _).low, hl⟩
theorem ended_rs {w : World} {b : Nat} {A : Option Addr} {c : Nat} {l : List Tr} {i e : Int} {f : Option Int} (h : Rs w b A c l i e f) :
 Calls Tryz.prog 145 #[.pointer (some ⟨b, 0, none⟩)] w fun e' w' => e' = .returned (.bool (decide (rest l i = []))) ∧ Dr w w' := by
 have h1 := ended_any b A l.length c i e (fc f) (fa f) w h.at_
 rw [show decide (i < 0 ∨ (l.length : Int) ≤ i) = decide (rest l i = []) from by rw [Bool.eq_iff_iff]; simp only [decide_eq_true_eq]; exact rest_nil.symm] at h1
 exact h1
theorem within_any {α : Type} {G : FuncId} {caps : Array Value} {V : World → α → Prop} {rd : Rdr α} {g N : Nat} (k : Nat) (hk : 0 < k)
 (hf : ∀ w, (callFunc G caps).run Tryz.prog w = .ok (.enter G caps) w)
 {w : World} {b : Nat} {A : Option Addr} {c : Nat} {l : List Tr} {i e : Int} {f : Option Int} {x0 : α} (h : Rs w b A c l i e f) (hg : b < g) (hgw : g < w.heap.size) (hN : (nodes (rest l i)).length ≤ N + 1)
 (HG : Content G caps V rd b g N x0) (hV : V w x0) (hV2 : ∀ wa wb x, V wa x → (∀ k, k < wa.heap.size → k ≠ b → wb.heap[k]? = wa.heap[k]?) → V wb x) :
 Calls Tryz.prog 136 #[.pointer (some ⟨b, 0, none⟩), .int .u8 (k : Int), .func (.func G) #[] caps] w fun e' w' => ∃ x i2 f2, e' = .returned (.tuple #[]) ∧ V w' x ∧ Rs w' b A c l i2 e f2 ∧ Mv2 b g w w' ∧ Step (withinR k rd) l i e f x i2 f2 := by
 have hbw := h.lt
 have HT := zh (take_any h k hk)
 obtain ⟨c0, c1, c2, c3, c4⟩ := rd_cells h.at_
 have HRS := zh h; clear h
 have HV := zh hV; clear hV
 have HV2 := zh hV2; clear hV2
 have HGG := zh HG; clear HG
 go_enter Tryz.func136, Tryz.ntmps136
 go_wp2_with fail
 refine HT.out.mono ?_
 rintro e' w1 ⟨t, i2, f2, rfl, hs, hm, hst⟩
 cases f2 with
 | some p =>
   obtain ⟨c0', c1', c2', c3', c4'⟩ := rd_cells hs.at_
   simp only [fc, Option.isSome_some, if_true] at c3'
   have HS1 := zh hs
   have HM1 := zh hm
   have HST := zh (within_fault (rd := rd) hst x0)
   have HV1 := zh (HV2.out w w1 x0 HV.out hm.block)
   clear hs hm hst c0 c1 c2 c3 c4
   go_wp2
   exact bodyPost_ret (results_none rfl _ _ _) rfl ⟨x0, i2, some p, rfl, HV1.out, HS1.out, HM1.out.two g, HST.out⟩
 | none =>
   obtain ⟨rfl, j, rfl, hj, rfl, rfl, hkk, hrest⟩ := take_ok hst
   obtain ⟨c0', c1', c2', c3', c4'⟩ := rd_cells hs.at_
   simp only [fc, Option.isSome_none, Bool.false_eq_true, if_false] at c3'
   obtain ⟨bb, o, rfl, hbl, hc⟩ := hs.trs.at hj
   obtain ⟨k0, k1, k2, k3, k4⟩ := hc j hj
   have hjn : (j : Int) < (l.length : Int) := by omega
   have hb1 : b < w1.heap.size := hs.lt
   have hb2 : bb < w1.heap.size := by omega
   have HS1 := zh hs
   have HM1 := zh hm
   have HV1 := zh (HV2.out w w1 x0 HV.out hm.block)
   have HKT := zh (hs.trs.kidAt hj)
   have HKL := zh (hs.len.2 (l.getD j r0) (mem_nodes (getD_mem hj)))
   have HKN : Hid (∀ x ∈ nodes (l.getD j r0).ks, x.ks.length ≤ 2199023255552) := fun x hx => hs.len.2 x (mem_kids (getD_mem hj) hx)
   have HNN : Hid ((nodes (l.getD j r0).ks).length ≤ N) := by
    have h1 := nodes_kid (l := rest l j) (x := l.getD j r0) (by rw [hrest]; simp)
    show _ ≤ N
    omega
   have HSTEP : Hid (∀ (x : α) i3 f3 f4, Step rd (l.getD j r0).ks 0 (l.getD j r0).e none x i3 f3 → ((rest (l.getD j r0).ks i3 = [] ∧ f4 = f3) ∨ (rest (l.getD j r0).ks i3 ≠ [] ∧ f4 = some (f3.getD (offOf (rest (l.getD j r0).ks i3) (l.getD j r0).e)))) → Step (withinR k rd) l j e none x ((j : Int) + 1) f4) := fun x i3 f3 f4 h1 h2 => within_step hkk hrest h1 h2
   clear hs hm hst c0 c1 c2 c3 c4 hc hkk hrest HT
   generalize l.getD j r0 = y at *
   obtain ⟨⟨q, s, p⟩, YA, yc, ks, ye⟩ := y
   simp only [Tr.t, Tr.A, Tr.c, Tr.ks, Tr.e] at *
   generalize hn : l.length = n at *
   generalize hnk : ks.length = nk at *
   have HN := zh hn; clear hn
   have HNK := zh hnk; clear hnk
   have HMZ : Hid (w.heap.size ≤ w1.heap.size) := HM1.out.size
   have hB2 : Below w1.heap.size w1 (((w1.alloc (.cells #[.slice (some ⟨bb, o, none⟩) n c, .int .i64 ((j : Int) + 1), .int .i64 e] 145)).alloc (.cells #[.int .u8 (q : Int), .string s, .int .i64 p, .slice YA nk yc, .int .i64 ye] 104))) := ((zB _ _).alloc (zL _) _).alloc (by simp) _
   have HS2 := zh (HS1.out.below hB2)
   have HM2 := zh (HM1.out.onBelow hbw hB2 HM1.out.size)
   have HV2' := zh (HV2.out _ _ _ HV1.out fun k hk _ => hB2.block k hk)
   have HO1 := zh ((RowAt.new w1 145 #[.slice (some ⟨bb, o, none⟩) n c, .int .i64 ((j : Int) + 1), .int .i64 e]).alloc (.cells #[.int .u8 (q : Int), .string s, .int .i64 p, .slice YA nk yc, .int .i64 ye] 104))
   have HO2 := zh (RowAt.new (w1.alloc (.cells #[.slice (some ⟨bb, o, none⟩) n c, .int .i64 ((j : Int) + 1), .int .i64 e] 145)) 104 #[.int .u8 (q : Int), .string s, .int .i64 p, .slice YA nk yc, .int .i64 ye])
   rw [show (w1.alloc (.cells #[.slice (some ⟨bb, o, none⟩) n c, .int .i64 ((j : Int) + 1), .int .i64 e] 145)).heap.size = w1.heap.size + 1 by simp] at HO2
   have HKT2 := zh (HKT.out.below (hB2.mono (Nat.le_of_lt hb1)))
   clear hB2
   go_upto_region 5 with fail
   clear c0' c1' c2' c3' c4' k0 k1 k2 k3 k4 HS1 HM1 HV1 HKT
   generalize ((w1.alloc (.cells #[.slice (some ⟨bb, o, none⟩) n c, .int .i64 ((j : Int) + 1), .int .i64 e] 145)).alloc (.cells #[.int .u8 (q : Int), .string s, .int .i64 p, .slice YA nk yc, .int .i64 ye] 104)) = w2 at *
   have hz : w1.heap.size < w2.heap.size := HO1.out.lt
   obtain ⟨m0, m1, m2, m3, m4, n0, n1, n2, n3, n4⟩ := row5 HO2.out
   have f0 := HS2.out.at_.free 0
   have f1 := HS2.out.at_.free 1
   have f2 := HS2.out.at_.free 2
   obtain ⟨c0, c1, c2, c3, c4⟩ := rd_cells HS2.out.at_
   go_upto_region 6 with fail
   clear m0 m1 m2 m3 m4 n0 n1 n2 n3 n4 c0 c1 c2 c3 c4 f0 f1 f2
   have HTM := zh (turn_mv w2 b (Nat.lt_trans hb1 hz) YA nk yc 0 ye)
   have HRS3 : Hid (Rs (turn w2 b YA nk yc 0 ye) b YA yc ks 0 ye none) := by
    have h1 := turn_rs (c2 := yc) (i2 := 0) (e2 := ye) HS2.out HKT2.out (by rw [HNK.out]; exact ⟨HKL.out, HKN.out⟩)
    rw [HNK.out] at h1
    exact h1
   have HV3 := zh (HV2.out _ _ _ HV2'.out HTM.out.block)
   have HO3 := zh (HO1.out.mv HTM.out (Nat.ne_of_gt hb1))
   have HM3 := zh (HM2.out.trans HTM.out)
   have HL3 := zh (HS2.out.trs.below HTM.out.low)
   have HLL := zh HS2.out.len
   change Code.wp _ _ _ _ (turn w2 b YA nk yc 0 ye)
   generalize turn w2 b YA nk yc 0 ye = w3 at *
   have HM0S : Hid (g < w1.heap.size) := zT hgw HMZ.out
   clear HTM HS2 HM2 HV2' HO2 HKT2 HO1 hz
   have HCC := zh (HGG.out w3 YA yc ks ye HV3.out HRS3.out HNN.out)
   go_wp2_with fail
   refine HCC.out.mono ?_
   rintro e' w4 ⟨x, i3, f3, rfl, hv4, hs4, hlow, hblk, hst⟩
   have HE4 := zh (ended_rs hs4)
   have HO4 : Hid (RowAt w4 w1.heap.size 145 #[.slice (some ⟨bb, o, none⟩) n c, .int .i64 ((j : Int) + 1), .int .i64 e]) := (hblk _ HO3.out.lt (Nat.ne_of_gt hb1) (by have := HM0S.out; omega)).trans HO3.out
   have HM4 : Hid (Mv2 b g w w4) := (HM3.out.two g).trans ⟨hlow, hblk⟩
   have HL4 := zh (HL3.out.below hlow)
   have HS4 := zh hs4
   have HV4 := zh hv4
   have HST := zh hst
   clear hv4 hs4 hlow hblk hst HCC HO3 HM3 HL3 HV3 HRS3
   by_cases hend : rest ks i3 = []
   ·rw [zE hend] at HE4
    have HSF := zh (HSTEP.out x i3 f3 f3 HST.out (.inl ⟨hend, rfl⟩))
    clear hend
    go_wp2_with fail
    refine HE4.out.mono ?_
    rintro e' w5 ⟨rfl, hd⟩
    have HS5 : Hid (Rs w5 b YA yc ks i3 ye f3) := HS4.out.dr hd
    have HL5 := zh (HL4.out.below ((hd.below).mono (by have := HS4.out.lt; omega)))
    have HM5 : Hid (Mv2 b g w w5) := (HM4.out.trans (Mv.two (Mv.below HS4.out.lt hd.below) g))
    have HV5 : Hid (V w5 x) := HV2.out _ _ _ HV4.out fun k hk _ => hd.below.block k hk
    have HO5 := zh (HO4.out.below hd.below HO4.out.lt)
    clear hd HS4 HL4 HM4 HV4 HO4 HE4
    obtain ⟨n0, n1, n2, _, _, _⟩ := row3 HO5.out
    have g0 := HS5.out.at_.free 0
    have g1 := HS5.out.at_.free 1
    have g2 := HS5.out.at_.free 2
    obtain ⟨c0, c1, c2, c3, c4⟩ := rd_cells HS5.out.at_
    go_wp2_with fail
    go_end0
    have hrf := turn_rs (c2 := c) (i2 := (j : Int) + 1) (e2 := e) HS5.out HL5.out HLL.out
    rw [HN.out] at hrf
    have hmf := turn_mv w5 b HS5.out.lt (some ⟨bb, o, none⟩) n c ((j : Int) + 1) e
    exact ⟨x, (j : Int) + 1, _, rfl, HV2.out _ _ _ HV5.out hmf.block, hrf, HM5.out.trans (hmf.two g), HSF.out⟩
   ·rw [zF hend] at HE4
    have HSF := zh (HSTEP.out x i3 f3 _ HST.out (.inr ⟨hend, rfl⟩))
    clear hend
    go_wp2_with fail
    refine HE4.out.mono ?_
    rintro e' w5' ⟨rfl, hd⟩
    have HF5 := zh (fail_any (HS4.out.dr hd))
    have HD5 := zh hd
    clear hd
    go_wp2_with fail
    refine HF5.out.mono ?_
    rintro e' w5 ⟨rfl, hs5, hm5, hz5⟩
    have hmm := (Mv.below HS4.out.lt HD5.out.below).trans hm5
    have HS5 : Hid (Rs w5 b YA yc ks i3 ye (some (f3.getD (offOf (rest ks i3) ye)))) := hs5
    have HL5 := zh (HL4.out.below ((hmm.low).mono (by have := HS4.out.lt; omega)))
    have HM5 : Hid (Mv2 b g w w5) := (HM4.out.trans (hmm.two g))
    have HV5 : Hid (V w5 x) := HV2.out _ _ _ HV4.out hmm.block
    have HO5 := zh (HO4.out.mv hmm (Nat.ne_of_gt hb1))
    clear hs5 hm5 hz5 hmm HS4 HL4 HM4 HV4 HO4 HE4
    obtain ⟨n0, n1, n2, _, _, _⟩ := row3 HO5.out
    have g0 := HS5.out.at_.free 0
    have g1 := HS5.out.at_.free 1
    have g2 := HS5.out.at_.free 2
    obtain ⟨c0, c1, c2, c3, c4⟩ := rd_cells HS5.out.at_
    go_wp2_with fail
    go_end0
    have hrf := turn_rs (c2 := c) (i2 := (j : Int) + 1) (e2 := e) HS5.out HL5.out HLL.out
    rw [HN.out] at hrf
    have hmf := turn_mv w5 b HS5.out.lt (some ⟨bb, o, none⟩) n c ((j : Int) + 1) e
    exact ⟨x, (j : Int) + 1, _, rfl, HV2.out _ _ _ HV5.out hmf.block, hrf, HM5.out.trans (hmf.two g), HSF.out⟩
end
section
open Go.RowKit LX TR TM
theorem SlC.weak {w : World} {ok ok' : Nat → Prop} {A : Option Addr} {cs : List Value} (h : SlC w ok A cs) (hok : ∀ b, b < w.heap.size → ok b → ok' b) : SlC w ok' A cs := h.keep (zL _) (fun _ _ _ => rfl) hok
theorem DeepN.weak {w : World} {ok ok' : Nat → Prop} {l : List Nd} (h : DeepN w ok l) (hok : ∀ b, b < w.heap.size → ok b → ok' b) : DeepN w ok' l := h.keep (zL _) (fun _ _ _ => rfl) hok
theorem WordsV.mono {w : World} {s s' : Nat} {x : List Wd} {v : Value} (h : WordsV w s x v) (hs : s' ≤ s) : WordsV w s' x v := by
 obtain ⟨A, c, h1, h2, h3⟩ := h
 exact ⟨A, c, h1, h2, h3.weak fun _ _ h => zM hs h⟩
theorem NodesV.mono {w : World} {s s' : Nat} {x : List Nd} {v : Value} (h : NodesV w s x v) (hs : s' ≤ s) : NodesV w s' x v := by
 obtain ⟨A, c, zs, h1, h2, h3, h4, h5⟩ := h
 exact ⟨A, c, zs, h1, h2, h3, h4.weak fun _ _ h => zM hs h, h5.weak fun _ _ h => zM hs h⟩
theorem NodeV.mono {w : World} {s s' : Nat} {x : Nd} {v : Value} (h : NodeV w s x v) (hs : s' ≤ s) : NodeV w s' x v := by
 obtain ⟨z, h1, h2, h3⟩ := h
 exact ⟨z, h1, h2, h3.weak fun _ _ h => zM hs h⟩
theorem opt_none {α : Type} {rd : Rdr α} {l : List Tr} {i e : Int} {f : Option Int} (h : rest l i = [] ∨ kindOf (rest l i) f = 124) : Step (optR rd) l i e f [] i f := by
 cases f with
 | some p => exact Step.bad (Adv.refl _ _)
 | none =>
   refine Step.ok (Adv.refl _ _) ?_
   cases hr : rest l i with
   | nil => rfl
   | cons x r =>
     rw [hr] at h
     have hx : x.t.k = 124 := by
        rcases h with h | h
        ·cases h
        ·exact h
     simp only [optR]
     rw [if_pos hx]
theorem opt_some {α : Type} {rd : Rdr α} {l : List Tr} {i e : Int} {f : Option Int} {x : List α} {i2 : Int} {f2 : Option Int} (h1 : rest l i ≠ []) (h2 : kindOf (rest l i) f ≠ 124) (h : Step (someR rd) l i e f x i2 f2) : Step (optR rd) l i e f x i2 f2 := by
 cases f with
 | some p =>
   obtain rfl := h.2.1 p rfl
   exact Step.bad h.1
 | none =>
   refine h.of_eq ?_
   cases hr : rest l i with
   | nil => exact absurd hr h1
   | cons y r =>
     rw [hr] at h2
     have hx : ¬ y.t.k = 124 := h2
     simp only [optR]
     rw [if_neg hx]
theorem optW_any {rd : Rdr Wd} {F : FuncId} {N : Nat} (hf : ∀ args w, (callFunc F args).run Tryz.prog w = .ok (.enter F args) w) (HF : Reads F WordV rd N)
 {w : World} {b : Nat} {A : Option Addr} {c : Nat} {l : List Tr} {i e : Int} {f : Option Int} (h : Rs w b A c l i e f) (hN : (nodes (rest l i)).length ≤ N) (hbig : True) :
 Calls Tryz.prog 155 #[.pointer (some ⟨b, 0, none⟩), .func (.func F) #[] #[]] w fun e' w' => ∃ v x i2 f2, e' = .returned v ∧ WordsV w' w.heap.size x v ∧ Rs w' b A c l i2 e f2 ∧ Mv b w w' ∧ Step (optR rd) l i e f x i2 f2 := by
 have hbw := h.lt
 have HE := zh (ended_rs h)
 have HRS := zh h; clear h
 by_cases hend : rest l i = []
 ·rw [zE hend] at HE
  have HST : Hid (Step (optR rd) l i e f [] i f) := opt_none (.inl hend)
  clear hend
  go_enter Tryz.func155, Tryz.ntmps155
  go_wp2_with fail
  refine HE.out.mono ?_
  rintro e' w1 ⟨rfl, hd⟩
  have HS1 := zh (HRS.out.dr hd)
  have HM1 := zh ((Mv.refl b w).dr hbw hd)
  clear hd
  go_wp2_with fail
  go_ret
  exact ⟨_, [], i, f, rfl, ⟨none, 0, rfl, zL _, SlC.nil _ _ _⟩, HS1.out, HM1.out, HST.out⟩
 ·rw [zF hend] at HE
  by_cases hk : kindOf (rest l i) f = 124
  ·have HST : Hid (Step (optR rd) l i e f [] i f) := opt_none (.inr hk)
   go_enter Tryz.func155, Tryz.ntmps155
   go_wp2_with fail
   refine HE.out.mono ?_
   rintro e' w1 ⟨rfl, hd⟩
   have hs1 := HRS.out.dr hd
   have HK1 := zh (kind_any hs1)
   rw [hk] at HK1
   have HM1 := zh ((Mv.refl b w).dr hbw hd)
   have HS1 := zh hs1
   clear hd hs1 hk hend
   go_wp2_with fail
   refine HK1.out.mono ?_
   rintro e' w2 ⟨rfl, hd⟩
   have HM2 := zh (HM1.out.dr hbw hd)
   have HS2 := zh (HS1.out.dr hd)
   clear hd
   go_wp2_with fail
   go_ret
   exact ⟨_, [], i, f, rfl, ⟨none, 0, rfl, zL _, SlC.nil _ _ _⟩, HS2.out, HM2.out, HST.out⟩
  ·have hne : ((kindOf (rest l i) f : Int) == 124) = false := by rw [beq_eq_false_iff_ne]; omega
   have HST : Hid (∀ x i2 f2, Step (someR rd) l i e f x i2 f2 → Step (optR rd) l i e f x i2 f2) := fun x i2 f2 h => opt_some hend hk h
   go_enter Tryz.func155, Tryz.ntmps155
   go_wp2_with fail
   refine HE.out.mono ?_
   rintro e' w1 ⟨rfl, hd⟩
   have HS1 := zh (HRS.out.dr hd)
   have HK1 := zh (kind_any HS1.out)
   have HM1 := zh ((Mv.refl b w).dr hbw hd)
   clear hd hk hend
   generalize kindOf (rest l i) f = q at *
   go_wp2_with fail
   refine HK1.out.mono ?_
   rintro e' w2 ⟨rfl, hd⟩
   have HM2 := zh (HM1.out.dr hbw hd)
   have HC2 := zh (listW_any hf HF (HS1.out.dr hd) hN hbig)
   have HZ2 := zh HM2.out.size
   clear hd
   go_wp2_with fail
   refine HC2.out.mono ?_
   rintro e' w3 ⟨v, x, i2, f2, rfl, hv, hs3, hm3, hst⟩
   have HV3 := zh (WordsV.mono hv HZ2.out)
   have HS3 := zh hs3
   have HM3 := zh (HM2.out.trans hm3)
   have HST3 := zh (HST.out _ _ _ hst)
   clear hv hs3 hm3 hst
   go_wp2_with fail
   go_ret
   exact ⟨v, x, i2, f2, rfl, HV3.out, HS3.out, HM3.out, HST3.out⟩
theorem optN_any {rd : Rdr Nd} {F : FuncId} {N : Nat} (hf : ∀ args w, (callFunc F args).run Tryz.prog w = .ok (.enter F args) w) (HF : Reads F NodeV rd N)
 {w : World} {b : Nat} {A : Option Addr} {c : Nat} {l : List Tr} {i e : Int} {f : Option Int} (h : Rs w b A c l i e f) (hN : (nodes (rest l i)).length ≤ N) (hbig : l.length ≤ 4294967296) :
 Calls Tryz.prog 138 #[.pointer (some ⟨b, 0, none⟩), .func (.func F) #[] #[]] w fun e' w' => ∃ v x i2 f2, e' = .returned v ∧ NodesV w' w.heap.size x v ∧ Rs w' b A c l i2 e f2 ∧ Mv b w w' ∧ Step (optR rd) l i e f x i2 f2 := by
 have hbw := h.lt
 have HE := zh (ended_rs h)
 have HRS := zh h; clear h
 by_cases hend : rest l i = []
 ·rw [zE hend] at HE
  have HST : Hid (Step (optR rd) l i e f [] i f) := opt_none (.inl hend)
  clear hend
  go_enter Tryz.func138, Tryz.ntmps138
  go_wp2_with fail
  refine HE.out.mono ?_
  rintro e' w1 ⟨rfl, hd⟩
  have HS1 := zh (HRS.out.dr hd)
  have HM1 := zh ((Mv.refl b w).dr hbw hd)
  clear hd
  go_wp2_with fail
  go_ret
  exact ⟨_, [], i, f, rfl, ⟨none, 0, [], rfl, zL _, by simp [TM.er], SlC.nil _ _ _, DeepN.nil _ _⟩, HS1.out, HM1.out, HST.out⟩
 ·rw [zF hend] at HE
  by_cases hk : kindOf (rest l i) f = 124
  ·have HST : Hid (Step (optR rd) l i e f [] i f) := opt_none (.inr hk)
   go_enter Tryz.func138, Tryz.ntmps138
   go_wp2_with fail
   refine HE.out.mono ?_
   rintro e' w1 ⟨rfl, hd⟩
   have hs1 := HRS.out.dr hd
   have HK1 := zh (kind_any hs1)
   rw [hk] at HK1
   have HM1 := zh ((Mv.refl b w).dr hbw hd)
   have HS1 := zh hs1
   clear hd hs1 hk hend
   go_wp2_with fail
   refine HK1.out.mono ?_
   rintro e' w2 ⟨rfl, hd⟩
   have HM2 := zh (HM1.out.dr hbw hd)
   have HS2 := zh (HS1.out.dr hd)
   clear hd
   go_wp2_with fail
   go_ret
   exact ⟨_, [], i, f, rfl, ⟨none, 0, [], rfl, zL _, by simp [TM.er], SlC.nil _ _ _, DeepN.nil _ _⟩, HS2.out, HM2.out, HST.out⟩
  ·have hne : ((kindOf (rest l i) f : Int) == 124) = false := by rw [beq_eq_false_iff_ne]; omega
   have HST : Hid (∀ x i2 f2, Step (someR rd) l i e f x i2 f2 → Step (optR rd) l i e f x i2 f2) := fun x i2 f2 h => opt_some hend hk h
   go_enter Tryz.func138, Tryz.ntmps138
   go_wp2_with fail
   refine HE.out.mono ?_
   rintro e' w1 ⟨rfl, hd⟩
   have HS1 := zh (HRS.out.dr hd)
   have HK1 := zh (kind_any HS1.out)
   have HM1 := zh ((Mv.refl b w).dr hbw hd)
   clear hd hk hend
   generalize kindOf (rest l i) f = q at *
   go_wp2_with fail
   refine HK1.out.mono ?_
   rintro e' w2 ⟨rfl, hd⟩
   have HM2 := zh (HM1.out.dr hbw hd)
   have HC2 := zh (listN_any hf HF (HS1.out.dr hd) hN hbig)
   have HZ2 := zh HM2.out.size
   clear hd
   go_wp2_with fail
   refine HC2.out.mono ?_
   rintro e' w3 ⟨v, x, i2, f2, rfl, hv, hs3, hm3, hst⟩
   have HV3 := zh (NodesV.mono hv HZ2.out)
   have HS3 := zh hs3
   have HM3 := zh (HM2.out.trans hm3)
   have HST3 := zh (HST.out _ _ _ hst)
   clear hv hs3 hm3 hst
   go_wp2_with fail
   go_ret
   exact ⟨v, x, i2, f2, rfl, HV3.out, HS3.out, HM3.out, HST3.out⟩
end
section
open Go.RowKit LX TR TM
theorem Mv.fresh {b g : Nat} {w w' w2 : World} (h : Mv b w w') (hbw : b < w.heap.size) (h2 : Mv2 b g w' w2) (hg : w.heap.size ≤ g) : Mv b w w2 :=
 h.on h2.low fun k hk hne => h2.block k (zT hk h.size) hne (by omega)
def BoxW (s b r g : Nat) (w : World) (x : List Wd) : Prop :=
 (∃ A c, RowAt w g 24 #[.slice A x.length c] ∧ x.length ≤ c ∧ SlC w (fun k => s ≤ k ∧ k ≠ g) A (wcs x)) ∧ RowAt w r 139 #[.pointer (some ⟨b, 0, none⟩)]
theorem BoxW.keep {s b r g : Nat} {wa wb : World} {x : List Wd} (h : BoxW s b r g wa x) (hr : r ≠ b) (hg : g ≠ b) (hb : b < s) (hk : ∀ k, k < wa.heap.size → k ≠ b → wb.heap[k]? = wa.heap[k]?) : BoxW s b r g wb x := by
 obtain ⟨⟨A, c, h1, h2, h3⟩, h4⟩ := h
 refine ⟨⟨A, c, (hk g h1.lt hg).trans h1, h2, ?_⟩, (hk r h4.lt hr).trans h4⟩
 intro hne
 obtain ⟨b', o, hA, hlt, hok, hc⟩ := h3 hne
 have hs : wb.heap[b']? = wa.heap[b']? := hk b' hlt (by omega)
 refine ⟨b', o, hA, ?_, hok, fun j u hu => (World.cell?_of_block (a := ⟨b', o + j, none⟩) hs).trans (hc j u hu)⟩
 rw [Array.getElem?_eq_getElem hlt] at hs
 exact (Array.getElem?_eq_some_iff.1 hs).1
theorem names_in {x0 : List Wd} (N s b r g : Nat) (hb : b < s) (hr : s ≤ r) (hg : s ≤ g) (hrg : r ≠ g) : Content 143 #[.pointer (some ⟨r, 0, none⟩), .pointer (some ⟨g, 0, none⟩)] (BoxW s b r g) (someR nameR) b g N x0 := by
 intro w A c l e hv h hN
 obtain ⟨⟨A0, c0, hg0, _, _⟩, hr0⟩ := hv
 have r0 := (hr0.cell 0).trans rfl
 have HC := zh (listW_any (fun _ _ => by kernel_rfl) (name_any N) h (by simpa [rest] using hN) trivial)
 have hbw := h.lt
 have hgw := hg0.lt
 have HG0 := zh hg0
 have HR0 := zh hr0
 clear h hg0 hr0
 go_enter Tryz.func143, Tryz.ntmps143
 go_wp2_with fail
 refine HC.out.mono ?_
 rintro e' w1 ⟨v, x, i2, f2, rfl, ⟨X, d, rfl, hd, hsl⟩, hs, hm, hst⟩
 have HG1 := zh (HG0.out.mv hm (by omega))
 have HR1 := zh (HR0.out.mv hm (by omega))
 have g0 := (HG1.out.cell 0).trans rfl
 have u0 := HG1.out.free 0
 have HS1 := zh hs
 have HM1 := zh hm
 have HST := zh hst
 have HSL : Hid (SlC (w1.setCell ⟨g, 0, none⟩ (.slice X x.length d)) (fun k => s ≤ k ∧ k ≠ g) X (wcs x)) := hsl.keep (by simp [World.setCell]) (fun k _ hk => by
  simp only [World.setCell, Array.getElem?_modify]
  rw [if_neg (by omega)]) fun k _ hk => ⟨by omega, by omega⟩
 clear hs hm hst hsl
 go_wp2_with fail
 go_end0
 exact ⟨x, i2, f2, rfl, ⟨⟨X, d, HG1.out.put 0 _, hd, HSL.out⟩, HR1.out.far (p := ⟨g, 0, none⟩) (Ne.symm hrg) _⟩, HS1.out.far (by omega), HM1.out.low.setCell (p := ⟨g, 0, none⟩) (by show b ≤ g; omega) _,
  fun k hk h1 h2 => by
   rw [show (w1.setCell ⟨g, 0, none⟩ (.slice X x.length d)).heap[k]? = w1.heap[k]? by
      simp only [World.setCell, Array.getElem?_modify]
      rw [if_neg (Ne.symm h2)]]
   exact HM1.out.block k hk h1, HST.out⟩
theorem names_any {w : World} {b : Nat} {A : Option Addr} {c : Nat} {l : List Tr} {i e : Int} {f : Option Int} (h : Rs w b A c l i e f) :
 Calls Tryz.prog 130 #[.pointer (some ⟨b, 0, none⟩)] w fun e' w' => ∃ v x i2 f2, e' = .returned v ∧ WordsV w' w.heap.size x v ∧ Rs w' b A c l i2 e f2 ∧ Mv b w w' ∧ Step namesR l i e f x i2 f2 := by
 have hbw := h.lt
 have hmf : ∀ (fn : Fn) (first cap : Array Value) (w : World), (Instr.makeFunc fn first cap).run Tryz.prog w = .ok (.func fn first cap) w := fun _ _ _ _ => rfl
 have hbz : Below w.heap.size w ((w.alloc (.cells #[.pointer (some ⟨b, 0, none⟩)] 139)).alloc (.cells #[.slice none 0 0] 24)) := ((zB _ _).alloc (zL _) _).alloc (by simp) _
 have HS0 := zh (h.below hbz)
 have HM0 := zh (Mv.below hbw hbz)
 have hr0 := RowAt.new w 139 #[.pointer (some ⟨b, 0, none⟩)]
 have hg0 := RowAt.new (w.alloc (.cells #[.pointer (some ⟨b, 0, none⟩)] 139)) 24 #[.slice none 0 0]
 rw [show (w.alloc (.cells #[.pointer (some ⟨b, 0, none⟩)] 139)).heap.size = w.heap.size + 1 by simp] at hg0
 have hr1 := hr0.alloc (.cells #[.slice none 0 0] 24)
 have HB0 : Hid (BoxW w.heap.size b w.heap.size (w.heap.size + 1) ((w.alloc (.cells #[.pointer (some ⟨b, 0, none⟩)] 139)).alloc (.cells #[.slice none 0 0] 24)) []) :=
  ⟨⟨none, 0, hg0, zL _, SlC.nil _ _ _⟩, hr1⟩
 have HW := zh (within_any (N := (nodes (rest l i)).length) 123 (by decide) (fun _ => by kernel_rfl) HS0.out (by omega) hg0.lt (by omega) (names_in _ w.heap.size b w.heap.size (w.heap.size + 1) hbw (zL _) (by omega) (by omega)) HB0.out
  (fun wa wb x hv hk => hv.keep (by omega) (by omega) hbw hk))
 have r0 := (hr1.cell 0).trans rfl
 clear h hbz hr0 hr1 hg0
 go_enter Tryz.func130, Tryz.ntmps130
 go_wp2_with fail
 refine HW.out.mono ?_
 rintro e' w1 ⟨x, i2, f2, rfl, ⟨⟨X, d, hg1, hd, hsl⟩, _⟩, hs, hm, hst⟩
 have HG1 := zh hg1
 have HS1 := zh hs
 have HM1 := zh (HM0.out.fresh hbw hm (by omega))
 have HST := zh hst
 have g0 := (hg1.cell 0).trans rfl
 have u0 := hg1.free 0
 have HSL : Hid (SlC (w1.setCell ⟨w.heap.size + 1, 0, none⟩ (.slice X x.length d)) (fun k => w.heap.size ≤ k) X (wcs x)) := hsl.keep (by simp [World.setCell]) (fun k _ hk => by
  simp only [World.setCell, Array.getElem?_modify]
  rw [if_neg (Ne.symm hk.2)]) fun k _ hk => hk.1
 clear hg1 hs hm hst hsl HW
 go_wp2_with fail
 have hgf := HG1.out.put 0 (.slice X x.length d)
 have gf := (hgf.cell 0).trans rfl
 exact bodyPost_ret (ret_one rfl _ _ (w.heap.size + 1) _ rfl gf Tryz.underlying24) rfl ⟨_, x, i2, f2, rfl, ⟨X, d, rfl, hd, HSL.out⟩, HS1.out.far (by omega), HM1.out.setCell (p := ⟨w.heap.size + 1, 0, none⟩) (.inr (by show w.heap.size ≤ w.heap.size + 1; omega)) hbw _, HST.out⟩
theorem set_in {x0 : List Wd} (N s b r g : Nat) (hb : b < s) (hr : s ≤ r) (hg : s ≤ g) (hrg : r ≠ g) : Content 154 #[.pointer (some ⟨r, 0, none⟩), .pointer (some ⟨g, 0, none⟩)] (BoxW s b r g) (optR nameR) b g N x0 := by
 intro w A c l e hv h hN
 obtain ⟨⟨A0, c0, hg0, _, _⟩, hr0⟩ := hv
 have r0 := (hr0.cell 0).trans rfl
 have HC := zh (optW_any (fun _ _ => by kernel_rfl) (name_any N) h (by simpa [rest] using hN) trivial)
 have hbw := h.lt
 have hgw := hg0.lt
 have HG0 := zh hg0
 have HR0 := zh hr0
 clear h hg0 hr0
 go_enter Tryz.func154, Tryz.ntmps154
 go_wp2_with fail
 refine HC.out.mono ?_
 rintro e' w1 ⟨v, x, i2, f2, rfl, ⟨X, d, rfl, hd, hsl⟩, hs, hm, hst⟩
 have HG1 := zh (HG0.out.mv hm (by omega))
 have HR1 := zh (HR0.out.mv hm (by omega))
 have g0 := (HG1.out.cell 0).trans rfl
 have u0 := HG1.out.free 0
 have HS1 := zh hs
 have HM1 := zh hm
 have HST := zh hst
 have HSL : Hid (SlC (w1.setCell ⟨g, 0, none⟩ (.slice X x.length d)) (fun k => s ≤ k ∧ k ≠ g) X (wcs x)) := hsl.keep (by simp [World.setCell]) (fun k _ hk => by
  simp only [World.setCell, Array.getElem?_modify]
  rw [if_neg (by omega)]) fun k _ hk => ⟨by omega, by omega⟩
 clear hs hm hst hsl
 go_wp2_with fail
 go_end0
 exact ⟨x, i2, f2, rfl, ⟨⟨X, d, HG1.out.put 0 _, hd, HSL.out⟩, HR1.out.far (p := ⟨g, 0, none⟩) (Ne.symm hrg) _⟩, HS1.out.far (by omega), HM1.out.low.setCell (p := ⟨g, 0, none⟩) (by show b ≤ g; omega) _,
  fun k hk h1 h2 => by
   rw [show (w1.setCell ⟨g, 0, none⟩ (.slice X x.length d)).heap[k]? = w1.heap[k]? by
      simp only [World.setCell, Array.getElem?_modify]
      rw [if_neg (Ne.symm h2)]]
   exact HM1.out.block k hk h1, HST.out⟩
theorem set_any {w : World} {b : Nat} {A : Option Addr} {c : Nat} {l : List Tr} {i e : Int} {f : Option Int} (h : Rs w b A c l i e f) :
 Calls Tryz.prog 150 #[.pointer (some ⟨b, 0, none⟩)] w fun e' w' => ∃ v x i2 f2, e' = .returned v ∧ WordsV w' w.heap.size x v ∧ Rs w' b A c l i2 e f2 ∧ Mv b w w' ∧ Step setR l i e f x i2 f2 := by
 have hbw := h.lt
 have hmf : ∀ (fn : Fn) (first cap : Array Value) (w : World), (Instr.makeFunc fn first cap).run Tryz.prog w = .ok (.func fn first cap) w := fun _ _ _ _ => rfl
 have hbz : Below w.heap.size w ((w.alloc (.cells #[.pointer (some ⟨b, 0, none⟩)] 139)).alloc (.cells #[.slice none 0 0] 24)) := ((zB _ _).alloc (zL _) _).alloc (by simp) _
 have HS0 := zh (h.below hbz)
 have HM0 := zh (Mv.below hbw hbz)
 have hr0 := RowAt.new w 139 #[.pointer (some ⟨b, 0, none⟩)]
 have hg0 := RowAt.new (w.alloc (.cells #[.pointer (some ⟨b, 0, none⟩)] 139)) 24 #[.slice none 0 0]
 rw [show (w.alloc (.cells #[.pointer (some ⟨b, 0, none⟩)] 139)).heap.size = w.heap.size + 1 by simp] at hg0
 have hr1 := hr0.alloc (.cells #[.slice none 0 0] 24)
 have HB0 : Hid (BoxW w.heap.size b w.heap.size (w.heap.size + 1) ((w.alloc (.cells #[.pointer (some ⟨b, 0, none⟩)] 139)).alloc (.cells #[.slice none 0 0] 24)) []) :=
  ⟨⟨none, 0, hg0, zL _, SlC.nil _ _ _⟩, hr1⟩
 have HW := zh (within_any (N := (nodes (rest l i)).length) 123 (by decide) (fun _ => by kernel_rfl) HS0.out (by omega) hg0.lt (by omega) (set_in _ w.heap.size b w.heap.size (w.heap.size + 1) hbw (zL _) (by omega) (by omega)) HB0.out
  (fun wa wb x hv hk => hv.keep (by omega) (by omega) hbw hk))
 have r0 := (hr1.cell 0).trans rfl
 clear h hbz hr0 hr1 hg0
 go_enter Tryz.func150, Tryz.ntmps150
 go_wp2_with fail
 refine HW.out.mono ?_
 rintro e' w1 ⟨x, i2, f2, rfl, ⟨⟨X, d, hg1, hd, hsl⟩, _⟩, hs, hm, hst⟩
 have HG1 := zh hg1
 have HS1 := zh hs
 have HM1 := zh (HM0.out.fresh hbw hm (by omega))
 have HST := zh hst
 have g0 := (hg1.cell 0).trans rfl
 have u0 := hg1.free 0
 have HSL : Hid (SlC (w1.setCell ⟨w.heap.size + 1, 0, none⟩ (.slice X x.length d)) (fun k => w.heap.size ≤ k) X (wcs x)) := hsl.keep (by simp [World.setCell]) (fun k _ hk => by
  simp only [World.setCell, Array.getElem?_modify]
  rw [if_neg (Ne.symm hk.2)]) fun k _ hk => hk.1
 clear hg1 hs hm hst hsl HW
 go_wp2_with fail
 have hgf := HG1.out.put 0 (.slice X x.length d)
 have gf := (hgf.cell 0).trans rfl
 exact bodyPost_ret (ret_one rfl _ _ (w.heap.size + 1) _ rfl gf Tryz.underlying24) rfl ⟨_, x, i2, f2, rfl, ⟨X, d, rfl, hd, HSL.out⟩, HS1.out.far (by omega), HM1.out.setCell (p := ⟨w.heap.size + 1, 0, none⟩) (.inr (by show w.heap.size ≤ w.heap.size + 1; omega)) hbw _, HST.out⟩
end
end Go.Proofs.YtmffnkfohmbbeaaGreatDoor
