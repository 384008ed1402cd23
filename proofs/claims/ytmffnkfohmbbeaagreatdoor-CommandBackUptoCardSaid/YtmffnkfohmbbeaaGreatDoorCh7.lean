/- Texts that all the claims need. Conditions: those that each states. -/
import Derived.Deep.CutRange
import Derived.Maps.AppendAt
import Derived.Test.YtmffnkfohmbbeaaGreatDoorCh6
set_option linter.unusedSimpArgs false
set_option linter.unusedVariables false
set_option maxRecDepth 100000
set_option maxHeartbeats 40000000
namespace Go.Proofs.YtmffnkfohmbbeaaGreatDoor
section
namespace TR
open LX
inductive Tr where
 | mk (t : Tk) (A : Option Addr) (c : Nat) (ks : List Tr) (e : Int)
def Tr.t : Tr → Tk | .mk t _ _ _ _ => t
def Tr.A : Tr → Option Addr | .mk _ A _ _ _ => A
def Tr.c : Tr → Nat | .mk _ _ c _ _ => c
def Tr.ks : Tr → List Tr | .mk _ _ _ ks _ => ks
def Tr.e : Tr → Int | .mk _ _ _ _ e => e
def r0 : Tr := .mk t0 none 0 [] 0
def cl (k : Nat) : Nat := if k = 40 then 41 else if k = 123 then 125 else if k = 91 then 93 else 0
def cls (k : Nat) : Bool := decide (k = 41) || (decide (k = 125) || decide (k = 93))
def chr (k : Nat) : ByteArray := ⟨#[k.toUInt8]⟩
theorem ind {P : List Tr → Prop} (h0 : P []) (h1 : ∀ t A c ks e r, P ks → P r → P (.mk t A c ks e :: r)) : ∀ l, P l
 | [] => h0
 | .mk t A c ks e :: r => h1 t A c ks e r (ind h0 h1 ks) (ind h0 h1 r)
def nodes : List Tr → List Tr
 | [] => []
 | .mk t A c ks e :: r => .mk t A c ks e :: (nodes ks ++ nodes r)
def er : List Tr → List Tr
 | [] => []
 | .mk t _ _ ks e :: r => .mk t none 0 (er ks) e :: er r
def evs : List Tr → List (Tk × Int)
 | [] => []
 | .mk t _ _ ks e :: r => if cl t.k = 0 then (t, 0) :: evs r else (t, 1) :: (evs ks ++ (⟨cl t.k, chr (cl t.k), e⟩, -1) :: evs r)
def flat (l : List Tr) : List Tk := (evs l).map (·.1)
def dep : List Tr → Nat
 | [] => 0
 | .mk t _ _ ks _ :: r => max (if cl t.k = 0 then 0 else 1 + dep ks) (dep r)
def same : List Tr → List Tr → Bool
 | [], [] => true
 | .mk t _ _ ks e :: r, .mk u _ _ js f :: q => (decide (t = u) && (decide (e = f) && same ks js)) && same r q
 | _, _ => false
theorem nodes_append (a b : List Tr) : nodes (a ++ b) = nodes a ++ nodes b := by
 induction a with
 | nil => simp [nodes]
 | cons x a ih => cases x; simp [nodes, ih]
theorem er_append (a b : List Tr) : er (a ++ b) = er a ++ er b := by
 induction a with
 | nil => simp [er]
 | cons x a ih => cases x; simp [er, ih]
theorem evs_append (a b : List Tr) : evs (a ++ b) = evs a ++ evs b := by
 induction a with
 | nil => simp [evs]
 | cons x a ih =>
   cases x
   simp only [List.cons_append, evs, ih]
   split <;> simp
theorem dep_append (a b : List Tr) : dep (a ++ b) = max (dep a) (dep b) := by
 induction a with
 | nil => simp [dep]
 | cons x a ih => cases x; simp only [List.cons_append, dep, ih]; omega
theorem flat_append (a b : List Tr) : flat (a ++ b) = flat a ++ flat b := by simp [flat, evs_append]
theorem er_length (l : List Tr) : (er l).length = l.length := by
 induction l with
 | nil => simp [er]
 | cons x a ih => cases x; simp [er, ih]
theorem nodes_er : ∀ l, (nodes (er l)).length = (nodes l).length := by
 refine ind (by simp [er]) fun t A c ks e r h1 h2 => ?_
 simp only [er, nodes, zA8, zA7, h1, h2]
theorem mem_nodes {l : List Tr} {x : Tr} (h : x ∈ l) : x ∈ nodes l := by
 induction l with
 | nil => cases h
 | cons y l ih =>
   obtain ⟨t, A, c, ks, e⟩ := y
   rw [nodes]
   rcases List.mem_cons.1 h with rfl | h
   ·exact List.mem_cons_self
   ·exact List.mem_cons_of_mem _ (List.mem_append_right _ (ih h))
theorem mem_kids {l : List Tr} {x y : Tr} (h : x ∈ l) (hy : y ∈ nodes x.ks) : y ∈ nodes l := by
 induction l with
 | nil => cases h
 | cons z l ih =>
   obtain ⟨t, A, c, ks, e⟩ := z
   rw [nodes]
   rcases List.mem_cons.1 h with rfl | h
   ·exact List.mem_cons_of_mem _ (List.mem_append_left _ hy)
   ·exact List.mem_cons_of_mem _ (List.mem_append_right _ (ih h))
theorem length_nodes (l : List Tr) : l.length ≤ (nodes l).length := by
 induction l with
 | nil => simp
 | cons x l ih => cases x; simp [nodes]; omega
theorem nodes_kid {l : List Tr} {x : Tr} (h : x ∈ l) : (nodes x.ks).length < (nodes l).length := by
 induction l with
 | nil => cases h
 | cons z l ih =>
   obtain ⟨t, A, c, ks, e⟩ := z
   rw [nodes]
   rcases List.mem_cons.1 h with rfl | h
   ·show (nodes ks).length < _
    simp only [zA8, zA7]; omega
   ·have := ih h
    simp only [zA8, zA7]; omega
def push (f x : Tr) : Tr := .mk f.t f.A f.c (f.ks ++ [x]) f.e
def pushs (f : Tr) (l : List Tr) : Tr := .mk f.t f.A f.c (f.ks ++ l) f.e
def mstep (st : List Tr) (t : Tk) : Option (List Tr) :=
 if cl t.k = 0 then
    if cls t.k = true then
     match st with
     | f :: g :: r => if cl f.t.k = t.k then some (push g (.mk f.t none 0 f.ks t.p) :: r) else none
     | _ => none
    else
     match st with
     | f :: r => some (push f (.mk t none 0 [] t.p) :: r)
     | [] => none
 else if st.length = 25 then none else some (.mk t none 0 [] 0 :: st)
def mrun : List Tk → List Tr → Except Int (List Tr)
 | [], [f] => .ok f.ks
 | [], f :: _ => .error f.t.p
 | [], [] => .ok []
 | t :: l, st => match mstep st t with
   | some st' => mrun l st'
   | none => .error t.p
def parse (l : List Tk) : Except Int (List Tr) := mrun l [r0]
theorem mrun_some {t : Tk} {l : List Tk} {st st' : List Tr} (h : mstep st t = some st') : mrun (t :: l) st = mrun l st' := by
 cases st <;> simp [mrun, h]
theorem mrun_none {t : Tk} {l : List Tk} {st : List Tr} (h : mstep st t = none) : mrun (t :: l) st = .error t.p := by
 cases st <;> simp [mrun, h]
inductive Spells : List Tk → List Tr → Prop
 | nil : Spells [] []
 | leaf {t : Tk} {l : List Tk} {r : List Tr} : cl t.k = 0 → cls t.k = false → Spells l r → Spells (t :: l) (.mk t none 0 [] t.p :: r)
 | node {t c : Tk} {l1 l2 : List Tk} {ks r : List Tr} : ¬ cl t.k = 0 → c.k = cl t.k → Spells l1 ks → Spells l2 r → Spells (t :: (l1 ++ c :: l2)) (.mk t none 0 ks c.p :: r)
theorem Spells.append {a b : List Tk} {x y : List Tr} (h : Spells a x) (h2 : Spells b y) : Spells (a ++ b) (x ++ y) := by
 induction h with
 | nil => exact h2
 | leaf h3 h4 _ ih => exact .leaf h3 h4 ih
 | node h3 h4 h5 _ _ ih =>
   have := Spells.node h3 h4 h5 ih
   simpa using this
theorem cl_cases (k : Nat) : (k = 40 ∧ cl k = 41) ∨ (k = 123 ∧ cl k = 125) ∨ (k = 91 ∧ cl k = 93) ∨ (k ≠ 40 ∧ k ≠ 123 ∧ k ≠ 91 ∧ cl k = 0) := by unfold cl; split <;> (try split) <;> (try split) <;> omega
theorem cls_cl {k : Nat} (h : ¬ cl k = 0) : cl (cl k) = 0 ∧ cls (cl k) = true ∧ cls k = false := by
 rcases cl_cases k with ⟨rfl, h⟩ | ⟨rfl, h⟩ | ⟨rfl, h⟩ | ⟨_, _, _, h2⟩
 ·exact ⟨by decide, by decide, by decide⟩
 ·exact ⟨by decide, by decide, by decide⟩
 ·exact ⟨by decide, by decide, by decide⟩
 ·exact absurd h2 h
def Stk : List Tr → List Tk → Prop
 | [], _ => False
 | [f], p => f.t = t0 ∧ Spells p f.ks ∧ dep f.ks ≤ 24
 | f :: g :: st, p => ∃ p1 s, p = p1 ++ f.t :: s ∧ ¬ cl f.t.k = 0 ∧ Spells s f.ks ∧ dep f.ks + (g :: st).length ≤ 24 ∧ Stk (g :: st) p1
theorem dep_one (x : Tr) (n : Nat) (h : dep [x] ≤ n) (l : List Tr) (hl : dep l ≤ n) : dep (l ++ [x]) ≤ n := by rw [dep_append]; omega
theorem Stk.push {f x : Tr} {st : List Tr} {p s : List Tk} (h : Stk (f :: st) p) (hs : Spells s [x]) (hd : dep [x] + st.length ≤ 24) : Stk (push f x :: st) (p ++ s) := by
 obtain ⟨t, A, c, ks, e⟩ := f
 cases st with
 | nil =>
   obtain ⟨h1, h2, h3⟩ := h
   exact ⟨h1, h2.append hs, by simp only [zA9] at hd; exact dep_one _ _ (by omega) _ h3⟩
 | cons g st =>
   obtain ⟨p1, q, rfl, h1, h2, h3, h4⟩ := h
   refine ⟨p1, q ++ s, by simp [TR.push, Tr.t], h1, h2.append hs, ?_, h4⟩
   have h5 : dep (ks ++ [x]) = max (dep ks) (dep [x]) := dep_append _ _
   show dep (ks ++ [x]) + _ ≤ 24
   have h3' : dep ks + (g :: st).length ≤ 24 := h3
   rw [h5]
   omega
theorem mrun_spells : ∀ (l : List Tk) (st : List Tr) (p : List Tk) (ts : List Tr), Stk st p → st.length ≤ 25 → mrun l st = .ok ts → Spells (p ++ l) ts ∧ dep ts ≤ 24
 | [], [], _, _, h, _, _ => absurd h (by simp [Stk])
 | [], [f], p, ts, h, _, hr => by
   obtain ⟨h1, h2, h3⟩ := h
   obtain rfl : f.ks = ts := by simpa [mrun] using hr
   exact ⟨by simpa using h2, h3⟩
 | [], f :: g :: st, p, ts, h, _, hr => by simp [mrun] at hr
 | t :: l, st, p, ts, h, hl, hr => by
   cases hm : mstep st t with
   | none => rw [mrun_none hm] at hr; cases hr
   | some st' =>
     rw [mrun_some hm] at hr
     have hgo : Stk st' (p ++ [t]) ∧ st'.length ≤ 25 := by
        unfold mstep at hm
        split at hm
        ·rename_i h0
         split at hm
         ·rename_i hc
          match st, h, hl, hm with
          | f :: g :: r, h, hl, hm =>
            simp only at hm
            split at hm
            ·rename_i hk
             obtain rfl := Option.some.inj hm
             obtain ⟨p1, s, rfl, h1, h2, h3, h4⟩ := h
             have hsp : Spells (f.t :: (s ++ t :: [])) [.mk f.t none 0 f.ks t.p] := .node h1 hk.symm h2 .nil
             have h6 := h4.push hsp (by simp only [dep, if_neg h1]; simp only [zA8] at h3; omega)
             exact ⟨by simpa using h6, by simp at hl ⊢; omega⟩
            ·cases hm
          | [f], h, hl, hm => simp at hm
         ·rename_i hc
          match st, h, hl, hm with
          | f :: r, h, hl, hm =>
            obtain rfl := Option.some.inj hm
            have hsp : Spells [t] [.mk t none 0 [] t.p] := .leaf h0 (by simpa using hc) .nil
            exact ⟨h.push hsp (by simp only [dep, if_pos h0]; simp at hl ⊢; omega), by simpa using hl⟩
        ·rename_i h0
         split at hm
         ·cases hm
         ·rename_i h25
          obtain rfl := Option.some.inj hm
          match st, h, hl with
          | g :: r, h, hl =>
            exact ⟨⟨p, [], rfl, h0, .nil, by simp [Tr.ks, dep] at hl h25 ⊢; omega, h⟩, by simp at hl h25 ⊢; omega⟩
     have := mrun_spells l st' (p ++ [t]) ts hgo.1 hgo.2 hr
     simpa using this
theorem parse_spells {l : List Tk} {ts : List Tr} (h : parse l = .ok ts) : Spells l ts ∧ dep ts ≤ 24 := by
 have := mrun_spells l [r0] [] ts ⟨rfl, .nil, by simp [r0, Tr.ks, dep]⟩ (by simp) h
 simpa using this
theorem pushs_nil (f : Tr) : pushs f [] = f := by cases f; simp [pushs, Tr.t, Tr.A, Tr.c, Tr.ks, Tr.e]
theorem pushs_push (f x : Tr) (l : List Tr) : pushs (push f x) l = pushs f (x :: l) := by cases f; simp [pushs, push, Tr.t, Tr.A, Tr.c, Tr.ks, Tr.e]
theorem spells_mrun {s : List Tk} {ts : List Tr} (h : Spells s ts) : ∀ (f : Tr) (st : List Tr) (l : List Tk), st.length + dep ts ≤ 24 → mrun (s ++ l) (f :: st) = mrun l (pushs f ts :: st) := by
 induction h with
 | nil => intro f st l _; rw [pushs_nil]; rfl
 | @leaf t l' r h0 h1 _ ih =>
   intro f st l hd
   rw [dep] at hd
   have hm : mstep (f :: st) t = some (push f (.mk t none 0 [] t.p) :: st) := by simp [mstep, h0, h1]
   rw [List.cons_append, mrun_some hm, ih _ _ _ (by omega), pushs_push]
 | @node t c l1 l2 ks r h0 h1 _ _ ih1 ih2 =>
   intro f st l hd
   rw [dep, if_neg h0] at hd
   have hm : mstep (f :: st) t = some (.mk t none 0 [] 0 :: f :: st) := by
    simp only [mstep, if_neg h0]
    rw [if_neg (by simp only [zA8]; omega)]
   have hc := cls_cl h0
   have hm2 : mstep (pushs (.mk t none 0 [] 0) ks :: f :: st) c = some (push f (.mk t none 0 ks c.p) :: st) := by
    simp [mstep, h1, hc.1, hc.2.1, pushs, Tr.t, Tr.ks]
   rw [List.cons_append, mrun_some hm, List.append_assoc, ih1 _ _ _ (by simp only [zA8]; omega), List.cons_append, mrun_some hm2, ih2 _ _ _ (by omega), pushs_push]
theorem spells_deep {s : List Tk} {ts : List Tr} (h : Spells s ts) : ∀ (f : Tr) (st : List Tr) (l : List Tk), 24 < st.length + dep ts → st.length ≤ 24 → ∃ p, mrun (s ++ l) (f :: st) = .error p := by
 induction h with
 | nil => intro f st l h1 h2; simp only [dep] at h1; omega
 | @leaf t l' r h0 h1 _ ih =>
   intro f st l hd hl
   rw [dep, if_pos h0] at hd
   have hm : mstep (f :: st) t = some (push f (.mk t none 0 [] t.p) :: st) := by simp [mstep, h0, h1]
   rw [List.cons_append, mrun_some hm]
   exact ih _ _ _ (by omega) hl
 | @node t c l1 l2 ks r h0 h1 hs1 _ ih1 ih2 =>
   intro f st l hd hl
   rw [dep, if_neg h0] at hd
   by_cases h24 : st.length = 24
   ·refine ⟨t.p, ?_⟩
    rw [List.cons_append]
    refine mrun_none ?_
    simp only [mstep, if_neg h0]
    rw [if_pos (by simp only [zA8]; omega)]
   ·have hm : mstep (f :: st) t = some (.mk t none 0 [] 0 :: f :: st) := by
        simp only [mstep, if_neg h0]
        rw [if_neg (by simp only [zA8]; omega)]
    rw [List.cons_append, mrun_some hm, List.append_assoc]
    by_cases hk : 24 < (f :: st).length + dep ks
    ·exact ih1 _ _ _ hk (by simp only [zA8]; omega)
    ·have hc := cls_cl h0
     have hm2 : mstep (pushs (.mk t none 0 [] 0) ks :: f :: st) c = some (push f (.mk t none 0 ks c.p) :: st) := by
         simp [mstep, h1, hc.1, hc.2.1, pushs, Tr.t, Tr.ks]
     rw [spells_mrun hs1 _ _ _ (by omega), List.cons_append, mrun_some hm2]
     simp only [zA8] at hk
     exact ih2 _ _ _ (by omega) hl
theorem spells_parse {s : List Tk} {ts : List Tr} (h : Spells s ts) (hd : dep ts ≤ 24) : parse s = .ok ts := by
 have := spells_mrun h r0 [] [] (by simpa using hd)
 rw [List.append_nil] at this
 unfold parse
 rw [this]
 simp [mrun, pushs, r0, Tr.ks]
theorem spells_length {s : List Tk} {ts : List Tr} (h : Spells s ts) : (nodes ts).length ≤ s.length := by
 induction h with
 | nil => simp [nodes]
 | leaf _ _ _ ih => simp [nodes]; omega
 | node _ _ _ _ ih1 ih2 => simp [nodes]; omega
def pt (at' : Nat) : List Tk → Int → Nat → Nat
 | [], _, _ => at'
 | t :: l, d, i => if (d + (if cl t.k = 0 then 0 else 1)) - (if cls t.k = true then 1 else 0) = 0 then i else pt at' l ((d + (if cl t.k = 0 then 0 else 1)) - (if cls t.k = true then 1 else 0)) (i + 1)
theorem pt_spells (at' : Nat) {s : List Tk} {ts : List Tr} (h : Spells s ts) : ∀ (l : List Tk) (d : Int) (i : Nat), 1 ≤ d → pt at' (s ++ l) d i = pt at' l d (i + s.length) := by
 induction h with
 | nil => intro l d i _; rfl
 | @leaf t l' r h0 h1 _ ih =>
   intro l d i hd
   rw [List.cons_append, pt, if_pos h0, h1]
   simp only [Int.add_zero, Bool.false_eq_true, if_false, Int.sub_zero]
   rw [if_neg (by omega), ih _ _ _ hd, zA8, show i + 1 + l'.length = i + (l'.length + 1) by omega]
 | @node t c l1 l2 ks r h0 h1 _ _ ih1 ih2 =>
   intro l d i hd
   have hc := cls_cl h0
   rw [List.cons_append, pt, if_neg h0, hc.2.2]
   simp only [Bool.false_eq_true, if_false, Int.sub_zero]
   rw [if_neg (by omega), List.append_assoc, ih1 _ _ _ (by omega), List.cons_append, pt, h1, if_pos hc.1, if_pos hc.2.1, if_neg (by omega), show d + 1 + 0 - 1 = d by omega, ih2 _ _ _ hd]
   simp only [zA8, zA7]
   congr 1
   omega
theorem pt_node {t c : Tk} {l1 l2 : List Tk} {ks : List Tr} (h0 : ¬ cl t.k = 0) (h1 : c.k = cl t.k) (h : Spells l1 ks) (i : Nat) : pt i (t :: (l1 ++ c :: l2)) 0 i = i + 1 + l1.length := by
 have hc := cls_cl h0
 rw [pt, if_neg h0, hc.2.2]
 simp only [Bool.false_eq_true, if_false, Int.sub_zero]
 rw [if_neg (by omega), pt_spells _ h _ _ _ (by omega), pt, h1, if_pos hc.1, if_pos hc.2.1, if_pos (by omega)]
end TR
end
section
open Go.RowKit LX TR
section
variable {α : Type} {f : α → List Value} {m : Nat}
theorem fm_length (hf : ∀ x, (f x).length = m) : ∀ l : List α, (l.flatMap f).length = l.length * m
 | [] => by simp
 | x :: l => by
   rw [List.flatMap_cons, zA7, fm_length hf l, hf, zA8, Nat.add_mul]; omega
theorem fm_at (hf : ∀ x, (f x).length = m) (z : α) : ∀ (l : List α) (i j : Nat), i < l.length → j < m → (l.flatMap f)[i * m + j]? = (f (l.getD i z))[j]?
 | [], i, j, hi, _ => by simp at hi
 | x :: l, 0, j, _, hj => by
   rw [List.flatMap_cons, List.getElem?_append_left (by rw [hf]; omega)]
   simp
 | x :: l, i + 1, j, hi, hj => by
   have := fm_at hf z l i j (by simpa using hi) hj
   rw [List.flatMap_cons, List.getElem?_append_right (by rw [hf, Nat.add_mul]; omega), hf, show (i + 1) * m + j - m = i * m + j by rw [Nat.add_mul]; omega, this]
   simp
theorem sl_at {w : World} {B : Nat} {A : Option Addr} {l : List α} (hf : ∀ x, (f x).length = m) (z : α) (h : Sl w B A (l.flatMap f)) {k : Nat} (hk : k < l.length) (hm : 0 < m) :
 ∃ b o, A = some ⟨b, o, none⟩ ∧ b < B ∧ ∀ i j u, i < l.length → j < m → (f (l.getD i z))[j]? = some u → w.cell? ⟨b, o + (i * m + j), none⟩ = some u := by
 obtain ⟨b, o, hA, hb, hc⟩ := Sl.at_ h (fun e => by
  have := congrArg List.length e
  rw [fm_length hf] at this
  simp only [zA9, Nat.mul_eq_zero] at this
  omega)
 exact ⟨b, o, hA, hb, fun i j u hi hj hu => hc _ _ (by rw [fm_at hf z l i j hi hj]; exact hu)⟩
end
def rcells (x : Tr) : List Value := [.int .u8 (x.t.k : Int), .string x.t.s, .int .i64 x.t.p, .slice x.A x.ks.length x.c, .int .i64 x.e]
def trv (x : Tr) : Array Value := #[.int .u8 (x.t.k : Int), .string x.t.s, .int .i64 x.t.p, .slice x.A x.ks.length x.c, .int .i64 x.e]
theorem rcells_length (x : Tr) : (rcells x).length = 5 := rfl
def tcs (l : List Tr) : List Value := l.flatMap rcells
theorem tcs_append (a b : List Tr) : tcs (a ++ b) = tcs a ++ tcs b := by simp [tcs]
theorem tcs_one (x : Tr) : tcs [x] = rcells x := by simp [tcs]
theorem tcs_length (l : List Tr) : (tcs l).length = l.length * 5 := fm_length rcells_length l
theorem infoTree : (Tryz.prog.info? 104).map (fun i => (i.zero, i.size, i.bytes)) = some (some (.agg #[.int .u8 0, .string ⟨#[]⟩, .int .i64 0, .slice none 0 0, .int .i64 0]), 5, 64) := by kernel_rfl
def Trs (w : World) (B : Nat) (A : Option Addr) (l : List Tr) : Prop := Sl w B A (tcs l) ∧ ∀ x ∈ nodes l, Sl w B x.A (tcs x.ks) ∧ x.ks.length ≤ x.c
section
variable {w w' : World} {B B' : Nat} {A : Option Addr} {l : List Tr}
theorem Trs.below (h : Trs w B A l) (hb : Below B w w') : Trs w' B A l := ⟨h.1.below hb, fun x hx => ⟨(h.2 x hx).1.below hb, (h.2 x hx).2⟩⟩
theorem Trs.mono (h : Trs w B A l) (hB : B ≤ B') : Trs w B' A l := ⟨h.1.mono hB, fun x hx => ⟨(h.2 x hx).1.mono hB, (h.2 x hx).2⟩⟩
theorem Trs.nil (w : World) (B : Nat) (A : Option Addr) : Trs w B A [] := ⟨Sl.nil _ _ _, fun x hx => by simp [nodes] at hx⟩
theorem Trs.at (h : Trs w B A l) {k : Nat} (hk : k < l.length) : ∃ b o, A = some ⟨b, o, none⟩ ∧ b < B ∧ ∀ i, i < l.length →
 w.cell? ⟨b, o + i * 5, none⟩ = some (.int .u8 ((l.getD i r0).t.k : Int)) ∧ w.cell? ⟨b, o + i * 5 + 1, none⟩ = some (.string (l.getD i r0).t.s) ∧ w.cell? ⟨b, o + i * 5 + 2, none⟩ = some (.int .i64 (l.getD i r0).t.p)
 ∧ w.cell? ⟨b, o + i * 5 + 3, none⟩ = some (.slice (l.getD i r0).A (l.getD i r0).ks.length (l.getD i r0).c) ∧ w.cell? ⟨b, o + i * 5 + 4, none⟩ = some (.int .i64 (l.getD i r0).e) := by
 obtain ⟨b, o, hA, hb, hc⟩ := sl_at rcells_length r0 h.1 hk (by omega)
 refine ⟨b, o, hA, hb, fun i hi => ⟨hc i 0 _ hi (by omega) rfl, ?_, ?_, ?_, ?_⟩⟩
 ·rw [Nat.add_assoc]; exact hc i 1 _ hi (by omega) rfl
 ·rw [Nat.add_assoc]; exact hc i 2 _ hi (by omega) rfl
 ·rw [Nat.add_assoc]; exact hc i 3 _ hi (by omega) rfl
 ·rw [Nat.add_assoc]; exact hc i 4 _ hi (by omega) rfl
theorem Trs.kid (h : Trs w B A l) {x : Tr} (hx : x ∈ l) : Trs w B x.A x.ks := ⟨(h.2 x (mem_nodes hx)).1, fun y hy => h.2 y (mem_kids hx hy)⟩
theorem Trs.cap (h : Trs w B A l) {x : Tr} (hx : x ∈ l) : x.ks.length ≤ x.c := (h.2 x (mem_nodes hx)).2
theorem getD_mem {i : Nat} (hi : i < l.length) : l.getD i r0 ∈ l := by
 rw [List.getD_eq_getElem?_getD, List.getElem?_eq_getElem hi]
 exact List.getElem_mem hi
theorem Trs.kidAt (h : Trs w B A l) {i : Nat} (hi : i < l.length) : Trs w B (l.getD i r0).A (l.getD i r0).ks := h.kid (getD_mem hi)
theorem Trs.tail {x : Tr} {b o : Nat} (h : Trs w B (some ⟨b, o, none⟩) (x :: l)) : Trs w B (some ⟨b, o + 5, none⟩) l := by
 refine ⟨fun _ => ?_, fun y hy => h.2 y ?_⟩
 ·obtain ⟨b', o', hA, hb, hc⟩ := Sl.at_ h.1 (by simp [tcs, rcells])
  injection hA with hA
  injection hA with e1 e2 _
  subst e1 e2
  refine ⟨b, o + 5, rfl, hb, fun j u hu => ?_⟩
  rw [Nat.add_assoc]
  refine hc (5 + j) u ?_
  unfold tcs at hu ⊢
  rw [List.flatMap_cons, List.getElem?_append_right (by rw [rcells_length]; omega), rcells_length, show 5 + j - 5 = j by omega]
  exact hu
 ·obtain ⟨t, A, c, ks, e⟩ := x
  rw [nodes]
  exact List.mem_cons_of_mem _ (List.mem_append_right _ hy)
theorem Trs.append {A2 : Option Addr} {l2 : List Tr} {A3 : Option Addr} (h : Trs w B A l) (h2 : Trs w B A2 l2) (h3 : Sl w B A3 (tcs (l ++ l2))) : Trs w B A3 (l ++ l2) :=
 ⟨h3, fun x hx => by rw [nodes_append] at hx; exact (List.mem_append.1 hx).elim (h.2 x) (h2.2 x)⟩
end
def SlC (w : World) (ok : Nat → Prop) (A : Option Addr) (cs : List Value) : Prop :=
 cs ≠ [] → ∃ b o, A = some ⟨b, o, none⟩ ∧ b < w.heap.size ∧ ok b ∧ ∀ j u, cs[j]? = some u → w.cell? ⟨b, o + j, none⟩ = some u
section
variable {w w' : World} {ok ok' : Nat → Prop} {A : Option Addr} {cs : List Value}
theorem SlC.nil (w : World) (ok : Nat → Prop) (A : Option Addr) : SlC w ok A [] := fun h => absurd rfl h
theorem SlC.keep (h : SlC w ok A cs) (hs : w.heap.size ≤ w'.heap.size) (hb : ∀ b, b < w.heap.size → ok b → w'.heap[b]? = w.heap[b]?) (hok : ∀ b, b < w.heap.size → ok b → ok' b) : SlC w' ok' A cs := fun hne => by
 obtain ⟨b, o, hA, hlt, hk, hc⟩ := h hne
 exact ⟨b, o, hA, by omega, hok b hlt hk, fun j u hu => (World.cell?_of_block (a := ⟨b, o + j, none⟩) (hb b hlt hk)).trans (hc j u hu)⟩
theorem SlC.sl (h : SlC w ok A cs) : Sl w w.heap.size A cs := fun hne => by
 obtain ⟨b, o, hA, hlt, _, hc⟩ := h hne
 exact ⟨b, o, hA, hlt, hc⟩
theorem SlC.of_own {base e size n c : Nat} (h : w.ownsRow base e size (.slice A n c) n cs) (hok : ∀ b, base ≤ b → (Value.slice A n c).ownBlock = some b → ok b) : SlC w ok A cs := fun hne => by
 rcases h.2 with ⟨_, hn⟩ | ⟨g, cap, cur, hv, hg, hh, h1, h2, h3, h4⟩
 ·have := h.1
  rw [hn] at this
  exact absurd (List.eq_nil_of_length_eq_zero (by simpa using this)) hne
 ·injection hv with e1 _ e3
  subst e1 e3
  refine ⟨g, 0, rfl, (Array.getElem?_eq_some_iff.1 hh).1, hok g hg rfl, fun j u hu => ?_⟩
  rw [Nat.zero_add, cell_of_row w g j cur e (0, 0) hh]
  rw [← h4, List.getElem?_take] at hu
  split at hu
  ·simpa using hu
  ·cases hu
end
def Deep (w : World) (ok : Nat → Prop) (l : List Tr) : Prop := ∀ x ∈ nodes l, SlC w ok x.A (tcs x.ks) ∧ x.ks.length ≤ x.c
section
variable {w w' : World} {ok ok' : Nat → Prop} {A : Option Addr} {l m : List Tr}
theorem Deep.keep (h : Deep w ok l) (hs : w.heap.size ≤ w'.heap.size) (hb : ∀ b, b < w.heap.size → ok b → w'.heap[b]? = w.heap[b]?) (hok : ∀ b, b < w.heap.size → ok b → ok' b) : Deep w' ok' l := fun x hx => ⟨(h x hx).1.keep hs hb hok, (h x hx).2⟩
theorem Deep.nil (w : World) (ok : Nat → Prop) : Deep w ok [] := fun x hx => by simp [nodes] at hx
theorem Deep.append (h : Deep w ok l) (h2 : Deep w ok m) : Deep w ok (l ++ m) := fun x hx => by
 rw [nodes_append] at hx
 exact (List.mem_append.1 hx).elim (h x) (h2 x)
theorem Deep.one {x : Tr} (h : SlC w ok x.A (tcs x.ks)) (hc : x.ks.length ≤ x.c) (h2 : Deep w ok x.ks) : Deep w ok [x] := fun y hy => by
 obtain ⟨t, A, c, ks, e⟩ := x
 simp only [nodes, List.append_nil, List.mem_cons] at hy
 rcases hy with rfl | hy
 ·exact ⟨h, hc⟩
 ·exact h2 y hy
theorem Deep.trs (h : Deep w ok l) (hA : Sl w w.heap.size A (tcs l)) : Trs w w.heap.size A l := ⟨hA, fun x hx => ⟨(h x hx).1.sl, (h x hx).2⟩⟩
end
theorem own_cap_le {w : World} {base size n c : Nat} {e : TypeId} {A : Option Addr} {cs : List Value} (h : w.ownsRow base e size (.slice A n c) n cs) : n ≤ c := by
 obtain ⟨A', c', hv, hc, _⟩ := own_form h
 injection hv with _ _ h3
 omega
theorem own_cut {w : World} {base size n c : Nat} {e : TypeId} {A : Option Addr} {cs : List Value} (h : w.ownsRow base e size (.slice A n c) n cs) (m : Nat) (hm : m ≤ n) (hA : A ≠ none) : w.ownsRow base e size (.slice A m c) m (cs.take (m * size)) := by
 have hms : m * size ≤ n * size := Nat.mul_le_mul_right _ hm
 refine ⟨by rw [List.length_take, h.1]; omega, ?_⟩
 rcases h.2 with ⟨hv, _⟩ | ⟨g, cap, cur, hv, hg, hh, h1, h2, h3, h4⟩
 ·injection hv with e1 _ _
  exact absurd e1 hA
 ·injection hv with e1 _ e3
  subst e1 e3
  refine .inr ⟨g, c, cur, rfl, hg, hh, by omega, h2, h3, ?_⟩
  rw [← h4, List.take_take, Nat.min_eq_left hms]
theorem own_at {w : World} {base size n c : Nat} {e : TypeId} {A : Option Addr} {cs : List Value} (h : w.ownsRow base e size (.slice A n c) n cs) (hA : cs ≠ []) : ∃ g, A = some ⟨g, 0, none⟩ ∧ base ≤ g ∧ g < w.heap.size ∧ (∀ o, w.frozen? ⟨g, o, none⟩ = false) ∧ ∀ j u, cs[j]? = some u → w.cell? ⟨g, j, none⟩ = some u := by
 rcases h.2 with ⟨_, hn⟩ | ⟨g, cap, cur, hv, hg, hh, h1, h2, h3, h4⟩
 ·have := h.1
  rw [hn] at this
  exact absurd (List.eq_nil_of_length_eq_zero (by simpa using this)) hA
 ·injection hv with e1 _ e3
  subst e1 e3
  refine ⟨g, rfl, hg, (Array.getElem?_eq_some_iff.1 hh).1, fun o => by simp [World.frozen?, hh], fun j u hu => ?_⟩
  rw [cell_of_row w g j cur e (0, 0) hh]
  rw [← h4, List.getElem?_take] at hu
  split at hu
  ·simpa using hu
  ·cases hu
theorem wp_catAt {P : Program} {o : Oper} {a : Act} {w : World} {K : Act → World → Prop} {Q : Exit → Act → World → Prop} (s x : Operand) (t : TypeId)
 (ho : o.op = .call { callee := .builtin .append, args := #[s, x], argTypes := #[t, t] })
 (e : TypeId) (z : Value) (size bytes : Nat) (ht : P.underlying t = some (.slice e))
 (hinf : (P.info? e).map (fun i => (i.zero, i.size, i.bytes)) = some (some z, size, bytes)) (hzs : z.cells.size = size) (hsz : 0 < size) (hby : bytes ≤ 4096)
 (base : Nat) (A : Option Addr) (n c : Nat) (cs : List Value) (hs : a.eval s = .slice A n c) (hown : w.ownsRow base e size (.slice A n c) n cs)
 (B : Nat) (X : Option Addr) (m k : Nat) (news : List Value) (hx : a.eval x = .slice X m k) (hl : news.length = m * size) (hm : m ≤ 4294967296)
 (hnews : Sl w B X news) (h1 : ∀ u ∈ news, u.oneCell' = true)
 (hn : n ≤ 4294967296) (hbase : base ≤ w.heap.size)
 (h : ∀ A' c' w', w'.ownsRow base e size (.slice A' (n + m) c') (n + m) (cs ++ news) → Below base w w' → w.grownBy w' (Value.slice A n c).ownBlock → ((Value.slice A' (n + m) c').ownBlock = (Value.slice A n c).ownBlock ∨ (Value.slice A' (n + m) c').ownBlock = some w.heap.size) → K (a.put o.dst (.slice A' (n + m) c')) w') :
 o.wp P a w K Q := by
 obtain ⟨i, hi, hz, hi1, hi2⟩ := info_parts hinf
 cases X with
 | some ad =>
   obtain ⟨v', w', hr, hown', hg, _, hat⟩ := run_append_own_at (P := P) w base t o.type e i z size bytes ht hi hz hi1 hi2 hzs hsz (.slice A n c) n cs hown ad m k news hl
    (fun j u hu => by
        obtain ⟨b, off, hA, _, hc⟩ := hnews (by intro e; rw [e] at hu; simp at hu)
        injection hA with hA
        subst hA
        rw [show (⟨b, off, none⟩ : Addr).add j = ⟨b, off + j, none⟩ by unfold Addr.add; split <;> simp_all]
        exact hc j u hu) h1 (by simp only [maxLen]; omega) (zM (Nat.mul_le_mul (show n + m ≤ 8589934592 by omega) hby) (by decide)) hbase
   obtain ⟨A', c', rfl, _, _⟩ := own_form hown'
   unfold Oper.wp execOp
   simp only [ho, resolve, invoke, builtin, Sem.run_bind, Sem.run_pure, Result.andThen_ok, List.map_toArray, List.map_cons, List.map_nil, hs, hx, hr]
   exact h A' c' w' hown' ((zB base w).grown hg hbase (fun k hk => (hown.lt k hk).1)) hg hat
 | none =>
   have hne : news = [] := Classical.byContradiction fun hne => by
    obtain ⟨_, _, hA, _⟩ := hnews hne
    cases hA
   subst hne
   have hm0 : m = 0 := by
    rcases Nat.eq_zero_or_pos m with h | h
    ·exact h
    ·have := Nat.mul_pos h hsz
     simp only [zA9] at hl
     omega
   subst hm0
   have hrun : (Builtin.append_ #[t, t] o.type #[.slice A n c, .slice none 0 k]).run P w = .ok (.slice A n c) w := by
    rcases hown.2 with ⟨hv, hn0⟩ | ⟨g, cap, cur, hv, _, _, hnc, _⟩
    ·injection hv with e1 e2 e3
     subst e1 e2 e3
     simp [Builtin.append_, run_underlying ht, sizeOf, typeInfo, hi, Builtin.lenOf, Builtin.firstCells]
    ·injection hv with e1 e2 e3
     subst e1 e3
     simp [Builtin.append_, run_underlying ht, sizeOf, typeInfo, hi, Builtin.lenOf, Builtin.firstCells, hnc, storeCells]
   unfold Oper.wp
   simp only [execOp, ho, resolve, invoke, builtin, Sem.run_bind, Sem.run_pure, Result.andThen_ok, List.map_toArray, List.map_cons, List.map_nil, hs, hx, hrun]
   refine h A c w (by simpa using hown) (zB _ _) ⟨rfl, rfl, rfl, zL _, fun _ _ _ => rfl⟩ (.inl rfl)
theorem wpList_catAt {P : Program} {ops : Array Oper} {rest : List Oper} {o : Oper} {a : Act} {w : World} {Q : Exit → Act → World → Prop} (hgd : o.guard = none) (s x : Operand) (t : TypeId)
 (ho : o.op = .call { callee := .builtin .append, args := #[s, x], argTypes := #[t, t] })
 (e : TypeId) (z : Value) (size bytes : Nat) (ht : P.underlying t = some (.slice e))
 (hinf : (P.info? e).map (fun i => (i.zero, i.size, i.bytes)) = some (some z, size, bytes)) (hzs : z.cells.size = size) (hsz : 0 < size) (hby : bytes ≤ 4096)
 (base : Nat) (A : Option Addr) (n c : Nat) (cs : List Value) (hs : a.eval s = .slice A n c) (hown : w.ownsRow base e size (.slice A n c) n cs)
 (B : Nat) (X : Option Addr) (m k : Nat) (news : List Value) (hx : a.eval x = .slice X m k) (hl : news.length = m * size) (hm : m ≤ 4294967296)
 (hnews : Sl w B X news) (h1 : ∀ u ∈ news, u.oneCell' = true)
 (hn : n ≤ 4294967296) (hbase : base ≤ w.heap.size)
 (h : ∀ A' c' w', w'.ownsRow base e size (.slice A' (n + m) c') (n + m) (cs ++ news) → Below base w w' → w.grownBy w' (Value.slice A n c).ownBlock → ((Value.slice A' (n + m) c').ownBlock = (Value.slice A n c).ownBlock ∨ (Value.slice A' (n + m) c').ownBlock = some w.heap.size) → wpList P ops Q rest (a.put o.dst (.slice A' (n + m) c')) w') :
 wpList P ops Q (o :: rest) a w :=
 wpList_plain hgd fun _ hK => wp_catAt s x t ho e z size bytes ht hinf hzs hsz hby base A n c cs hs hown B X m k news hx hl hm hnews h1 hn hbase fun A' c' w' h2 h3 h4 h5 => hK _ _ (h A' c' w' h2 h3 h4 h5)
theorem Sl.new (w : World) (t : TypeId) (cs : List Value) : Sl (w.alloc (.cells cs.toArray t)) (w.heap.size + 1) (some ⟨w.heap.size, 0, none⟩) cs := fun _ => ⟨w.heap.size, 0, rfl, by omega, fun j u hu => by
 rw [Nat.zero_add, World.cell?_alloc_at _ _ _ _ rfl]
 simpa using hu⟩
end
section
open Go.RowKit LX TR
theorem closing_any (k : Nat) (w : World) :
 Calls Tryz.prog 81 #[.int .u8 (k : Int)] w fun e w' => e = .returned (.int .u8 ((cl k : Nat) : Int)) ∧ w = w' := by
 rcases cl_cases k with ⟨rfl, h⟩ | ⟨rfl, h⟩ | ⟨rfl, h⟩ | ⟨h1, h2, h3, h⟩
 ·rw [h]
  clear h
  go_enter Tryz.func81, Tryz.ntmps81
  go_wp2
  go_ret
  exact ⟨rfl, rfl⟩
 ·rw [h]
  clear h
  go_enter Tryz.func81, Tryz.ntmps81
  go_wp2
  go_ret
  exact ⟨rfl, rfl⟩
 ·rw [h]
  clear h
  go_enter Tryz.func81, Tryz.ntmps81
  go_wp2
  go_ret
  exact ⟨rfl, rfl⟩
 ·rw [h]
  clear h
  have g1 : ((k : Int) == 40) = false := by rw [beq_eq_false_iff_ne]; omega
  have g2 : ((k : Int) == 123) = false := by rw [beq_eq_false_iff_ne]; omega
  have g3 : ((k : Int) == 91) = false := by rw [beq_eq_false_iff_ne]; omega
  clear h1 h2 h3
  go_enter Tryz.func81, Tryz.ntmps81
  go_wp2
  go_ret
  exact ⟨rfl, rfl⟩
theorem cls_cases (k : Nat) : (k = 41 ∧ cls k = true) ∨ (k = 125 ∧ cls k = true) ∨ (k = 93 ∧ cls k = true) ∨ (k ≠ 41 ∧ k ≠ 125 ∧ k ≠ 93 ∧ cls k = false) := by
 by_cases h1 : k = 41
 ·subst h1; exact .inl ⟨rfl, rfl⟩
 ·by_cases h2 : k = 125
  ·subst h2; exact .inr (.inl ⟨rfl, rfl⟩)
  ·by_cases h3 : k = 93
   ·subst h3; exact .inr (.inr (.inl ⟨rfl, rfl⟩))
   ·exact .inr (.inr (.inr ⟨h1, h2, h3, by simp [cls, h1, h2, h3]⟩))
theorem closes_any (k : Nat) (w : World) :
 Calls Tryz.prog 82 #[.int .u8 (k : Int)] w fun e w' => e = .returned (.bool (cls k)) ∧ w = w' := by
 rcases cls_cases k with ⟨rfl, h⟩ | ⟨rfl, h⟩ | ⟨rfl, h⟩ | ⟨h1, h2, h3, h⟩
 ·rw [h]
  clear h
  go_enter Tryz.func82, Tryz.ntmps82
  go_wp2
  go_ret
  exact ⟨rfl, rfl⟩
 ·rw [h]
  clear h
  go_enter Tryz.func82, Tryz.ntmps82
  go_wp2
  go_ret
  exact ⟨rfl, rfl⟩
 ·rw [h]
  clear h
  go_enter Tryz.func82, Tryz.ntmps82
  go_wp2
  go_ret
  exact ⟨rfl, rfl⟩
 ·rw [h]
  clear h
  have g1 : ((k : Int) == 41) = false := by rw [beq_eq_false_iff_ne]; omega
  have g2 : ((k : Int) == 125) = false := by rw [beq_eq_false_iff_ne]; omega
  have g3 : ((k : Int) == 93) = false := by rw [beq_eq_false_iff_ne]; omega
  clear h1 h2 h3
  go_enter Tryz.func82, Tryz.ntmps82
  go_wp2
  go_ret
  exact ⟨rfl, rfl⟩
theorem closer_any (k : Nat) (w : World) :
 Calls Tryz.prog 91 #[.int .u8 (k : Int)] w fun e w' => e = .returned (.int .u8 ((cl k : Nat) : Int)) ∧ w = w' := by
 rcases cl_cases k with ⟨rfl, h⟩ | ⟨rfl, h⟩ | ⟨rfl, h⟩ | ⟨h1, h2, h3, h⟩
 ·rw [h]
  clear h
  go_enter Tryz.func91, Tryz.ntmps91
  go_wp2
  go_ret
  exact ⟨rfl, rfl⟩
 ·rw [h]
  clear h
  go_enter Tryz.func91, Tryz.ntmps91
  go_wp2
  go_ret
  exact ⟨rfl, rfl⟩
 ·rw [h]
  clear h
  go_enter Tryz.func91, Tryz.ntmps91
  go_wp2
  go_ret
  exact ⟨rfl, rfl⟩
 ·rw [h]
  clear h
  have g1 : ((k : Int) == 40) = false := by rw [beq_eq_false_iff_ne]; omega
  have g2 : ((k : Int) == 123) = false := by rw [beq_eq_false_iff_ne]; omega
  have g3 : ((k : Int) == 91) = false := by rw [beq_eq_false_iff_ne]; omega
  clear h1 h2 h3
  go_enter Tryz.func91, Tryz.ntmps91
  go_wp2
  go_ret
  exact ⟨rfl, rfl⟩
theorem fault9_any (t : Tk) (w : World) :
 Calls Tryz.prog 90 #[.agg (tv t)] w fun e w' => e = .returned (.agg #[.int .i64 2, .int .i64 t.p]) ∧ Below w.heap.size w w' := by
 obtain ⟨k, s, p⟩ := t
 show Calls Tryz.prog 90 #[.agg #[.int .u8 (k : Int), .string s, .int .i64 p]] w fun e w' => e = .returned (.agg #[.int .i64 2, .int .i64 p]) ∧ Below w.heap.size w w'
 have hg1 := RowAt.new (w.alloc (.cells #[.int .u8 (k : Int), .string s, .int .i64 p] 78)) 39 #[.int .i64 2, .int .i64 p]
 rw [show (w.alloc (.cells #[.int .u8 (k : Int), .string s, .int .i64 p] 78)).heap.size = w.heap.size + 1 by simp] at hg1
 have HG := zh hg1; clear hg1
 go_enter Tryz.func90, Tryz.ntmps90
 go_wp2
 exact bodyPost_ret (results_cell_row rfl _ _ (w.heap.size + 1) _ _ (0, 0) _ rfl HG.out Tryz.underlying39 rfl (fault_info _ _)) rfl
  ⟨rfl, ((zB _ _).alloc (zL _) _).alloc (by simp) _⟩
end
section
namespace TR
open LX
theorem drop_cons {l : List Tr} {i : Nat} (h : i < l.length) : l.drop i = l.getD i r0 :: l.drop (i + 1) := by
 rw [List.getD_eq_getElem?_getD, List.getElem?_eq_getElem h]
 exact List.drop_eq_getElem_cons h
theorem flat_cons (x : Tr) (r : List Tr) : flat (x :: r) = if cl x.t.k = 0 then x.t :: flat r else x.t :: (flat x.ks ++ ⟨cl x.t.k, chr (cl x.t.k), x.e⟩ :: flat r) := by
 obtain ⟨t, A, c, ks, e⟩ := x
 unfold flat
 rw [evs]
 by_cases h : cl t.k = 0 <;> simp [Tr.t, Tr.ks, Tr.e, h]
end TR
open Go.RowKit LX TR
end
section
open Go.RowKit LX TR
theorem tdrop_cons {l : List Tk} {i : Nat} (h : i < l.length) : l.drop i = l.getD i t0 :: l.drop (i + 1) := by
 rw [List.getD_eq_getElem?_getD, List.getElem?_eq_getElem h]
 exact List.drop_eq_getElem_cons h
def Ix (l : List Tk) : List Nat → List Tr → Prop
 | [], [f] => f.t = t0
 | j :: os, f :: st => j < l.length ∧ f.t = l.getD j t0 ∧ Ix l os st
 | _, _ => False
theorem Ix.len {l : List Tk} : ∀ {os : List Nat} {st : List Tr}, Ix l os st → st.length = os.length + 1
 | [], [_], _ => rfl
 | _ :: os, _ :: st, h => by have := Ix.len h.2.2; simp only [zA8]; omega
theorem Ix.push {l : List Tk} : ∀ {os : List Nat} {f : Tr} {st : List Tr} (x : Tr), Ix l os (f :: st) → Ix l os (push f x :: st)
 | [], _, [], _, h => h
 | _ :: _, _, _, _, h => h
theorem Ix.top {l : List Tk} {os : List Nat} {st : List Tr} (h : Ix l os st) : ∃ f r, st = f :: r := by
 cases st with
 | nil => cases os <;> exact h.elim
 | cons f r => exact ⟨f, r, rfl⟩
def plcells (os : List Nat) : List Value := os.map fun j : Nat => Value.int .i64 (j : Int)
theorem plcells_append (a b : List Nat) : plcells (a ++ b) = plcells a ++ plcells b := by simp [plcells]
def Ft (l : List Tk) (R : Except Int (List Tr)) (z : Int) : Prop :=
 match R with
 | .ok _ => z = -1
 | .error p => ∃ j : Nat, z = (j : Int) ∧ j < l.length ∧ (l.getD j t0).p = p
theorem refFault9_any (A : Option Addr) (c : Nat) (l : List Tk) (w : World) (hl : l.length ≤ 2147483648) (hA : Toks w A l) :
 Calls Tryz.prog 49 #[.slice A l.length c] w fun e w' => (∃ z : Int, e = .returned (.int .i64 z) ∧ Ft l (parse l) z) ∧ Below w.heap.size w w' := by
 have HA := zh hA; clear hA
 have HDR : Hid (∀ i, i < l.length → l.drop i = l.getD i t0 :: l.drop (i + 1)) := fun i => tdrop_cons
 have HDN : Hid (∀ i, ¬ i < l.length → l.drop i = []) := fun i hi => List.drop_eq_nil_of_le (by omega)
 have HR0 : Hid (mrun (l.drop 0) [r0] = parse l) := by rw [List.drop_zero]; exact rfl
 have HFT : Hid (∀ i p, i < l.length → (l.getD i t0).p = p → parse l = .error p → Ft l (parse l) (i : Int)) := fun i p h1 h2 h3 => by rw [h3]; exact ⟨i, rfl, h1, h2⟩
 have HFO : Hid (∀ ts, parse l = .ok ts → Ft l (parse l) (-1)) := fun ts h3 => by rw [h3]; exact rfl
 have HIXT : Hid (∀ j os f st, Ix l (j :: os) (f :: st) → j < l.length ∧ f.t = l.getD j t0 ∧ Ix l os st) := fun j os f st h => h
 have HIXN : Hid (∀ i st os x, i < l.length → x = l.getD i t0 → Ix l os st → Ix l (i :: os) (.mk x none 0 [] 0 :: st)) := fun i st os x h1 h2 h3 => ⟨h1, h2, h3⟩
 have HIX0 : Hid (Ix l [] [r0]) := rfl
 generalize hP : parse l = P at *
 generalize hn : l.length = n at *
 have HN := zh hn; clear hn hP
 go_enter Tryz.func49, Tryz.ntmps49
 go_wp2
 go_loopw [3, 4, 5] (fun ov iv _ wr => ∃ (i : Nat) (os : List Nat) (st : List Tr) (X : Option Addr) (d : Nat), i ≤ n ∧ os.length ≤ 24 ∧ ov = .slice X os.length d ∧ iv = .int .i64 i ∧ Hid (wr.ownsRow w.heap.size 3 1 (.slice X os.length d) os.length (plcells os.reverse)) ∧ Hid (Ix l os st) ∧ Hid (mrun (l.drop i) st = P) ∧ Hid (Below w.heap.size w wr)) (fun _ iv _ _ => n - (intOf iv).toNat)
 case atStart => exact ⟨0, [], [r0], none, 0, by omega, by simp, rfl, rfl, World.ownsRow_nil _ _ _ _, HIX0.out, HR0.out, zB _ _⟩
 case round =>
  obtain ⟨i, os, st, X, d, hi, hos, rfl, rfl, HO, HX, HR, HW⟩ := hrel
  have HSL := zh HX.out.len
  by_cases hlt : i < n
  ·obtain ⟨b, o, rfl, hbl, hc⟩ := (HA.out.below HW.out).at (k := i) (by rw [HN.out]; exact hlt)
   have HCC : Hid (∀ j, j < n → wr.cell? ⟨b, o + j * 3, none⟩ = some (.int .u8 ((l.getD j t0).k : Int))) := fun j hj => (hc j (by rw [HN.out]; exact hj)).1
   have hc0 := HCC.out i hlt
   clear hc
   have hR := HR.out
   rw [HDR.out i hlt] at hR
   have HFI := zh (HFT.out i (l.getD i t0).p hlt rfl)
   have HXI := zh (fun st os => HIXN.out i st os (l.getD i t0) hlt rfl)
   generalize hk : (l.getD i t0) = t at *
   clear hk
   have hcl := closing_any t.k wr
   have hcs := closes_any t.k wr
   have hts : ∀ s, mstep st t = s → (match s with | some st' => mrun (l.drop (i + 1)) st' = P | none => P = .error t.p) := fun s hs => by
        cases s with
        | some st' => rw [mrun_some hs] at hR; exact hR
        | none => rw [mrun_none hs] at hR; exact hR.symm
   clear hR
   by_cases h0 : cl t.k = 0
   ·rw [h0] at hcl
    have HCL := zh hcl; clear hcl
    cases hcz : cls t.k
    ·-- no bracket
     rw [hcz] at hcs
     have HCS := zh hcs; clear hcs
     obtain ⟨f, r, rfl⟩ := HX.out.top
     have HR2 : Hid (mrun (l.drop (i + 1)) (push f (.mk t none 0 [] t.p) :: r) = P) := hts (some _) (by simp [mstep, h0, hcz])
     have HX2 := zh (HX.out.push (.mk t none 0 [] t.p))
     clear hts h0 hcz
     generalize t.k = k at *
     go_wp2_with fail
     refine HCL.out.mono ?_
     rintro e w' ⟨rfl, rfl⟩
     go_wp2_with fail
     refine HCS.out.mono ?_
     rintro e w' ⟨rfl, rfl⟩
     go_wp2
     go_roundw
     case rel => exact ⟨i + 1, os, _, X, d, by omega, hos, rfl, by go_num, HO, HX2, HR2, HW⟩
     case measure => simp [intOf]; omega
    ·rw [hcz] at hcs
     have HCS := zh hcs; clear hcs
     cases os with
     | nil =>
       obtain ⟨f, r, rfl⟩ := HX.out.top
       have hr : r = [] := by have := HSL.out; simp only [zA8, zA9] at this; exact List.eq_nil_of_length_eq_zero (by omega)
       subst hr
       have HE := zh (HFI.out (hts none (by simp [mstep, h0, hcz])))
       clear hts h0 hcz
       generalize t.k = k at *
       go_wp2_with fail
       refine HCL.out.mono ?_
       rintro e w' ⟨rfl, rfl⟩
       go_wp2_with fail
       refine HCS.out.mono ?_
       rintro e w' ⟨rfl, rfl⟩
       go_wp2
       go_ret
       exact ⟨⟨_, rfl, HE.out⟩, HW.out⟩
     | cons j os =>
       obtain ⟨f, r0', rfl⟩ := HX.out.top
       obtain ⟨hj, hft, hix⟩ := HIXT.out _ _ _ _ HX.out
       obtain ⟨g, r, rfl⟩ := hix.top
       have hcj := HCC.out j hj
       rw [← hft] at hcj
       have hcl2 := closing_any f.t.k wr
       obtain ⟨gb, hXX, hgb, hgs, _, hgc⟩ := own_at HO.out (by simp [plcells])
       subst hXX
       have hjc := hgc os.length (.int .i64 (j : Int)) (by simp [plcells])
       have hnc : os.length + 1 ≤ d := by
           have := own_cap_le HO.out
           simpa using this
       have HC2 := zh hcl2; clear hcl2
       by_cases heq : cl f.t.k = t.k
       ·have HR2 : Hid (mrun (l.drop (i + 1)) (push g (.mk f.t none 0 f.ks t.p) :: r) = P) := hts (some _) (by simp [mstep, h0, hcz, heq])
        have HX2 := zh (hix.push (.mk f.t none 0 f.ks t.p))
        have hocut := own_cut HO.out os.length (by simp) (by simp)
        have htk : (plcells (j :: os).reverse).take (os.length * 1) = plcells os.reverse := by
            rw [List.reverse_cons, plcells_append, Nat.mul_one]
            exact List.take_left' (by simp [plcells])
        rw [htk] at hocut
        have HO2 := zh hocut
        have hqe : ((cl f.t.k : Nat) : Int) = (t.k : Int) := by rw [heq]
        clear hts h0 hcz htk hocut hft
        rw [heq] at HC2
        clear heq hqe
        generalize t.k = k at *
        generalize f.t.k = kf at *
        simp only [zA8] at hos ⊢
        generalize hm : os.length = m at *
        have HM := zh hm; clear hm
        have hz1 : IntKind.i64.wrap ((m : Int) + 1 - 1) = (m : Int) := by rw [IntKind.wrap_i64] <;> omega
        have hz2 : ¬ (m : Int) + 1 = 0 := by omega
        go_wp2_with fail
        refine HCL.out.mono ?_
        rintro e w' ⟨rfl, rfl⟩
        go_wp2_with fail
        refine HCS.out.mono ?_
        rintro e w' ⟨rfl, rfl⟩
        go_wp2_with fail
        refine HC2.out.mono ?_
        rintro e w' ⟨rfl, rfl⟩
        go_wp2
        go_roundw
        case rel => exact ⟨i + 1, os, _, some ⟨gb, 0, none⟩, d, by omega, by rw [HM.out]; omega, by rw [HM.out], by go_num, by rw [HM.out]; exact HO2, HX2, HR2, HW⟩
        case measure => simp [intOf]; omega
       ·have HE := zh (HFI.out (hts none (by simp [mstep, h0, hcz, heq])))
        have hqe : (((cl f.t.k : Nat) : Int) != (t.k : Int)) = true := by simp; omega
        clear hts h0 hcz hft heq
        generalize t.k = k at *
        generalize cl f.t.k = q at *
        generalize f.t.k = kf at *
        simp only [zA8] at hos ⊢
        generalize os.length = m at *
        have hz1 : IntKind.i64.wrap ((m : Int) + 1 - 1) = (m : Int) := by rw [IntKind.wrap_i64] <;> omega
        have hz2 : ¬ (m : Int) + 1 = 0 := by omega
        go_wp2_with fail
        refine HCL.out.mono ?_
        rintro e w' ⟨rfl, rfl⟩
        go_wp2_with fail
        refine HCS.out.mono ?_
        rintro e w' ⟨rfl, rfl⟩
        go_wp2_with fail
        refine HC2.out.mono ?_
        rintro e w' ⟨rfl, rfl⟩
        go_wp2
        go_ret
        exact ⟨⟨_, rfl, HE.out⟩, HW.out⟩
   ·have hcs0 := (cls_cl h0).2.2
    rw [hcs0] at hcs
    have hne : (((cl t.k : Nat) : Int) != 0) = true := by simp; omega
    have HCL := zh hcl; clear hcl
    have HCS := zh hcs; clear hcs
    by_cases h24 : os.length = 24
    ·have HE := zh (HFI.out (hts none (by
      have := HSL.out
      simp only [mstep, if_neg h0]
      rw [if_pos (by omega)])))
     clear hts h0
     generalize cl t.k = q at *
     generalize t.k = k at *
     generalize os.length = m at *
     subst h24
     go_wp2_with fail
     refine HCL.out.mono ?_
     rintro e w' ⟨rfl, rfl⟩
     go_wp2
     go_ret
     exact ⟨⟨_, rfl, HE.out⟩, HW.out⟩
    ·have HR2 : Hid (mrun (l.drop (i + 1)) (.mk t none 0 [] 0 :: st) = P) := hts (some _) (by
      have := HSL.out
      simp only [mstep, if_neg h0]
      rw [if_neg (by omega)])
     have HX2 := zh (HXI.out _ _ HX.out)
     have hlt24 : os.length < 24 := by omega
     have HRV : Hid ((i :: os).length = os.length + 1 ∧ plcells (i :: os).reverse = plcells os.reverse ++ [.int .i64 (i : Int)]) := ⟨rfl, by rw [List.reverse_cons, plcells_append]; rfl⟩
     have hown' := HO.out
     clear hts h0 h24
     generalize cl t.k = q at *
     generalize t.k = k at *
     generalize os.length = m at *
     go_wp2_with fail
     refine HCL.out.mono ?_
     rintro e w' ⟨rfl, rfl⟩
     go_wp2_with (first | (at_builtin; refine wpList_more _ rfl _ _ 101 rfl 3 (.int .i64 0) 1 8 Tryz.underlying101 infoInt rfl (by decide) (by decide) w.heap.size X m d (plcells os.reverse) rfl (hown'.alloc _) wr.heap.size 1 1 [.int .i64 (i : Int)] rfl rfl (by decide) (one_new _ _ _) ?c1 ?c2 ?c3 ?_; (case c1 => simp [Value.oneCell']); (case c2 => omega); (case c3 => have := HW.out.size; simp; omega); intro X2 d2 w5 hown2 hb5 _))
     have HW5 : Hid (Below w.heap.size w w5) := (HW.out.alloc HW.out.size _).trans hb5
     have HO5 : Hid (w5.ownsRow w.heap.size 3 1 (.slice X2 (m + 1) d2) (m + 1) (plcells (i :: os).reverse)) := by rw [HRV.out.2]; exact hown2
     have hcs5 := closes_any k w5
     rw [hcs0] at hcs5
     have HCS5 := zh hcs5; clear hcs5
     clear hown2 hb5 hown' HCS
     go_wp2_with fail
     refine HCS5.out.mono ?_
     rintro e w' ⟨rfl, rfl⟩
     go_wp2
     go_roundw
     case rel => exact ⟨i + 1, i :: os, _, X2, d2, by omega, by rw [HRV.out.1]; omega, by rw [HRV.out.1], by go_num, by rw [HRV.out.1]; exact HO5, HX2, HR2, HW5⟩
     case measure => simp [intOf]; omega
  ·have hR := HR.out
   rw [HDN.out i hlt] at hR
   obtain rfl : i = n := by omega
   cases os with
   | nil =>
     obtain ⟨f, r, rfl⟩ := HX.out.top
     have hr : r = [] := by have := HSL.out; simp only [zA8, zA9] at this; exact List.eq_nil_of_length_eq_zero (by omega)
     subst hr
     have HE := zh (HFO.out f.ks hR.symm)
     clear hR
     simp only [zA9]
     go_wp2
     go_ret
     exact ⟨⟨_, rfl, HE.out⟩, HW.out⟩
   | cons j os =>
     obtain ⟨f, r0', rfl⟩ := HX.out.top
     obtain ⟨hj, hft, hix⟩ := HIXT.out _ _ _ _ HX.out
     obtain ⟨g, r, rfl⟩ := hix.top
     have HE := zh (HFT.out j f.t.p hj (by rw [hft]) hR.symm)
     clear hR
     obtain ⟨gb, hXX, hgb, hgs, _, hgc⟩ := own_at HO.out (by simp [plcells])
     subst hXX
     have hjc := hgc os.length (.int .i64 (j : Int)) (by simp [plcells])
     clear hgc
     simp only [zA8] at hos ⊢
     generalize os.length = m at *
     have hz1 : IntKind.i64.wrap ((m : Int) + 1 - 1) = (m : Int) := by rw [IntKind.wrap_i64] <;> omega
     have hz2 : ¬ (m : Int) + 1 = 0 := by omega
     go_wp2
     go_ret
     exact ⟨⟨_, rfl, HE.out⟩, HW.out⟩
theorem partner_any (A : Option Addr) (c at' : Nat) (l : List Tk) (w : World) (hat : at' ≤ l.length) (hl : l.length ≤ 2147483648) (hA : Toks w A l) :
 Calls Tryz.prog 83 #[.slice A l.length c, .int .i64 (at' : Int)] w fun e w' => e = .returned (.int .i64 ((pt at' (l.drop at') 0 at' : Nat) : Int)) ∧ w = w' := by
 have HA := zh hA; clear hA
 have HDR : Hid (∀ i, i < l.length → l.drop i = l.getD i t0 :: l.drop (i + 1)) := fun i => tdrop_cons
 have HDN : Hid (∀ i, ¬ i < l.length → l.drop i = []) := fun i hi => List.drop_eq_nil_of_le (by omega)
 generalize hK : pt at' (l.drop at') 0 at' = K at *
 have HK := zh hK; clear hK
 generalize hn : l.length = n at *
 have HN := zh hn; clear hn
 go_enter Tryz.func83, Tryz.ntmps83
 go_wp2
 go_loop [5, 6] (fun dv iv => ∃ (i : Nat) (d : Int), i ≤ n ∧ -(i : Int) ≤ d ∧ d ≤ i ∧ dv = .int .i64 d ∧ iv = .int .i64 i ∧ Hid (pt at' (l.drop i) d i = K)) (fun _ iv => n - (intOf iv).toNat)
 case atStart => exact ⟨at', 0, hat, by omega, by omega, rfl, rfl, HK.out⟩
 case round =>
  obtain ⟨i, d, hi, hd1, hd2, rfl, rfl, HR⟩ := hrel
  by_cases hlt : i < n
  ·obtain ⟨b, o, rfl, hbl, hc⟩ := HA.out.at (k := i) (by rw [HN.out]; exact hlt)
   obtain ⟨hc0, _, _⟩ := hc i (by rw [HN.out]; exact hlt)
   clear hc
   have hR := HR.out
   rw [HDR.out i hlt, pt] at hR
   generalize (l.getD i t0) = t at *
   have hcl := closing_any t.k w
   have hcs := closes_any t.k w
   generalize hk : t.k = k at *
   clear hk
   have HCL := zh hcl; clear hcl
   by_cases h0 : cl k = 0
   ·rw [h0] at HCL
    rw [if_pos h0] at hR
    cases hcz : cls k
    ·rw [hcz] at hcs hR
     have HCS := zh hcs; clear hcs h0 hcz
     simp only [Int.add_zero, Bool.false_eq_true, if_false, Int.sub_zero] at hR
     by_cases hd0 : d = 0
     ·rw [if_pos hd0] at hR
      have HE := zh hR; clear hR
      subst hd0
      go_wp2_with fail
      refine HCL.out.mono ?_
      rintro e w' ⟨rfl, rfl⟩
      go_wp2_with fail
      refine HCS.out.mono ?_
      rintro e w' ⟨rfl, rfl⟩
      go_wp2
      go_ret
      exact ⟨ret_eq (int_eq (by rw [← HE.out])), rfl⟩
     ·rw [if_neg hd0] at hR
      have HE := zh hR; clear hR
      have hdz : (d == 0) = false := by simpa using hd0
      go_wp2_with fail
      refine HCL.out.mono ?_
      rintro e w' ⟨rfl, rfl⟩
      go_wp2_with fail
      refine HCS.out.mono ?_
      rintro e w' ⟨rfl, rfl⟩
      go_wp2
      go_round
      case rel => exact ⟨i + 1, d, by omega, by omega, by omega, rfl, by go_num, HE⟩
      case measure => simp [intOf]; omega
    ·rw [hcz] at hcs hR
     have HCS := zh hcs; clear hcs h0 hcz
     simp only [Int.add_zero, if_true] at hR
     have hwr : IntKind.i64.wrap (d - 1) = d - 1 := by rw [IntKind.wrap_i64] <;> omega
     by_cases hd0 : d - 1 = 0
     ·rw [if_pos hd0] at hR
      have HE := zh hR; clear hR
      obtain rfl : d = 1 := by omega
      clear hd0
      go_wp2_with fail
      refine HCL.out.mono ?_
      rintro e w' ⟨rfl, rfl⟩
      go_wp2_with fail
      refine HCS.out.mono ?_
      rintro e w' ⟨rfl, rfl⟩
      go_wp2
      go_ret
      exact ⟨ret_eq (int_eq (by rw [← HE.out])), rfl⟩
     ·rw [if_neg hd0] at hR
      have HE := zh hR; clear hR
      have hdz : (d - 1 == 0) = false := by simpa using hd0
      clear hd0
      go_wp2_with fail
      refine HCL.out.mono ?_
      rintro e w' ⟨rfl, rfl⟩
      go_wp2_with fail
      refine HCS.out.mono ?_
      rintro e w' ⟨rfl, rfl⟩
      go_wp2
      go_round
      case rel => exact ⟨i + 1, d - 1, by omega, by omega, by omega, rfl, by go_num, HE⟩
      case measure => simp [intOf]; omega
   ·have hcs0 := (cls_cl h0).2.2
    rw [hcs0] at hcs hR
    rw [if_neg h0] at hR
    have hne : (((cl k : Nat) : Int) != 0) = true := by simp; omega
    have HCS := zh hcs; clear hcs h0 hcs0
    simp only [Bool.false_eq_true, if_false, Int.sub_zero] at hR
    have hwr : IntKind.i64.wrap (d + 1) = d + 1 := by rw [IntKind.wrap_i64] <;> omega
    generalize cl k = q at *
    by_cases hd0 : d + 1 = 0
    ·rw [if_pos hd0] at hR
     have HE := zh hR; clear hR
     obtain rfl : d = -1 := by omega
     clear hd0
     go_wp2_with fail
     refine HCL.out.mono ?_
     rintro e w' ⟨rfl, rfl⟩
     go_wp2_with fail
     refine HCS.out.mono ?_
     rintro e w' ⟨rfl, rfl⟩
     go_wp2
     go_ret
     exact ⟨ret_eq (int_eq (by rw [← HE.out])), rfl⟩
    ·rw [if_neg hd0] at hR
     have HE := zh hR; clear hR
     have hdz : (d + 1 == 0) = false := by simpa using hd0
     clear hd0
     go_wp2_with fail
     refine HCL.out.mono ?_
     rintro e w' ⟨rfl, rfl⟩
     go_wp2_with fail
     refine HCS.out.mono ?_
     rintro e w' ⟨rfl, rfl⟩
     go_wp2
     go_round
     case rel => exact ⟨i + 1, d + 1, by omega, by omega, by omega, rfl, by go_num, HE⟩
     case measure => simp [intOf]; omega
  ·have hR := HR.out
   rw [HDN.out i hlt, pt] at hR
   have HE := zh hR; clear hR
   obtain rfl : i = n := by omega
   go_wp2
   go_ret
   exact ⟨ret_eq (int_eq (by rw [← HE.out])), rfl⟩
end
section
open Go.RowKit LX TR
theorem ex_low (B : Nat) (K : World → Prop) (hst : ∀ wa wb, K wa → Below B wa wb → K wb) (w : World) (h : K w) :
 ∃ S : World → Prop, Hid (S w.drew) ∧ Hid (∀ w', S w' → K w') ∧ Hid (∀ wa wb, S wa → Below B wa wb → S wb) := ⟨K, hst _ _ h (zB _ _).drew, fun _ h => h, hst⟩
theorem tree_size (a b c d e : Value) : (Tryz.prog.info? 104).map (·.size) = some (#[a, b, c, d, e] : Array Value).size := by kernel_rfl
theorem below_setRow {B g : Nat} {w : World} (hB : B ≤ g) (cs : Array Value) : Below B w (w.setRow g cs) := ⟨rfl, rfl, rfl, by simp, fun k hk => setRow_other w g k cs (by omega)⟩
def Sep (B : Nat) (v : Value) (b : Nat) : Prop := B ≤ b ∧ some b ≠ v.ownBlock
def Tz (B : Nat) (ts : List Tr) (e : Ending) (w w' : World) : Prop :=
 Below B w w' ∧ ∃ X d us, e = .returned (.slice X us.length d) ∧ w'.ownsRow B 104 5 (.slice X us.length d) us.length (tcs us) ∧ er us = ts ∧ Deep w' (Sep B (.slice X us.length d)) us
theorem Deep.below {w w' : World} {ok : Nat → Prop} {l : List Tr} (h : Deep w ok l) (hb : Below w.heap.size w w') : Deep w' ok l := h.keep hb.size (fun b hlt _ => hb.block b hlt) (fun _ _ h => h)
theorem Deep.grown {w w' : World} {B : Nat} {v v' : Value} {l : List Tr} (h : Deep w (Sep B v) l) (hg : w.grownBy w' v.ownBlock) (hat : v'.ownBlock = v.ownBlock ∨ v'.ownBlock = some w.heap.size) : Deep w' (Sep B v') l :=
 h.keep hg.size (fun b hlt hk => hg.block b hlt hk.2) (fun b hlt hk => ⟨hk.1, by
  rcases hat with e | e
  ·rw [e]; exact hk.2
  ·rw [e]; intro e2; injection e2 with e2; omega⟩)
def SepN (B : Nat) (v : Value) (g b : Nat) : Prop := Sep B v b ∧ b ≠ g
theorem Deep.away {w : World} {B g : Nat} {v : Value} {l : List Tr} (h : Deep w (SepN B v g) l) (o : Nat) (u : Value) : Deep (w.setCell ⟨g, o, none⟩ u) (SepN B v g) l :=
 h.keep (by simp [World.setCell]) (fun b _ hk => by simp only [World.setCell, Array.getElem?_modify, if_neg (fun e => hk.2 (Eq.symm e))]) (fun _ _ h => h)
theorem Deep.sep {w : World} {B g : Nat} {v : Value} {l : List Tr} (h : Deep w (SepN B v g) l) : Deep w (Sep B v) l := h.keep (zL _) (fun _ _ _ => rfl) (fun _ _ h => h.1)
theorem own_far {w : World} {base size n g : Nat} {e : TypeId} {x : Value} {cs : List Value} (h : w.ownsRow base e size x n cs) (hne : x.ownBlock ≠ some g) (o : Nat) (u : Value) : (w.setCell ⟨g, o, none⟩ u).ownsRow base e size x n cs := by
 refine ⟨h.1, ?_⟩
 rcases h.2 with hn | ⟨g', cap, cur, rfl, hg, hh, rest⟩
 ·exact .inl hn
 ·refine .inr ⟨g', cap, cur, rfl, hg, ?_, rest⟩
  have : g ≠ g' := fun e => hne (by simp [Value.ownBlock, e])
  simp only [World.setCell, Array.getElem?_modify, if_neg this]
  exact hh
theorem drop_get {l s : List Tk} {t : Tk} {i : Nat} (h : l.drop i = t :: s) : i < l.length ∧ l.getD i t0 = t ∧ l.drop (i + 1) = s := by
 have hi : i < l.length := by
  rcases Nat.lt_or_ge i l.length with h1 | h1
  ·exact h1
  ·rw [List.drop_eq_nil_of_le h1] at h; cases h
 rw [tdrop_cons hi] at h
 injection h with h1 h2
 exact ⟨hi, h1, h2⟩
theorem trees_any : ∀ (N : Nat) (ts : List Tr) (s post : List Tk) (A : Option Addr) (c at' en : Nat) (l : List Tk) (w : World), (nodes ts).length ≤ N → N ≤ 1073741824 → l.drop at' = s ++ post → Spells s ts → at' + s.length = en → l.length ≤ 1073741824 → Toks w A l →
 Calls Tryz.prog 50 #[.slice A l.length c, .int .i64 (at' : Int), .int .i64 (en : Int)] w (Tz w.heap.size ts · w ·) := by
 intro N
 induction N with
 | zero =>
   intro ts s post A c at' en l w hN _ hdr hsp hen hl hA
   obtain rfl : ts = [] := List.eq_nil_of_length_eq_zero (by have := length_nodes ts; omega)
   cases hsp
   simp only [zA9, Nat.add_zero] at hen
   subst hen
   clear hdr hA
   generalize l.length = n
   show Calls Tryz.prog 50 #[.slice A n c, .int .i64 (at' : Int), .int .i64 (at' : Int)] w (fun e w' => Tz w.heap.size [] e w w')
   have HT : Hid (Tz w.heap.size [] (.returned (.slice none 0 0)) w w) := ⟨zB _ _, none, 0, [], rfl, World.ownsRow_nil _ _ _ _, by simp [er], Deep.nil _ _⟩
   go_enter Tryz.func50, Tryz.ntmps50
   go_wp2
   go_loop [7, 8, 9, 10] (fun ov iv _ _ => ov = .slice none 0 0 ∧ iv = .int .i64 at') (fun _ _ _ _ => 0)
   case atStart => exact ⟨rfl, rfl⟩
   case round =>
    obtain ⟨rfl, rfl⟩ := hrel
    go_wp2
    go_ret
    exact HT.out
 | succ N ih =>
   intro ts s post A c at' en l w hN hN2 hdr hsp hen hl hA
   have IH := zh ih; clear ih
   have HA := zh hA; clear hA
   have HPT := zh (fun i W (h : Toks W A l) (hi : i ≤ l.length) => partner_any A c i l W hi (by omega) h)
   have HGO : Hid (∀ ks l1 post1 k, (nodes ks).length ≤ N → ∀ i, l.drop i = l1 ++ post1 → Spells l1 ks → i + l1.length = k → ∀ W, Toks W A l → Calls Tryz.prog 50 #[.slice A l.length c, .int .i64 (i : Int), .int .i64 (k : Int)] W (Tz W.heap.size ks · W ·)) :=
    fun ks l1 post1 k h1 i h2 h3 h4 W h5 => IH.out ks l1 post1 A c i k l W h1 (by omega) h2 h3 h4 hl h5
   clear IH
   have HGET : Hid (∀ i t q, l.drop i = t :: q → i < l.length ∧ l.getD i t0 = t ∧ l.drop (i + 1) = q) := fun i t q h => drop_get h
   have hdr0 := zh hdr; clear hdr
   have hsp0 := zh hsp; clear hsp
   have HNT := zh hN; clear hN
   generalize hn : l.length = n at *
   have HN := zh hn; clear hn
   show Calls Tryz.prog 50 #[.slice A n c, .int .i64 (at' : Int), .int .i64 (en : Int)] w (fun e w' => Tz w.heap.size ts e w w')
   go_enter Tryz.func50, Tryz.ntmps50
   go_wp2
   go_loopw [7, 8, 9, 10] (fun ov iv _ _ wr => ∃ (i : Nat) (us : List Tr) (s2 : List Tk) (ts2 : List Tr) (X : Option Addr) (d : Nat), ov = .slice X us.length d ∧ iv = .int .i64 i ∧ i + s2.length = en ∧ Hid (wr.ownsRow w.heap.size 104 5 (.slice X us.length d) us.length (tcs us)) ∧ Hid (Deep wr (Sep w.heap.size (.slice X us.length d)) us) ∧ Hid (Spells s2 ts2) ∧ Hid (er us ++ ts2 = ts) ∧ Hid (l.drop i = s2 ++ post) ∧ Hid (Below w.heap.size w wr)) (fun _ iv _ _ _ => en - (intOf iv).toNat)
   case atStart => exact ⟨at', [], s, ts, none, 0, rfl, rfl, hen, World.ownsRow_nil _ _ _ _, Deep.nil _ _, hsp0.out, zh (by simp [er]), hdr0.out, zB _ _⟩
   case round =>
    obtain ⟨i, us, s2, ts2, X, d, rfl, rfl, hin, HO, HD, HSP, HER, HDR, HW⟩ := hrel
    have hus : us.length ≤ 1073741824 := by
        have h1 := congrArg List.length HER.out
        rw [zA7, er_length] at h1
        have h2 := length_nodes ts
        have h3 := HNT.out
        omega
    have hdr := HDR.out
    have her := HER.out
    cases s2 with
    | nil =>
      cases HSP.out
      simp only [zA9, Nat.add_zero] at hin
      subst hin
      have HT : Hid (Tz w.heap.size ts (.returned (.slice X us.length d)) w wr) := ⟨HW.out, X, d, us, rfl, HO.out, by rw [← her, List.append_nil], HD.out⟩
      clear hdr her
      generalize us.length = m at *
      go_wp2
      go_ret
      exact HT.out
    | cons t s3 =>
      obtain ⟨hi, hgt, hdr1⟩ := HGET.out i t (s3 ++ post) hdr
      obtain ⟨b, o, rfl, hbl, hc⟩ := HA.out.at (k := i) (by rw [HN.out]; exact hi)
      have HCC : Hid (∀ k, k < n → ∀ W, Below w.heap.size w W → W.cell? ⟨b, o + k * 3, none⟩ = some (.int .u8 ((l.getD k t0).k : Int)) ∧ W.cell? ⟨b, o + k * 3 + 1, none⟩ = some (.string (l.getD k t0).s) ∧ W.cell? ⟨b, o + k * 3 + 2, none⟩ = some (.int .i64 (l.getD k t0).p)) := fun k hk W hb => by
       obtain ⟨h0, h1, h2⟩ := hc k (by rw [HN.out]; exact hk)
       exact ⟨(hb.cell (p := ⟨b, o + k * 3, none⟩) hbl).trans h0, (hb.cell (p := ⟨b, o + k * 3 + 1, none⟩) hbl).trans h1, (hb.cell (p := ⟨b, o + k * 3 + 2, none⟩) hbl).trans h2⟩
      obtain ⟨hc0, hc1, hc2⟩ := HCC.out i hi wr HW.out
      rw [hgt] at hc0 hc1 hc2
      clear hc
      have hlt : i < en := by simp only [zA8] at hin; omega
      go_upto_region 5 with fail
      obtain ⟨S, HS, HKK, keepS⟩ := ex_low w.heap.size (fun W => W.cell? ⟨b, o + i * 3, none⟩ = some (.int .u8 (t.k : Int)) ∧ W.cell? ⟨b, o + i * 3 + 1, none⟩ = some (.string t.s) ∧ W.cell? ⟨b, o + i * 3 + 2, none⟩ = some (.int .i64 t.p)) (fun _ _ h hb => ⟨(hb.cell (p := ⟨b, o + i * 3, none⟩) hbl).trans h.1, (hb.cell (p := ⟨b, o + i * 3 + 1, none⟩) hbl).trans h.2.1, (hb.cell (p := ⟨b, o + i * 3 + 2, none⟩) hbl).trans h.2.2⟩) wr ⟨hc0, hc1, hc2⟩
      have C0 : ∀ w', S w' → w'.cell? ⟨b, o + i * 3, none⟩ = some (.int .u8 (t.k : Int)) := fun w' h => (HKK.out w' h).1
      have C1 : ∀ w', S w' → w'.cell? ⟨b, o + i * 3 + 1, none⟩ = some (.string t.s) := fun w' h => (HKK.out w' h).2.1
      have C2 : ∀ w', S w' → w'.cell? ⟨b, o + i * 3 + 2, none⟩ = some (.int .i64 t.p) := fun w' h => (HKK.out w' h).2.2
      refine wp_region_ord S [(0, true), (1, true), (2, true), (3, true), (4, true), (5, true), (6, true), (7, true), (8, true), (9, true), (10, false), (11, false)] (by kernel_rfl) (by kernel_rfl) rfl (by kernel_rfl) HS.out ?_
      iterate 10
       (refine wpOrd_step (zO rfl) ?_)
       (first
             | (refine wpOrd_skip (by rfl) ?_)
             | (refine wpOrd_take (v := ?_) (by rfl) ?_ ?_; rotate_left 1; (intro wx hSx; have hc_0 := C0 wx hSx; have hc_1 := C1 wx hSx; have hc_2 := C2 wx hSx; go_simp; try with_reducible rfl)))
       (try simp only [Act.put, zA4, zA5, zA6])
      (refine wpOrd_solo (zO rfl) ?_)
      intro K hK
      go_simp
      have hS : S (wr.alloc (.cells #[.int .u8 0, .string ⟨#[]⟩, .int .i64 0, .slice none 0 0, .int .i64 0] 104)).drew := keepS.out _ _ HS.out ((zB _ wr.drew).alloc HW.out.size _)
      have hrow : RowAt (wr.alloc (.cells #[.int .u8 0, .string ⟨#[]⟩, .int .i64 0, .slice none 0 0, .int .i64 0] 104)).drew wr.heap.size 104 #[.int .u8 0, .string ⟨#[]⟩, .int .i64 0, .slice none 0 0, .int .i64 0] := RowAt.new _ _ _
      have HBV : Hid (Below wr.heap.size wr (wr.alloc (.cells #[.int .u8 0, .string ⟨#[]⟩, .int .i64 0, .slice none 0 0, .int .i64 0] 104)).drew) := ((zB _ _).alloc (zL _) _).drew
      clear HS
      have HS := zh hS; clear hS
      refine hK.out _ _ HS.out ?_
      clear hK K
      (try simp only [Act.put, zA4, zA5, zA6])
      generalize (wr.alloc (.cells #[.int .u8 0, .string ⟨#[]⟩, .int .i64 0, .slice none 0 0, .int .i64 0] 104)).drew = v1 at *
      (refine wpOrd_solo (zO rfl) ?_)
      intro K hK
      rw [if_pos (by rfl)]
      refine wp_store_row _ _ _ rfl wr.heap.size #[.int .u8 (t.k : Int), .string t.s, .int .i64 t.p, .slice none 0 0, .int .i64 t.p] rfl rfl _ _ hrow (tree_size _ _ _ _ _) rfl (by simp [Value.oneCell']) ?_
      have hrow2 := hrow.setRow #[.int .u8 (t.k : Int), .string t.s, .int .i64 t.p, .slice none 0 0, .int .i64 t.p]
      have HBV2 : Hid (Below wr.heap.size wr (v1.setRow wr.heap.size #[.int .u8 (t.k : Int), .string t.s, .int .i64 t.p, .slice none 0 0, .int .i64 t.p])) := HBV.out.trans (below_setRow (zL _) _)
      have hS := keepS.out _ _ HS.out (below_setRow (B := w.heap.size) (w := v1) (g := wr.heap.size) HW.out.size #[.int .u8 (t.k : Int), .string t.s, .int .i64 t.p, .slice none 0 0, .int .i64 t.p])
      clear HS HBV
      have HS := zh hS; clear hS
      refine hK.out _ _ HS.out ?_
      clear hK K
      simp only [Act.put]
      generalize v1.setRow wr.heap.size #[.int .u8 (t.k : Int), .string t.s, .int .i64 t.p, .slice none 0 0, .int .i64 t.p] = v2 at *
      clear hrow
      refine wpOrd_done ?_
      clear HS HKK keepS C0 C1 C2 hc0 hc1 hc2
      have HW2 := zh (HW.out.trans (HBV2.out.mono HW.out.size))
      obtain ⟨hc0, _, _⟩ := HCC.out i hi v2 HW2.out
      rw [hgt] at hc0
      have hzs : w.heap.size ≤ wr.heap.size := HW.out.size
      have hzr : wr.heap.size < v2.heap.size := hrow2.lt
      have b0 := (hrow2.cell 0).trans rfl
      have b1 := (hrow2.cell 1).trans rfl
      have b2 := (hrow2.cell 2).trans rfl
      have f3 := hrow2.free 3
      have f4 := hrow2.free 4
      have b3 := (hrow2.cell 3).trans rfl
      have b4 := (hrow2.cell 4).trans rfl
      have HR2 := zh hrow2; clear hrow2
      have HO2 := zh (own_below HO.out HBV2.out (zL _))
      have HD2 : Hid (Deep v2 (SepN w.heap.size (.slice X us.length d) wr.heap.size) us) := HD.out.keep HBV2.out.size (fun b hlt _ => HBV2.out.block b hlt) (fun b hlt h => ⟨h, by omega⟩)
      have HOB : Hid (∀ b, (Value.slice X us.length d).ownBlock = some b → b < wr.heap.size) := fun b hb => (HO.out.lt b hb).2
      have hcl := closing_any t.k v2
      have hspp := HSP.out
      generalize hgg : wr.heap.size = g9 at *
      clear hgg HO HD
      cases hspp with
      | @leaf _ _ r h0 h1 hs =>
        rw [h0] at hcl
        have HCL := zh hcl; clear hcl
        have HSP3 := zh hs
        have HER3 : Hid (er (us ++ [Tr.mk t none 0 [] t.p]) ++ r = ts) := by
         show _ = ts
         rw [er_append, ← her, List.append_assoc]
         congr 1
         simp [er]
        have HDR1 := zh hdr1
        clear h0 h1 hs her hdr hdr1 hgt
        go_wp2_with fail
        refine HCL.out.mono ?_
        rintro e w' ⟨rfl, rfl⟩
        have HNW : Hid (Sl (v2.alloc (.cells #[.int .u8 (t.k : Int), .string t.s, .int .i64 t.p, .slice none 0 0, .int .i64 t.p] 104)) (v2.heap.size + 1) (some ⟨v2.heap.size, 0, none⟩) [.int .u8 (t.k : Int), .string t.s, .int .i64 t.p, .slice none 0 0, .int .i64 t.p]) := Sl.new _ _ _
        have HOA : Hid ((v2.alloc (.cells #[.int .u8 (t.k : Int), .string t.s, .int .i64 t.p, .slice none 0 0, .int .i64 t.p] 104)).ownsRow w.heap.size 104 5 (.slice X us.length d) us.length (tcs us)) := HO2.out.alloc _
        have HWA : Hid (Below w.heap.size w (v2.alloc (.cells #[.int .u8 (t.k : Int), .string t.s, .int .i64 t.p, .slice none 0 0, .int .i64 t.p] 104))) := HW2.out.alloc HW2.out.size _
        have HDA : Hid (Deep (v2.alloc (.cells #[.int .u8 (t.k : Int), .string t.s, .int .i64 t.p, .slice none 0 0, .int .i64 t.p] 104)) (Sep w.heap.size (.slice X us.length d)) (us ++ [(Tr.mk t none 0 [] t.p)])) := (HD2.out.sep.below ((zB _ _).alloc (zL _) _)).append (Deep.one (SlC.nil _ _ _) (zL 0) (Deep.nil _ _))
        go_wp2_with (first | (at_builtin; refine wpList_catAt rfl _ _ 42 rfl 104 (.agg #[.int .u8 0, .string ⟨#[]⟩, .int .i64 0, .slice none 0 0, .int .i64 0]) 5 64 Tryz.underlying42 infoTree rfl (by decide) (by decide) w.heap.size X us.length d (tcs us) rfl HOA.out _ (some ⟨v2.heap.size, 0, none⟩) 1 1 [.int .u8 (t.k : Int), .string t.s, .int .i64 t.p, .slice none 0 0, .int .i64 t.p] rfl rfl (by decide) HNW.out (by simp [Value.oneCell']) (by omega) HWA.out.size ?_))
        intro X4 d4 w4 hown4 hb4 hg4 hat4
        have HO4 : Hid (w4.ownsRow w.heap.size 104 5 (.slice X4 (us ++ [(Tr.mk t none 0 [] t.p)]).length d4) (us ++ [(Tr.mk t none 0 [] t.p)]).length (tcs (us ++ [(Tr.mk t none 0 [] t.p)]))) := by
         rw [tcs_append, tcs_one, zA7]
         exact hown4
        have HD4 : Hid (Deep w4 (Sep w.heap.size (.slice X4 (us ++ [(Tr.mk t none 0 [] t.p)]).length d4)) (us ++ [(Tr.mk t none 0 [] t.p)])) := by
         have hz : (v2.alloc (.cells #[.int .u8 (t.k : Int), .string t.s, .int .i64 t.p, .slice none 0 0, .int .i64 t.p] 104)).heap.size = v2.heap.size + 1 := by simp
         refine HDA.out.grown hg4 ?_
         rw [zA7, List.length_singleton, hz]
         exact hat4
        have HW4 := zh (HWA.out.trans hb4)
        clear hown4 hb4 hg4 hat4 HNW HOA HWA HDA
        go_wp2
        go_roundw
        case rel => exact ⟨i + 1, us ++ [Tr.mk t none 0 [] t.p], s3, r, X4, d4, by rw [zA7, List.length_singleton], by go_num, by simp only [zA8] at hin; omega, HO4, HD4, HSP3, HER3, HDR1, HW4⟩
        case measure => simp [intOf]; omega
      | @node _ cc l1 l2 ks r h0 h1 hs1 hs2 =>
        have hdk : l.drop i = t :: (l1 ++ cc :: (l2 ++ post)) := by rw [hdr]; simp
        have hdk1 : l.drop (i + 1) = l1 ++ (cc :: (l2 ++ post)) := by rw [hdr1]; simp
        have hdk2 : l.drop (i + 1 + l1.length) = cc :: (l2 ++ post) := by rw [← List.drop_drop, hdk1, List.drop_left]
        obtain ⟨hkn, hgk, hdk3⟩ := HGET.out _ _ _ hdk2
        have hne : (((cl t.k : Nat) : Int) != 0) = true := by simp; omega
        have HCL := zh hcl; clear hcl
        have hpt := HPT.out i v2 (HA.out.below HW2.out) (by omega)
        rw [hdk, pt_node h0 h1 hs1] at hpt
        have hke : i + 1 + l1.length + 1 + l2.length = en := by
         simp only [zA8, zA7] at hin; omega
        have hnk : (nodes ks).length ≤ N := by
         have h := HNT.out
         rw [← her, nodes_append] at h
         simp only [nodes, zA7, zA8] at h
         omega
        have hcall := HGO.out ks l1 (cc :: (l2 ++ post)) (i + 1 + l1.length) hnk (i + 1) hdk1 hs1 rfl v2 (HA.out.below HW2.out)
        rw [show ((i + 1 : Nat) : Int) = (i : Int) + 1 by omega] at hcall
        have HSP3 := zh hs2
        have HER3 : Hid (∀ XK dk vs, er vs = ks → er (us ++ [Tr.mk t XK dk vs cc.p]) ++ r = ts) := fun XK dk vs hv => by
         rw [er_append, ← her, List.append_assoc]
         congr 1
         simp [er, hv]
        have HDR3 := zh hdk3
        have HKC := zh (HCC.out _ hkn)
        rw [hgk] at HKC
        generalize hkk : i + 1 + l1.length = k at *
        have hki : i < k := by omega
        have hpt' := zh hpt; clear hpt
        have hcall' := zh hcall; clear hcall
        clear h0 h1 hs1 hs2 her hdr hdr1 hgt hdk hdk1 hdk2 hdk3 hgk hnk hkk
        generalize cl t.k = q at *
        go_wp2_with fail
        refine HCL.out.mono ?_
        rintro e w' ⟨rfl, rfl⟩
        go_wp2_with fail
        refine hpt'.out.mono ?_
        rintro e w' ⟨rfl, rfl⟩
        go_wp2_with fail
        refine hcall'.out.mono ?_
        rintro e w3 ⟨hb3, XK, dk, vs, rfl, hown3, hvs, hdp3⟩
        have hr3 := HR2.out.below hb3 hzr
        have b0 := (hr3.cell 0).trans rfl
        have b1 := (hr3.cell 1).trans rfl
        have b2 := (hr3.cell 2).trans rfl
        have b3 := (hr3.cell 3).trans rfl
        have b4 := (hr3.cell 4).trans rfl
        have f3 := hr3.free 3
        have f4 := hr3.free 4
        have HW3 := zh (HW2.out.trans (hb3.mono HW2.out.size))
        have hkc := (HKC.out w3 HW3.out).2.2
        have HER4 := zh (HER3.out XK dk vs hvs)
        have HB3 := zh hb3
        have HO3 := zh (own_below HO2.out hb3 (zL _))
        have HD3 := zh (HD2.out.below hb3)
        have HR3 := zh hr3
        have HVC : Hid (vs.length ≤ dk) := own_cap_le hown3
        have HDY : Hid (SlC w3 (SepN w.heap.size (.slice X us.length d) g9) XK (tcs vs) ∧ Deep w3 (SepN w.heap.size (.slice X us.length d) g9) vs) := by
         have hs : ∀ b, v2.heap.size ≤ b → SepN w.heap.size (.slice X us.length d) g9 b := fun b hb => ⟨⟨by omega, fun e => by have := HOB.out b e.symm; omega⟩, by omega⟩
         exact ⟨SlC.of_own hown3 (fun b hb _ => hs b hb), hdp3.keep (zL _) (fun _ _ _ => rfl) (fun b _ h => hs b h.1)⟩
        have HV9 : Hid (Deep ((w3.setCell ⟨g9, 3, none⟩ (.slice XK vs.length dk)).setCell ⟨g9, 4, none⟩ (.int .i64 cc.p)) (Sep w.heap.size (.slice X us.length d)) (us ++ [(Tr.mk t XK dk vs cc.p)])) :=
         (((HD3.out.append (Deep.one (x := (Tr.mk t XK dk vs cc.p)) HDY.out.1 HVC.out HDY.out.2)).away 3 _).away 4 _).sep
        have hne9 : (Value.slice X us.length d).ownBlock ≠ some g9 := fun e => by have := HOB.out g9 e; omega
        have HOV := zh (own_far (own_far HO3.out hne9 3 (.slice XK vs.length dk)) hne9 4 (.int .i64 cc.p))
        have hw9 : w.heap.size ≤ g9 := hzs
        have HWV := zh ((HW3.out.setCell (p := ⟨g9, 3, none⟩) hw9 (.slice XK vs.length dk)).setCell (p := ⟨g9, 4, none⟩) hw9 (.int .i64 cc.p))
        have hgz : ((w3.setCell ⟨g9, 3, none⟩ (.slice XK vs.length dk)).setCell ⟨g9, 4, none⟩ (.int .i64 cc.p)).heap.size = w3.heap.size := by simp [World.setCell]
        have HNV : Hid (Sl (((w3.setCell ⟨g9, 3, none⟩ (.slice XK vs.length dk)).setCell ⟨g9, 4, none⟩ (.int .i64 cc.p)).alloc (.cells #[.int .u8 (t.k : Int), .string t.s, .int .i64 t.p, .slice XK vs.length dk, .int .i64 cc.p] 104)) (w3.heap.size + 1) (some ⟨w3.heap.size, 0, none⟩) [.int .u8 (t.k : Int), .string t.s, .int .i64 t.p, .slice XK vs.length dk, .int .i64 cc.p]) := by
         have h := Sl.new ((w3.setCell ⟨g9, 3, none⟩ (.slice XK vs.length dk)).setCell ⟨g9, 4, none⟩ (.int .i64 cc.p)) 104 [.int .u8 (t.k : Int), .string t.s, .int .i64 t.p, .slice XK vs.length dk, .int .i64 cc.p]
         rw [hgz] at h
         exact h
        clear hb3 hr3 hown3 hvs hdp3 HER3 HKC hpt' hcall' HCL HR2 HO2 HD2 HDY HO3 HD3 hgz hne9
        have HNW : Hid (Sl (((w3.setCell ⟨g9, 3, none⟩ (.slice XK vs.length dk)).setCell ⟨g9, 4, none⟩ (.int .i64 cc.p)).alloc (.cells #[.int .u8 (t.k : Int), .string t.s, .int .i64 t.p, .slice XK vs.length dk, .int .i64 cc.p] 104)) (w3.heap.size + 1) (some ⟨w3.heap.size, 0, none⟩) [.int .u8 (t.k : Int), .string t.s, .int .i64 t.p, .slice XK vs.length dk, .int .i64 cc.p]) := HNV.out
        have HOA : Hid ((((w3.setCell ⟨g9, 3, none⟩ (.slice XK vs.length dk)).setCell ⟨g9, 4, none⟩ (.int .i64 cc.p)).alloc (.cells #[.int .u8 (t.k : Int), .string t.s, .int .i64 t.p, .slice XK vs.length dk, .int .i64 cc.p] 104)).ownsRow w.heap.size 104 5 (.slice X us.length d) us.length (tcs us)) := own_below HOV.out ((zB _ _).alloc (zL _) _) (zL _)
        have HWA : Hid (Below w.heap.size w (((w3.setCell ⟨g9, 3, none⟩ (.slice XK vs.length dk)).setCell ⟨g9, 4, none⟩ (.int .i64 cc.p)).alloc (.cells #[.int .u8 (t.k : Int), .string t.s, .int .i64 t.p, .slice XK vs.length dk, .int .i64 cc.p] 104))) := HWV.out.alloc HWV.out.size _
        have HDA : Hid (Deep (((w3.setCell ⟨g9, 3, none⟩ (.slice XK vs.length dk)).setCell ⟨g9, 4, none⟩ (.int .i64 cc.p)).alloc (.cells #[.int .u8 (t.k : Int), .string t.s, .int .i64 t.p, .slice XK vs.length dk, .int .i64 cc.p] 104)) (Sep w.heap.size (.slice X us.length d)) (us ++ [(Tr.mk t XK dk vs cc.p)])) := (Deep.below HV9.out ((zB _ _).alloc (zL _) _))
        go_wp2_with (first | (at_builtin; refine wpList_catAt rfl _ _ 42 rfl 104 (.agg #[.int .u8 0, .string ⟨#[]⟩, .int .i64 0, .slice none 0 0, .int .i64 0]) 5 64 Tryz.underlying42 infoTree rfl (by decide) (by decide) w.heap.size X us.length d (tcs us) rfl HOA.out _ (some ⟨w3.heap.size, 0, none⟩) 1 1 [.int .u8 (t.k : Int), .string t.s, .int .i64 t.p, .slice XK vs.length dk, .int .i64 cc.p] rfl rfl (by decide) HNW.out (by simp [Value.oneCell']) (by omega) HWA.out.size ?_))
        intro X4 d4 w4 hown4 hb4 hg4 hat4
        have HO4 : Hid (w4.ownsRow w.heap.size 104 5 (.slice X4 (us ++ [(Tr.mk t XK dk vs cc.p)]).length d4) (us ++ [(Tr.mk t XK dk vs cc.p)]).length (tcs (us ++ [(Tr.mk t XK dk vs cc.p)]))) := by
         rw [tcs_append, tcs_one, zA7]
         exact hown4
        have HD4 : Hid (Deep w4 (Sep w.heap.size (.slice X4 (us ++ [(Tr.mk t XK dk vs cc.p)]).length d4)) (us ++ [(Tr.mk t XK dk vs cc.p)])) := by
         have hz : (((w3.setCell ⟨g9, 3, none⟩ (.slice XK vs.length dk)).setCell ⟨g9, 4, none⟩ (.int .i64 cc.p)).alloc (.cells #[.int .u8 (t.k : Int), .string t.s, .int .i64 t.p, .slice XK vs.length dk, .int .i64 cc.p] 104)).heap.size = w3.heap.size + 1 := by simp [World.setCell]
         refine HDA.out.grown hg4 ?_
         rw [zA7, List.length_singleton, hz]
         exact hat4
        have HW4 := zh (HWA.out.trans hb4)
        clear hown4 hb4 hg4 hat4 HNW HOA HWA HDA
        go_wp2
        go_roundw
        case rel => exact ⟨k + 1, us ++ [(Tr.mk t XK dk vs cc.p)], l2, r, X4, d4, by rw [zA7, List.length_singleton], by go_num, by omega, HO4, HD4, HSP3, HER4, HDR3, HW4⟩
        case measure => simp [intOf]; omega
def Rt (B : Nat) (R : Except Int (List Tr)) (e : Ending) (w w' : World) : Prop := Below B w w' ∧
 match R with
 | .ok ts => ∃ X d us, e = .returned (.tuple #[.slice X us.length d, .agg #[.int .i64 0, .int .i64 0]]) ∧ er us = ts ∧ us.length ≤ d ∧ Trs w' w'.heap.size X us
 | .error p => e = .returned (.tuple #[.slice none 0 0, .agg #[.int .i64 2, .int .i64 p]])
end
section
open Go.RowKit LX TR
theorem Deep.off {w : World} {B C g : Nat} {v : Value} {l : List Tr} (h : Deep w (Sep B v) l) (hg : g < B) (o : Nat) (u : Value) (hC : ∀ b, B ≤ b → C ≤ b) : Deep (w.setCell ⟨g, o, none⟩ u) (Sep C v) l :=
 h.keep (by simp [World.setCell]) (fun b _ hk => by
  have hne : g ≠ b := fun e => by have := hk.1; omega
  simp only [World.setCell, Array.getElem?_modify, if_neg hne]) (fun b _ h => ⟨hC b h.1, h.2⟩)
theorem refRead9_any (A : Option Addr) (c : Nat) (l : List Tk) (w : World) (hl : l.length ≤ 1073741824) (hA : Toks w A l) :
 Calls Tryz.prog 17 #[.slice A l.length c] w (Rt w.heap.size (parse l) · w ·) := by
 have HA := zh hA; clear hA
 have HFC := zh (fun W (h : Toks W A l) => refFault9_any A c l W (by omega) h)
 have HG := zh (RowAt.new w 39 #[.int .i64 0, .int .i64 0])
 have HB0 : Hid (Below w.heap.size w (w.alloc (.cells #[.int .i64 0, .int .i64 0] 39))) := (zB _ _).alloc (zL _) _
 have HA0 := zh (HA.out.alloc (.cells #[.int .i64 0, .int .i64 0] 39))
 show Calls Tryz.prog 17 #[.slice A l.length c] w (fun e w' => Rt w.heap.size (parse l) e w w')
 cases hR : parse l with
 | error p =>
   rw [hR] at HFC
   clear hR
   generalize hn : l.length = n at *
   have HN := zh hn; clear hn
   go_enter Tryz.func17, Tryz.ntmps17
   go_wp2_with fail
   refine (HFC.out _ HA0.out).mono ?_
   rintro e w1 ⟨⟨z, rfl, j, rfl, hj, hp⟩, hb1⟩
   rw [HN.out] at hj
   have HB1 := zh (HB0.out.trans (hb1.mono HB0.out.size))
   have HG1 := zh (HG.out.below hb1 HG.out.lt)
   obtain ⟨b, o, rfl, hbl, hc⟩ := HA.out.at (k := j) (by rw [HN.out]; exact hj)
   have hc2 := (hc j (by rw [HN.out]; exact hj)).2.2
   rw [hp] at hc2
   replace hc2 := (HB1.out.cell (p := ⟨b, o + j * 3 + 2, none⟩) hbl).trans hc2
   clear hc hp hb1
   go_upto_region 3 with fail
   obtain ⟨S, HS, HKK, keepS⟩ := ex_low w.heap.size (fun W => W.cell? ⟨b, o + j * 3 + 2, none⟩ = some (.int .i64 p)) (fun _ _ h hb => (hb.cell (p := ⟨b, o + j * 3 + 2, none⟩) hbl).trans h) w1 hc2
   have C0 : ∀ w', S w' → w'.cell? ⟨b, o + j * 3 + 2, none⟩ = some (.int .i64 p) := fun w' h => HKK.out w' h
   refine wp_region_ord S [(0, true), (1, true), (2, true), (3, true), (4, true), (5, true), (6, true), (7, false)] (by kernel_rfl) (by kernel_rfl) rfl (by kernel_rfl) HS.out ?_
   iterate 7
    (refine wpOrd_step (zO rfl) ?_)
    (first
         | (refine wpOrd_skip (by rfl) ?_)
         | (refine wpOrd_take (v := ?_) (by rfl) ?_ ?_; rotate_left 1; (intro wx hSx; have hc_0 := C0 wx hSx; go_simp; try with_reducible rfl)))
    (try simp only [Act.put, zA4, zA5, zA6])
   (refine wpOrd_solo (zO rfl) ?_)
   intro K hK
   rw [if_pos (by rfl)]
   refine wp_store_row _ _ _ rfl w.heap.size #[.int .i64 2, .int .i64 p] rfl rfl _ _ (HG1.out.drew) (fault_info _ _) rfl (by simp [Value.oneCell']) ?_
   have hrow2 := HG1.out.drew.setRow #[.int .i64 2, .int .i64 p]
   have hS := keepS.out _ _ HS.out (below_setRow (B := w.heap.size) (w := w1.drew) (g := w.heap.size) (zL _) #[.int .i64 2, .int .i64 p])
   have HB2 : Hid (Below w.heap.size w (w1.drew.setRow w.heap.size #[.int .i64 2, .int .i64 p])) := HB1.out.drew.trans (below_setRow (zL _) _)
   clear HS
   have HS := zh hS; clear hS
   refine hK.out _ _ HS.out ?_
   clear hK K
   simp only [Act.put]
   refine wpOrd_done ?_
   go_wp2
   exact bodyPost_ret (ret_slot_cell rfl _ _ _ w.heap.size _ _ (0, 0) _ rfl rfl hrow2 Tryz.underlying39 rfl (fault_info _ _)) rfl ⟨HB2.out, rfl⟩
 | ok ts =>
   rw [hR] at HFC
   obtain ⟨hsp, hdp⟩ := parse_spells hR
   have hnl := spells_length hsp
   have HT := zh (fun W (h : Toks W A l) => trees_any (nodes ts).length ts l [] A c 0 l.length l W (zL _) (by omega) (by rw [List.drop_zero, List.append_nil]) hsp (by omega) hl h)
   clear hR hsp hdp hnl
   generalize hn : l.length = n at *
   have HN := zh hn; clear hn
   go_enter Tryz.func17, Tryz.ntmps17
   go_wp2_with fail
   refine (HFC.out _ HA0.out).mono ?_
   rintro e w1 ⟨⟨z, rfl, hz⟩, hb1⟩
   have hz' : z = -1 := hz
   subst hz'
   have HB1 := zh (HB0.out.trans (hb1.mono HB0.out.size))
   have HG1 := zh (HG.out.below hb1 HG.out.lt)
   have HA1 := zh (HA0.out.below hb1)
   clear hb1 hz
   have hg01 : w.heap.size < w1.heap.size := HG1.out.lt
   go_wp2_with fail
   refine (HT.out _ HA1.out).mono ?_
   rintro e w2 ⟨hb2, X, d, us, rfl, hown, hus, hdp⟩
   have HB2 := zh (HB1.out.trans (hb2.mono HB1.out.size))
   have hg2 := HG1.out.below hb2 HG1.out.lt
   have g20 := (hg2.cell 0).trans rfl
   have g21 := (hg2.cell 1).trans rfl
   have f20 := hg2.free 0
   have f21 := hg2.free 1
   have HG2 := zh hg2; clear hg2
   have HOW := zh (own_cell (own_cell hown (p := ⟨w.heap.size, 0, none⟩) hg01 (.int .i64 0)) (p := ⟨w.heap.size, 1, none⟩) hg01 (.int .i64 0))
   have HDW := zh ((hdp.off hg01 0 (.int .i64 0) (fun _ h => h)).off hg01 1 (.int .i64 0) (fun _ h => h))
   have HUS := zh hus
   have HCP := zh (own_cap_le hown)
   clear hb2 hown hus hdp
   generalize hm : us.length = m at *
   have HM := zh hm; clear hm
   go_wp2
   have hgf := (HG2.out.put 0 (.int .i64 0)).put 1 (.int .i64 0)
   exact bodyPost_ret (ret_slot_cell rfl _ _ _ w.heap.size _ _ (0, 0) _ rfl rfl hgf Tryz.underlying39 rfl (fault_info _ _)) rfl
    ⟨(HB2.out.setCell (p := ⟨w.heap.size, 0, none⟩) (zL _) _).setCell (p := ⟨w.heap.size, 1, none⟩) (zL _) _, X, d, us, by rw [HM.out]; rfl, HUS.out, by rw [HM.out]; exact HCP.out, HDW.out.trs (Sl.of_own HOW.out)⟩
end
end Go.Proofs.YtmffnkfohmbbeaaGreatDoor
