/-
  Plain words of layer 9: trees, what stands in them, reading by a stack, spelling. Conditions: none.
-/
import Derived.Test.YtnaaejemanmgnaaLexP
namespace Go.Proofs.Ytnaaejemanmgnaa
namespace TR
open LX

/-- A tree: its token, where its Kids lie and how much room is there (not looked at by what is said of trees), its Kids, its End. -/
inductive Tr where
  | mk (t : Tk) (A : Option Addr) (c : Nat) (ks : List Tr) (e : Int)
def Tr.t : Tr → Tk | .mk t _ _ _ _ => t
def Tr.A : Tr → Option Addr | .mk _ A _ _ _ => A
def Tr.c : Tr → Nat | .mk _ _ c _ _ => c
def Tr.ks : Tr → List Tr | .mk _ _ _ ks _ => ks
def Tr.e : Tr → Int | .mk _ _ _ _ e => e
theorem Tr.eta (x : Tr) : x = .mk x.t x.A x.c x.ks x.e := by cases x; rfl
def r0 : Tr := .mk t0 none 0 [] 0
/-- The closing kind of a kind. -/
def cl (k : Nat) : Nat := if k = 40 then 41 else if k = 123 then 125 else if k = 91 then 93 else 0
def cls (k : Nat) : Bool := decide (k = 41) || (decide (k = 125) || decide (k = 93))
/-- A text of one byte. -/
def chr (k : Nat) : ByteArray := ⟨#[k.toUInt8]⟩

theorem ind {P : List Tr → Prop} (h0 : P []) (h1 : ∀ t A c ks e r, P ks → P r → P (.mk t A c ks e :: r)) : ∀ l, P l
  | [] => h0
  | .mk t A c ks e :: r => h1 t A c ks e r (ind h0 h1 ks) (ind h0 h1 r)

/-- All trees, within one another as well. -/
def nodes : List Tr → List Tr
  | [] => []
  | .mk t A c ks e :: r => .mk t A c ks e :: (nodes ks ++ nodes r)
/-- Trees without what is not looked at. -/
def er : List Tr → List Tr
  | [] => []
  | .mk t _ _ ks e :: r => .mk t none 0 (er ks) e :: er r
/-- What is met on the way through: tokens, and how many brackets are open more. -/
def evs : List Tr → List (Tk × Int)
  | [] => []
  | .mk t _ _ ks e :: r => if cl t.k = 0 then (t, 0) :: evs r else (t, 1) :: (evs ks ++ (⟨cl t.k, chr (cl t.k), e⟩, -1) :: evs r)
def flat (l : List Tr) : List Tk := (evs l).map (·.1)
def dep : List Tr → Nat
  | [] => 0
  | .mk t _ _ ks _ :: r => max (if cl t.k = 0 then 0 else 1 + dep ks) (dep r)
def same : List Tr → List Tr → Bool
  | [], [] => true
  | .mk t _ _ ks e :: r, .mk u _ _ js f :: q => (decide (t = u) && (decide (e = f) && same ks js)) && same r q
  | _, _ => false

theorem nodes_append (a b : List Tr) : nodes (a ++ b) = nodes a ++ nodes b := by
  induction a with
  | nil => simp [nodes]
  | cons x a ih => cases x; simp [nodes, ih]
theorem er_append (a b : List Tr) : er (a ++ b) = er a ++ er b := by
  induction a with
  | nil => simp [er]
  | cons x a ih => cases x; simp [er, ih]
theorem evs_append (a b : List Tr) : evs (a ++ b) = evs a ++ evs b := by
  induction a with
  | nil => simp [evs]
  | cons x a ih =>
    cases x
    simp only [List.cons_append, evs, ih]
    split <;> simp
theorem dep_append (a b : List Tr) : dep (a ++ b) = max (dep a) (dep b) := by
  induction a with
  | nil => simp [dep]
  | cons x a ih => cases x; simp only [List.cons_append, dep, ih]; omega
theorem flat_append (a b : List Tr) : flat (a ++ b) = flat a ++ flat b := by simp [flat, evs_append]
theorem er_length (l : List Tr) : (er l).length = l.length := by
  induction l with
  | nil => simp [er]
  | cons x a ih => cases x; simp [er, ih]
theorem evs_er : ∀ l, evs (er l) = evs l := by
  refine ind (by simp [er]) fun t A c ks e r h1 h2 => ?_
  simp only [er, evs, h1, h2]
theorem flat_er (l : List Tr) : flat (er l) = flat l := by unfold flat; rw [evs_er]
theorem dep_er : ∀ l, dep (er l) = dep l := by
  refine ind (by simp [er]) fun t A c ks e r h1 h2 => ?_
  simp only [er, dep, h1, h2]
theorem er_er : ∀ l, er (er l) = er l := by
  refine ind (by simp [er]) fun t A c ks e r h1 h2 => ?_
  simp only [er, h1, h2]
theorem nodes_er : ∀ l, (nodes (er l)).length = (nodes l).length := by
  refine ind (by simp [er]) fun t A c ks e r h1 h2 => ?_
  simp only [er, nodes, List.length_cons, List.length_append, h1, h2]
theorem same_er : ∀ a b, same a b = true ↔ er a = er b := by
  refine ind (fun b => ?_) fun t A c ks e r h1 h2 b => ?_
  · cases b with
    | nil => simp [same]
    | cons y b => cases y; simp [same, er]
  · cases b with
    | nil => simp [same, er]
    | cons y b =>
      obtain ⟨u, B, d, js, f⟩ := y
      rw [same, Bool.and_eq_true, Bool.and_eq_true, Bool.and_eq_true, h1, h2]
      simp only [decide_eq_true_eq, er, List.cons.injEq, Tr.mk.injEq, true_and]
      constructor
      · rintro ⟨⟨rfl, rfl, h3⟩, h4⟩; exact ⟨⟨rfl, h3, rfl⟩, h4⟩
      · rintro ⟨⟨rfl, h3, rfl⟩, h4⟩; exact ⟨⟨rfl, rfl, h3⟩, h4⟩
theorem same_refl (a : List Tr) : same a a = true := (same_er a a).2 rfl
theorem mem_nodes {l : List Tr} {x : Tr} (h : x ∈ l) : x ∈ nodes l := by
  induction l with
  | nil => cases h
  | cons y l ih =>
    obtain ⟨t, A, c, ks, e⟩ := y
    rw [nodes]
    rcases List.mem_cons.1 h with rfl | h
    · exact List.mem_cons_self
    · exact List.mem_cons_of_mem _ (List.mem_append_right _ (ih h))
theorem mem_kids {l : List Tr} {x y : Tr} (h : x ∈ l) (hy : y ∈ nodes x.ks) : y ∈ nodes l := by
  induction l with
  | nil => cases h
  | cons z l ih =>
    obtain ⟨t, A, c, ks, e⟩ := z
    rw [nodes]
    rcases List.mem_cons.1 h with rfl | h
    · exact List.mem_cons_of_mem _ (List.mem_append_left _ hy)
    · exact List.mem_cons_of_mem _ (List.mem_append_right _ (ih h))
theorem length_nodes (l : List Tr) : l.length ≤ (nodes l).length := by
  induction l with
  | nil => simp
  | cons x l ih => cases x; simp [nodes]; omega
/-- How many trees there are, by the roots. -/
def sumN : List Tr → Nat
  | [] => 0
  | x :: r => (nodes x.ks).length + 1 + sumN r
theorem nodes_sum (l : List Tr) : (nodes l).length = sumN l := by
  induction l with
  | nil => simp [nodes, sumN]
  | cons x l ih => obtain ⟨t, A, c, ks, e⟩ := x; simp [nodes, sumN, ih, Tr.ks]; omega
theorem nodes_kid {l : List Tr} {x : Tr} (h : x ∈ l) : (nodes x.ks).length < (nodes l).length := by
  induction l with
  | nil => cases h
  | cons z l ih =>
    obtain ⟨t, A, c, ks, e⟩ := z
    rw [nodes]
    rcases List.mem_cons.1 h with rfl | h
    · show (nodes ks).length < _
      simp only [List.length_cons, List.length_append]; omega
    · have := ih h
      simp only [List.length_cons, List.length_append]; omega

/-- How deep one goes on the way. -/
def walkD : List (Tk × Int) → Int → Int → Int × Int
  | [], o, m => (o, m)
  | (_, s) :: l, o, m => walkD l (o + s) (max m (o + s))
theorem walkD_append (a b : List (Tk × Int)) (o m : Int) : walkD (a ++ b) o m = walkD b (walkD a o m).1 (walkD a o m).2 := by
  induction a generalizing o m with
  | nil => rfl
  | cons x a ih => obtain ⟨t, s⟩ := x; exact ih _ _
theorem walkD_evs : ∀ (l : List Tr) (o m : Int), o ≤ m → walkD (evs l) o m = (o, max m (o + dep l)) := by
  refine ind (fun o m h => ?_) fun t A c ks e r h1 h2 o m h => ?_
  · simp [evs, walkD, dep]; omega
  · rw [evs, dep]
    split
    · rw [walkD, h2 _ _ (by omega)]
      simp; omega
    · rw [walkD, walkD_append, h1 _ _ (by omega), walkD]
      simp only
      rw [h2 _ _ (by omega)]
      simp; omega
theorem walkD_fst (l : List (Tk × Int)) (o m m' : Int) : (walkD l o m).1 = (walkD l o m').1 := by
  induction l generalizing o m m' with
  | nil => rfl
  | cons x l ih => obtain ⟨t, s⟩ := x; exact ih _ _ _

/-- One more tree in a bracket. -/
def push (f x : Tr) : Tr := .mk f.t f.A f.c (f.ks ++ [x]) f.e
def pushs (f : Tr) (l : List Tr) : Tr := .mk f.t f.A f.c (f.ks ++ l) f.e
/-- One token read: the open brackets, the innermost first; the last one is none. -/
def mstep (st : List Tr) (t : Tk) : Option (List Tr) :=
  if cl t.k = 0 then
    if cls t.k = true then
      match st with
      | f :: g :: r => if cl f.t.k = t.k then some (push g (.mk f.t none 0 f.ks t.p) :: r) else none
      | _ => none
    else
      match st with
      | f :: r => some (push f (.mk t none 0 [] t.p) :: r)
      | [] => none
  else if st.length = 25 then none else some (.mk t none 0 [] 0 :: st)
def mrun : List Tk → List Tr → Except Int (List Tr)
  | [], [f] => .ok f.ks
  | [], f :: _ => .error f.t.p
  | [], [] => .ok []
  | t :: l, st => match mstep st t with
    | some st' => mrun l st'
    | none => .error t.p
def parse (l : List Tk) : Except Int (List Tr) := mrun l [r0]
theorem mrun_some {t : Tk} {l : List Tk} {st st' : List Tr} (h : mstep st t = some st') : mrun (t :: l) st = mrun l st' := by
  cases st <;> simp [mrun, h]
theorem mrun_none {t : Tk} {l : List Tk} {st : List Tr} (h : mstep st t = none) : mrun (t :: l) st = .error t.p := by
  cases st <;> simp [mrun, h]

/-- These tokens are those of these trees. -/
inductive Spells : List Tk → List Tr → Prop
  | nil : Spells [] []
  | leaf {t : Tk} {l : List Tk} {r : List Tr} : cl t.k = 0 → cls t.k = false → Spells l r → Spells (t :: l) (.mk t none 0 [] t.p :: r)
  | node {t c : Tk} {l1 l2 : List Tk} {ks r : List Tr} : ¬ cl t.k = 0 → c.k = cl t.k → Spells l1 ks → Spells l2 r → Spells (t :: (l1 ++ c :: l2)) (.mk t none 0 ks c.p :: r)
theorem Spells.append {a b : List Tk} {x y : List Tr} (h : Spells a x) (h2 : Spells b y) : Spells (a ++ b) (x ++ y) := by
  induction h with
  | nil => exact h2
  | leaf h3 h4 _ ih => exact .leaf h3 h4 ih
  | node h3 h4 h5 _ _ ih =>
    have := Spells.node h3 h4 h5 ih
    simpa using this
theorem cl_cases (k : Nat) : (k = 40 ∧ cl k = 41) ∨ (k = 123 ∧ cl k = 125) ∨ (k = 91 ∧ cl k = 93) ∨ (k ≠ 40 ∧ k ≠ 123 ∧ k ≠ 91 ∧ cl k = 0) := by unfold cl; split <;> (try split) <;> (try split) <;> omega
theorem cls_cl {k : Nat} (h : ¬ cl k = 0) : cl (cl k) = 0 ∧ cls (cl k) = true ∧ cls k = false := by
  rcases cl_cases k with ⟨rfl, h⟩ | ⟨rfl, h⟩ | ⟨rfl, h⟩ | ⟨_, _, _, h2⟩
  · exact ⟨by decide, by decide, by decide⟩
  · exact ⟨by decide, by decide, by decide⟩
  · exact ⟨by decide, by decide, by decide⟩
  · exact absurd h2 h
theorem cls_cl0 {k : Nat} (h : cls k = true) : cl k = 0 := by
  rcases cl_cases k with ⟨rfl, _⟩ | ⟨rfl, _⟩ | ⟨rfl, _⟩ | ⟨_, _, _, h2⟩
  · cases h
  · cases h
  · cases h
  · exact h2

/-- What the open brackets hold. -/
def Stk : List Tr → List Tk → Prop
  | [], _ => False
  | [f], p => f.t = t0 ∧ Spells p f.ks ∧ dep f.ks ≤ 24
  | f :: g :: st, p => ∃ p1 s, p = p1 ++ f.t :: s ∧ ¬ cl f.t.k = 0 ∧ Spells s f.ks ∧ dep f.ks + (g :: st).length ≤ 24 ∧ Stk (g :: st) p1
theorem dep_one (x : Tr) (n : Nat) (h : dep [x] ≤ n) (l : List Tr) (hl : dep l ≤ n) : dep (l ++ [x]) ≤ n := by rw [dep_append]; omega
theorem Stk.push {f x : Tr} {st : List Tr} {p s : List Tk} (h : Stk (f :: st) p) (hs : Spells s [x]) (hd : dep [x] + st.length ≤ 24) : Stk (push f x :: st) (p ++ s) := by
  obtain ⟨t, A, c, ks, e⟩ := f
  cases st with
  | nil =>
    obtain ⟨h1, h2, h3⟩ := h
    exact ⟨h1, h2.append hs, by simp only [List.length_nil] at hd; exact dep_one _ _ (by omega) _ h3⟩
  | cons g st =>
    obtain ⟨p1, q, rfl, h1, h2, h3, h4⟩ := h
    refine ⟨p1, q ++ s, by simp [TR.push, Tr.t], h1, h2.append hs, ?_, h4⟩
    have h5 : dep (ks ++ [x]) = max (dep ks) (dep [x]) := dep_append _ _
    show dep (ks ++ [x]) + _ ≤ 24
    have h3' : dep ks + (g :: st).length ≤ 24 := h3
    rw [h5]
    omega
theorem mrun_spells : ∀ (l : List Tk) (st : List Tr) (p : List Tk) (ts : List Tr), Stk st p → st.length ≤ 25 → mrun l st = .ok ts → Spells (p ++ l) ts ∧ dep ts ≤ 24
  | [], [], _, _, h, _, _ => absurd h (by simp [Stk])
  | [], [f], p, ts, h, _, hr => by
    obtain ⟨h1, h2, h3⟩ := h
    obtain rfl : f.ks = ts := by simpa [mrun] using hr
    exact ⟨by simpa using h2, h3⟩
  | [], f :: g :: st, p, ts, h, _, hr => by simp [mrun] at hr
  | t :: l, st, p, ts, h, hl, hr => by
    cases hm : mstep st t with
    | none => rw [mrun_none hm] at hr; cases hr
    | some st' =>
      rw [mrun_some hm] at hr
      have hgo : Stk st' (p ++ [t]) ∧ st'.length ≤ 25 := by
        unfold mstep at hm
        split at hm
        · rename_i h0
          split at hm
          · rename_i hc
            match st, h, hl, hm with
            | f :: g :: r, h, hl, hm =>
              simp only at hm
              split at hm
              · rename_i hk
                obtain rfl := Option.some.inj hm
                obtain ⟨p1, s, rfl, h1, h2, h3, h4⟩ := h
                have hsp : Spells (f.t :: (s ++ t :: [])) [.mk f.t none 0 f.ks t.p] := .node h1 hk.symm h2 .nil
                have h6 := h4.push hsp (by simp only [dep, if_neg h1]; simp only [List.length_cons] at h3; omega)
                exact ⟨by simpa using h6, by simp at hl ⊢; omega⟩
              · cases hm
            | [f], h, hl, hm => simp at hm
          · rename_i hc
            match st, h, hl, hm with
            | f :: r, h, hl, hm =>
              obtain rfl := Option.some.inj hm
              have hsp : Spells [t] [.mk t none 0 [] t.p] := .leaf h0 (by simpa using hc) .nil
              exact ⟨h.push hsp (by simp only [dep, if_pos h0]; simp at hl ⊢; omega), by simpa using hl⟩
        · rename_i h0
          split at hm
          · cases hm
          · rename_i h25
            obtain rfl := Option.some.inj hm
            match st, h, hl with
            | g :: r, h, hl =>
              exact ⟨⟨p, [], rfl, h0, .nil, by simp [Tr.ks, dep] at hl h25 ⊢; omega, h⟩, by simp at hl h25 ⊢; omega⟩
      have := mrun_spells l st' (p ++ [t]) ts hgo.1 hgo.2 hr
      simpa using this
theorem parse_spells {l : List Tk} {ts : List Tr} (h : parse l = .ok ts) : Spells l ts ∧ dep ts ≤ 24 := by
  have := mrun_spells l [r0] [] ts ⟨rfl, .nil, by simp [r0, Tr.ks, dep]⟩ (by simp) h
  simpa using this
theorem pushs_nil (f : Tr) : pushs f [] = f := by cases f; simp [pushs, Tr.t, Tr.A, Tr.c, Tr.ks, Tr.e]
theorem pushs_push (f x : Tr) (l : List Tr) : pushs (push f x) l = pushs f (x :: l) := by cases f; simp [pushs, push, Tr.t, Tr.A, Tr.c, Tr.ks, Tr.e]
theorem spells_mrun {s : List Tk} {ts : List Tr} (h : Spells s ts) : ∀ (f : Tr) (st : List Tr) (l : List Tk), st.length + dep ts ≤ 24 → mrun (s ++ l) (f :: st) = mrun l (pushs f ts :: st) := by
  induction h with
  | nil => intro f st l _; rw [pushs_nil]; rfl
  | @leaf t l' r h0 h1 _ ih =>
    intro f st l hd
    rw [dep] at hd
    have hm : mstep (f :: st) t = some (push f (.mk t none 0 [] t.p) :: st) := by simp [mstep, h0, h1]
    rw [List.cons_append, mrun_some hm, ih _ _ _ (by omega), pushs_push]
  | @node t c l1 l2 ks r h0 h1 _ _ ih1 ih2 =>
    intro f st l hd
    rw [dep, if_neg h0] at hd
    have hm : mstep (f :: st) t = some (.mk t none 0 [] 0 :: f :: st) := by
      simp only [mstep, if_neg h0]
      rw [if_neg (by simp only [List.length_cons]; omega)]
    have hc := cls_cl h0
    have hm2 : mstep (pushs (.mk t none 0 [] 0) ks :: f :: st) c = some (push f (.mk t none 0 ks c.p) :: st) := by
      simp [mstep, h1, hc.1, hc.2.1, pushs, Tr.t, Tr.ks]
    rw [List.cons_append, mrun_some hm, List.append_assoc, ih1 _ _ _ (by simp only [List.length_cons]; omega), List.cons_append, mrun_some hm2, ih2 _ _ _ (by omega), pushs_push]
theorem spells_deep {s : List Tk} {ts : List Tr} (h : Spells s ts) : ∀ (f : Tr) (st : List Tr) (l : List Tk), 24 < st.length + dep ts → st.length ≤ 24 → ∃ p, mrun (s ++ l) (f :: st) = .error p := by
  induction h with
  | nil => intro f st l h1 h2; simp only [dep] at h1; omega
  | @leaf t l' r h0 h1 _ ih =>
    intro f st l hd hl
    rw [dep, if_pos h0] at hd
    have hm : mstep (f :: st) t = some (push f (.mk t none 0 [] t.p) :: st) := by simp [mstep, h0, h1]
    rw [List.cons_append, mrun_some hm]
    exact ih _ _ _ (by omega) hl
  | @node t c l1 l2 ks r h0 h1 hs1 _ ih1 ih2 =>
    intro f st l hd hl
    rw [dep, if_neg h0] at hd
    by_cases h24 : st.length = 24
    · refine ⟨t.p, ?_⟩
      rw [List.cons_append]
      refine mrun_none ?_
      simp only [mstep, if_neg h0]
      rw [if_pos (by simp only [List.length_cons]; omega)]
    · have hm : mstep (f :: st) t = some (.mk t none 0 [] 0 :: f :: st) := by
        simp only [mstep, if_neg h0]
        rw [if_neg (by simp only [List.length_cons]; omega)]
      rw [List.cons_append, mrun_some hm, List.append_assoc]
      by_cases hk : 24 < (f :: st).length + dep ks
      · exact ih1 _ _ _ hk (by simp only [List.length_cons]; omega)
      · have hc := cls_cl h0
        have hm2 : mstep (pushs (.mk t none 0 [] 0) ks :: f :: st) c = some (push f (.mk t none 0 ks c.p) :: st) := by
          simp [mstep, h1, hc.1, hc.2.1, pushs, Tr.t, Tr.ks]
        rw [spells_mrun hs1 _ _ _ (by omega), List.cons_append, mrun_some hm2]
        simp only [List.length_cons] at hk
        exact ih2 _ _ _ (by omega) hl
theorem spells_parse {s : List Tk} {ts : List Tr} (h : Spells s ts) (hd : dep ts ≤ 24) : parse s = .ok ts := by
  have := spells_mrun h r0 [] [] (by simpa using hd)
  rw [List.append_nil] at this
  unfold parse
  rw [this]
  simp [mrun, pushs, r0, Tr.ks]
theorem spells_er {s : List Tk} {ts : List Tr} (h : Spells s ts) : er ts = ts := by
  induction h with
  | nil => simp [er]
  | leaf _ _ _ ih => simp [er, ih]
  | node _ _ _ _ ih1 ih2 => simp [er, ih1, ih2]
theorem spells_length {s : List Tk} {ts : List Tr} (h : Spells s ts) : (nodes ts).length ≤ s.length := by
  induction h with
  | nil => simp [nodes]
  | leaf _ _ _ ih => simp [nodes]; omega
  | node _ _ _ _ ih1 ih2 => simp [nodes]; omega

/-- Where the bracket ends: on from i, so many are open. -/
def pt (at' : Nat) : List Tk → Int → Nat → Nat
  | [], _, _ => at'
  | t :: l, d, i => if (d + (if cl t.k = 0 then 0 else 1)) - (if cls t.k = true then 1 else 0) = 0 then i else pt at' l ((d + (if cl t.k = 0 then 0 else 1)) - (if cls t.k = true then 1 else 0)) (i + 1)
theorem pt_spells (at' : Nat) {s : List Tk} {ts : List Tr} (h : Spells s ts) : ∀ (l : List Tk) (d : Int) (i : Nat), 1 ≤ d → pt at' (s ++ l) d i = pt at' l d (i + s.length) := by
  induction h with
  | nil => intro l d i _; rfl
  | @leaf t l' r h0 h1 _ ih =>
    intro l d i hd
    rw [List.cons_append, pt, if_pos h0, h1]
    simp only [Int.add_zero, Bool.false_eq_true, if_false, Int.sub_zero]
    rw [if_neg (by omega), ih _ _ _ hd, List.length_cons, show i + 1 + l'.length = i + (l'.length + 1) by omega]
  | @node t c l1 l2 ks r h0 h1 _ _ ih1 ih2 =>
    intro l d i hd
    have hc := cls_cl h0
    rw [List.cons_append, pt, if_neg h0, hc.2.2]
    simp only [Bool.false_eq_true, if_false, Int.sub_zero]
    rw [if_neg (by omega), List.append_assoc, ih1 _ _ _ (by omega), List.cons_append, pt, h1, if_pos hc.1, if_pos hc.2.1, if_neg (by omega), show d + 1 + 0 - 1 = d by omega, ih2 _ _ _ hd]
    simp only [List.length_cons, List.length_append]
    congr 1
    omega
theorem pt_node {t c : Tk} {l1 l2 : List Tk} {ks : List Tr} (h0 : ¬ cl t.k = 0) (h1 : c.k = cl t.k) (h : Spells l1 ks) (i : Nat) : pt i (t :: (l1 ++ c :: l2)) 0 i = i + 1 + l1.length := by
  have hc := cls_cl h0
  rw [pt, if_neg h0, hc.2.2]
  simp only [Bool.false_eq_true, if_false, Int.sub_zero]
  rw [if_neg (by omega), pt_spells _ h _ _ _ (by omega), pt, h1, if_pos hc.1, if_pos hc.2.1, if_pos (by omega)]

theorem right_cl {c : Tk} {k : Nat} (h1 : c.k = cl k) (hr : rightT c = true) : c = ⟨cl k, chr (cl k), c.p⟩ := by
  obtain ⟨q, s, p⟩ := c
  obtain rfl : q = cl k := h1
  have h97 : ¬ cl k = 97 := by rcases cl_cases k with ⟨_, h⟩ | ⟨_, h⟩ | ⟨_, h⟩ | ⟨_, _, _, h⟩ <;> omega
  rw [rightT_sign (t := ⟨cl k, s, p⟩) h97] at hr
  simp only [Bool.and_eq_true, decide_eq_true_eq] at hr
  obtain ⟨_, h2, h3⟩ := hr
  have hs : s = chr (cl k) := by
    obtain ⟨⟨d⟩⟩ := s
    match d, h2 with
    | [x], _ =>
      have h4 : x.toNat = cl k := h3
      unfold chr
      rw [← h4]
      simp
  rw [hs]
theorem spells_flat {s : List Tk} {ts : List Tr} (h : Spells s ts) (hr : ∀ t ∈ s, rightT t = true) : flat ts = s := by
  induction h with
  | nil => simp [flat, evs]
  | @leaf t l' r h0 h1 _ ih =>
    have h2 := ih fun x hx => hr x (List.mem_cons_of_mem _ hx)
    unfold flat at h2 ⊢
    rw [evs, if_pos h0, List.map_cons, h2]
  | @node t c l1 l2 ks r h0 h1 _ _ ih1 ih2 =>
    have e1 := ih1 fun x hx => hr x (by simp [hx])
    have e2 := ih2 fun x hx => hr x (by simp [hx])
    have hc := right_cl h1 (hr c (by simp))
    unfold flat at e1 e2 ⊢
    rw [evs, if_neg h0]
    simp only [List.map_cons, List.map_append, e1, e2]
    rw [← hc]
end TR
end Go.Proofs.Ytnaaejemanmgnaa
