/-
  Plain words of layer 10: nodes, and reading them from trees. Conditions: none.
-/
import Derived.Test.YtapnefhmonpgdaaTreP
namespace Go.Proofs.Ytapnefhmonpgdaa
namespace TM
open LX TR

/-- A name and where it stands. -/
structure Wd where
  s : ByteArray
  p : Int
/-- A node: kind, place, text; where its names lie and how much room is there; its names; the same of its kids. -/
inductive Nd where
  | mk (k p : Int) (s : ByteArray) (A : Option Addr) (c : Nat) (ws : List Wd) (B : Option Addr) (d : Nat) (ks : List Nd)
def Nd.k : Nd → Int | .mk k _ _ _ _ _ _ _ _ => k
def Nd.p : Nd → Int | .mk _ p _ _ _ _ _ _ _ => p
def Nd.s : Nd → ByteArray | .mk _ _ s _ _ _ _ _ _ => s
def Nd.A : Nd → Option Addr | .mk _ _ _ A _ _ _ _ _ => A
def Nd.c : Nd → Nat | .mk _ _ _ _ c _ _ _ _ => c
def Nd.ws : Nd → List Wd | .mk _ _ _ _ _ ws _ _ _ => ws
def Nd.B : Nd → Option Addr | .mk _ _ _ _ _ _ B _ _ => B
def Nd.d : Nd → Nat | .mk _ _ _ _ _ _ _ d _ => d
def Nd.ks : Nd → List Nd | .mk _ _ _ _ _ _ _ _ ks => ks
theorem Nd.eta (x : Nd) : x = .mk x.k x.p x.s x.A x.c x.ws x.B x.d x.ks := by cases x; rfl
def nd (k p : Int) (s : ByteArray) (ws : List Wd) (ks : List Nd) : Nd := .mk k p s none 0 ws none 0 ks
def n0 : Nd := nd 0 0 ⟨#[]⟩ [] []
def w0 : Wd := ⟨⟨#[]⟩, 0⟩

theorem ind {P : List Nd → Prop} (h0 : P []) (h1 : ∀ k p s A c ws B d ks r, P ks → P r → P (.mk k p s A c ws B d ks :: r)) : ∀ l, P l
  | [] => h0
  | .mk k p s A c ws B d ks :: r => h1 k p s A c ws B d ks r (ind h0 h1 ks) (ind h0 h1 r)
/-- All nodes, within one another as well. -/
def all : List Nd → List Nd
  | [] => []
  | .mk k p s A c ws B d ks :: r => .mk k p s A c ws B d ks :: (all ks ++ all r)
/-- Nodes without what is not looked at. -/
def er : List Nd → List Nd
  | [] => []
  | .mk k p s _ _ ws _ _ ks :: r => .mk k p s none 0 ws none 0 (er ks) :: er r
def er1 (x : Nd) : Nd := nd x.k x.p x.s x.ws (er x.ks)
theorem er_cons (x : Nd) (r : List Nd) : er (x :: r) = er1 x :: er r := by cases x; rw [er]; rfl
theorem er_append (a b : List Nd) : er (a ++ b) = er a ++ er b := by
  induction a with
  | nil => simp [er]
  | cons x a ih => rw [List.cons_append, er_cons, er_cons, ih]; rfl
theorem er_length (l : List Nd) : (er l).length = l.length := by
  induction l with
  | nil => simp [er]
  | cons x a ih => rw [er_cons, List.length_cons, ih, List.length_cons]
theorem all_append (a b : List Nd) : all (a ++ b) = all a ++ all b := by
  induction a with
  | nil => simp [all]
  | cons x a ih => cases x; simp [all, ih]
theorem all_cons (x : Nd) (r : List Nd) : all (x :: r) = x :: (all x.ks ++ all r) := by cases x; rw [all]; rfl
theorem mem_all {l : List Nd} {x : Nd} (h : x ∈ l) : x ∈ all l := by
  induction l with
  | nil => cases h
  | cons y l ih =>
    rw [all_cons]
    rcases List.mem_cons.1 h with rfl | h
    · exact List.mem_cons_self
    · exact List.mem_cons_of_mem _ (List.mem_append_right _ (ih h))
theorem mem_kids {l : List Nd} {x y : Nd} (h : x ∈ l) (hy : y ∈ all x.ks) : y ∈ all l := by
  induction l with
  | nil => cases h
  | cons z l ih =>
    rw [all_cons]
    rcases List.mem_cons.1 h with rfl | h
    · exact List.mem_cons_of_mem _ (List.mem_append_left _ hy)
    · exact List.mem_cons_of_mem _ (List.mem_append_right _ (ih h))
theorem length_all (l : List Nd) : l.length ≤ (all l).length := by
  induction l with
  | nil => simp
  | cons x l ih => rw [all_cons]; simp only [List.length_cons, List.length_append]; omega

/-- What was read and what is left of the trees, or where it is wrong. -/
abbrev Res (α : Type) := Except Int (α × List Tr)
abbrev Rdr (α : Type) := List Tr → Int → Res α
def bnd {α β : Type} (x : Res α) (f : α → List Tr → Res β) : Res β := match x with
  | .error p => .error p
  | .ok (a, r) => f a r
def takeR (k : Nat) : Rdr Tk := fun ts e => match ts with
  | [] => .error e
  | x :: r => if x.t.k = k then .ok (x.t, r) else .error x.t.p
def nameR : Rdr Wd := fun ts e => bnd (takeR 97 ts e) fun t r => .ok (⟨t.s, t.p⟩, r)
def moreR {α : Type} (el : Rdr α) : Nat → Rdr (List α)
  | 0 => fun ts _ => .ok ([], ts)
  | n + 1 => fun ts e => match ts with
    | [] => .ok ([], [])
    | c :: r => if c.t.k = 44 then bnd (el r e) fun x r2 => bnd (moreR el n r2 e) fun xs r3 => .ok (x :: xs, r3) else .ok ([], c :: r)
def someR {α : Type} (el : Rdr α) : Rdr (List α) := fun ts e => bnd (el ts e) fun x r => bnd (moreR el ts.length r e) fun xs r3 => .ok (x :: xs, r3)
def optR {α : Type} (el : Rdr α) : Rdr (List α) := fun ts e => match ts with
  | [] => .ok ([], [])
  | x :: r => if x.t.k = 124 then .ok ([], x :: r) else someR el (x :: r) e
def withinR {α : Type} (k : Nat) (content : Rdr α) : Rdr α := fun ts e => match ts with
  | [] => .error e
  | x :: r => if x.t.k = k then bnd (content x.ks x.e) fun a r2 => (match r2 with
    | [] => .ok (a, r)
    | y :: _ => .error y.t.p) else .error x.t.p
def setR : Rdr (List Wd) := withinR 123 (optR nameR)
def namesR : Rdr (List Wd) := withinR 123 (someR nameR)
def ruleR : Rdr Nd := fun ts e => bnd (nameR ts e) fun w r => bnd (takeR 58 r e) fun _ r2 => bnd (setR r2 e) fun ws r3 => .ok (nd 6 w.p w.s ws [], r3)
def e0 : ByteArray := ⟨#[]⟩
def constR : Nat → Rdr Nd
  | 0 => fun _ _ => .error 0
  | d + 1 => fun ts e => match ts with
    | [] => .error e
    | x :: r =>
      if x.t.k = 97 then .ok (nd 2 x.t.p x.t.s [] [], r)
      else if x.t.k = 123 then bnd (setR (x :: r) e) fun ws r2 => .ok (nd 3 x.t.p e0 ws [], r2)
      else if x.t.k = 40 then bnd (withinR 40 (someR (constR d)) (x :: r) e) fun ks r2 => .ok (nd 4 x.t.p e0 [] ks, r2)
      else if x.t.k = 91 then bnd (withinR 91 (optR ruleR) (x :: r) e) fun ks r2 => .ok (nd 5 x.t.p e0 [] ks, r2)
      else .error x.t.p
def varR : Rdr Nd := fun ts e => bnd (nameR ts e) fun w r => .ok (nd 1 w.p w.s [] [], r)
def atomR (d : Nat) : Rdr Nd := fun ts e => match ts with
  | [] => .error e
  | x :: r => if x.t.k = 35 then bnd (constR d r e) fun n r2 => .ok (nd 7 x.t.p e0 [] [n], r2) else varR (x :: r) e
def labelR : Nat → Rdr Nd
  | 0 => fun _ _ => .error 0
  | d + 1 => fun ts e => match ts with
    | [] => .error e
    | x :: r =>
      if x.t.k = 43 then bnd (withinR 40 (someR (labelR d)) r e) fun ks r2 => .ok (nd 8 x.t.p e0 [] ks, r2)
      else if x.t.k = 38 then bnd (withinR 40 (someR (labelR d)) r e) fun ks r2 => .ok (nd 9 x.t.p e0 [] ks, r2)
      else atomR (d + 1) (x :: r) e
def fieldR (d : Nat) : Rdr Nd := fun ts e => bnd (nameR ts e) fun w r => bnd (takeR 61 r e) fun _ r2 => bnd (atomR d r2 e) fun n r3 => .ok (nd 11 w.p w.s [] [n], r3)
def tailR (ks : List Nd) : Rdr (List Nd × List Wd) := fun ts e => match ts with
  | [] => .ok ((ks, []), [])
  | y :: r => if y.t.k = 124 then bnd (nameR r e) fun w r2 => .ok ((ks, [w]), r2) else .ok ((ks, []), y :: r)
def inrowR (d : Nat) : Rdr (List Nd × List Wd) := fun ts e => bnd (optR (fieldR d) ts e) fun ks r => tailR ks r e
def rowR (d : Nat) : Rdr Nd := fun ts e => match ts with
  | [] => .error e
  | x :: r => if x.t.k = 91 then bnd (withinR 91 (inrowR d) (x :: r) e) fun kw r2 => .ok (nd 10 x.t.p e0 kw.2 kw.1, r2) else varR (x :: r) e

/-- What is left of the trees at a place. -/
def rest (l : List Tr) (i : Int) : List Tr := if i < 0 then [] else l.drop i.toNat
theorem rest_add (l : List Tr) (i : Int) (m : Nat) (hm : m ≤ (rest l i).length) : rest l (i + m) = (rest l i).drop m := by
  unfold rest at hm ⊢
  by_cases h : i < 0
  · rw [if_pos h] at hm
    have : m = 0 := by simpa using hm
    subst this
    simp [h]
  · rw [if_neg h, if_neg (by omega), List.drop_drop, show (i + m).toNat = i.toNat + m by omega]
theorem rest_nil {l : List Tr} {i : Int} : rest l i = [] ↔ i < 0 ∨ (l.length : Int) ≤ i := by
  unfold rest
  by_cases h : i < 0
  · simp [h]
  · rw [if_neg h, List.drop_eq_nil_iff]; omega
theorem rest_cons {l : List Tr} {i : Int} (h0 : 0 ≤ i) (h1 : i < l.length) : rest l i = l.getD i.toNat r0 :: rest l (i + 1) := by
  unfold rest
  rw [if_neg (by omega), if_neg (by omega), drop_cons (by omega), show (i + 1).toNat = i.toNat + 1 by omega]
/-- The kind of the next tree, none after a fault. -/
def kindOf (ts : List Tr) (f : Option Int) : Nat := match f, ts with
  | none, x :: _ => x.t.k
  | _, _ => 0
def offOf (ts : List Tr) (e : Int) : Int := match ts with
  | [] => e
  | x :: _ => x.t.p
def fc (f : Option Int) : Int := if f.isSome then 2 else 0
def fa (f : Option Int) : Int := f.getD 0
theorem takeR_hit {k : Nat} {x : Tr} {r : List Tr} {e : Int} (h : x.t.k = k) : takeR k (x :: r) e = .ok (x.t, r) := by simp only [takeR]; rw [if_pos h]
theorem takeR_miss {k : Nat} {ts : List Tr} {e : Int} (h : kindOf ts none ≠ k) : takeR k ts e = .error (offOf ts e) := by
  cases ts with
  | nil => rfl
  | cons x r =>
    have h' : ¬ x.t.k = k := h
    simp only [takeR]; rw [if_neg h']; rfl
/-- One has gone on, at most to the end. -/
def Adv (l : List Tr) (i i2 : Int) : Prop := ∃ m : Nat, i2 = i + m ∧ m ≤ (rest l i).length
theorem Adv.refl (l : List Tr) (i : Int) : Adv l i i := ⟨0, by simp, Nat.zero_le _⟩
theorem Adv.drop {l : List Tr} {i i2 : Int} (h : Adv l i i2) : ∃ m : Nat, i2 = i + m ∧ m ≤ (rest l i).length ∧ rest l i2 = (rest l i).drop m := by
  obtain ⟨m, rfl, hm⟩ := h
  exact ⟨m, rfl, hm, rest_add _ _ _ hm⟩
theorem Adv.trans {l : List Tr} {i i2 i3 : Int} (h : Adv l i i2) (h2 : Adv l i2 i3) : Adv l i i3 := by
  obtain ⟨m, rfl, hm, hr⟩ := h.drop
  obtain ⟨n, rfl, hn⟩ := h2
  rw [hr, List.length_drop] at hn
  exact ⟨m + n, by omega, by omega⟩
theorem nodes_drop (l : List Tr) (m : Nat) : (nodes (l.drop m)).length ≤ (nodes l).length := by
  have := congrArg List.length (nodes_append (l.take m) (l.drop m))
  rw [List.take_append_drop, List.length_append] at this
  omega
theorem Adv.nodes {l : List Tr} {i i2 : Int} (h : Adv l i i2) : (nodes (rest l i2)).length ≤ (nodes (rest l i)).length := by
  obtain ⟨m, _, _, hr⟩ := h.drop
  rw [hr]; exact nodes_drop _ _
/-- A step of reading: nothing is read after a fault; else what is read is as it should be, or the fault is. -/
def Step {α : Type} (rd : Rdr α) (l : List Tr) (i e : Int) (f : Option Int) (x : α) (i2 : Int) (f2 : Option Int) : Prop :=
  Adv l i i2 ∧ (∀ p, f = some p → f2 = some p) ∧ (f = none → match rd (rest l i) e with
    | .error p => f2 = some p
    | .ok (y, r) => f2 = none ∧ x = y ∧ r = rest l i2)
section
variable {α β γ : Type} {rd : Rdr α} {l : List Tr} {i e : Int} {f : Option Int} {x : α} {i2 : Int} {f2 : Option Int}
theorem Step.bad {p : Int} (ha : Adv l i i2) : Step rd l i e (some p) x i2 (some p) := ⟨ha, fun _ h => h, fun h => by cases h⟩
theorem Step.ok (ha : Adv l i i2) (h : rd (rest l i) e = .ok (x, rest l i2)) : Step rd l i e none x i2 none :=
  ⟨ha, fun _ h => (by cases h), fun _ => by rw [h]; exact ⟨rfl, rfl, rfl⟩⟩
theorem Step.fault {p : Int} (ha : Adv l i i2) (h : rd (rest l i) e = .error p) : Step rd l i e none x i2 (some p) :=
  ⟨ha, fun _ h => (by cases h), fun _ => by rw [h]⟩
/-- What a step says, taken apart. -/
theorem Step.cases (h : Step rd l i e f x i2 f2) :
    (∃ p, f2 = some p ∧ ((f = none ∧ rd (rest l i) e = .error p) ∨ f = some p)) ∨ (f = none ∧ f2 = none ∧ rd (rest l i) e = .ok (x, rest l i2)) := by
  obtain ⟨_, h1, h2⟩ := h
  cases f with
  | some p => exact .inl ⟨p, h1 p rfl, .inr rfl⟩
  | none =>
    have h2 := h2 rfl
    cases hr : rd (rest l i) e with
    | error p => rw [hr] at h2; exact .inl ⟨p, h2, .inl ⟨rfl, rfl⟩⟩
    | ok yr =>
      obtain ⟨y, r⟩ := yr
      rw [hr] at h2
      obtain ⟨rfl, rfl, rfl⟩ := h2
      exact .inr ⟨rfl, rfl, rfl⟩
/-- One thing behind another. -/
theorem Step.bind {rd2 : α → Rdr β} {y : β} {i3 : Int} {f3 : Option Int} (h : Step rd l i e f x i2 f2) (h2 : Step (rd2 x) l i2 e f2 y i3 f3) : Step (fun ts e => bnd (rd ts e) fun a r => rd2 a r e) l i e f y i3 f3 := by
  have ha := h.1.trans h2.1
  rcases h.cases with ⟨p, rfl, ⟨rfl, hr⟩ | rfl⟩ | ⟨rfl, rfl, hr⟩
  · obtain rfl := h2.2.1 p rfl
    exact Step.fault ha (by show bnd _ _ = _; rw [hr]; rfl)
  · obtain rfl := h2.2.1 p rfl
    exact Step.bad ha
  · rcases h2.cases with ⟨p, rfl, ⟨_, hr2⟩ | h⟩ | ⟨_, rfl, hr2⟩
    · exact Step.fault ha (by show bnd _ _ = _; rw [hr]; exact hr2)
    · cases h
    · exact Step.ok ha (by show bnd _ _ = _; rw [hr]; exact hr2)
theorem Step.pure (x : β) : Step (fun ts _ => .ok (x, ts)) l i e f x i f := by
  cases f with
  | none => exact Step.ok (Adv.refl _ _) rfl
  | some p => exact Step.bad (Adv.refl _ _)
theorem Step.map (g : α → β) (h : Step rd l i e f x i2 f2) : Step (fun ts e => bnd (rd ts e) fun a r => .ok (g a, r)) l i e f (g x) i2 f2 :=
  h.bind (rd2 := fun a ts _ => .ok (g a, ts)) (Step.pure (g x))
theorem Step.of_eq {rd' : Rdr α} (h : Step rd l i e f x i2 f2) (he : rd' (rest l i) e = rd (rest l i) e) : Step rd' l i e f x i2 f2 := ⟨h.1, h.2.1, fun hf => by rw [he]; exact h.2.2 hf⟩
end
theorem take_ok {k : Nat} {l : List Tr} {i e : Int} {f : Option Int} {t : Tk} {i2 : Int} (h : Step (takeR k) l i e f t i2 none) :
    f = none ∧ ∃ j : Nat, i = j ∧ j < l.length ∧ i2 = (j : Int) + 1 ∧ t = (l.getD j r0).t ∧ (l.getD j r0).t.k = k ∧ rest l j = l.getD j r0 :: rest l ((j : Int) + 1) := by
  rcases h.cases with ⟨p, h1, _⟩ | ⟨rfl, _, hr⟩
  · cases h1
  · have hne : rest l i ≠ [] := fun e => by rw [e] at hr; cases hr
    have hb : ¬ (i < 0 ∨ (l.length : Int) ≤ i) := fun e => hne (rest_nil.2 e)
    obtain ⟨j, rfl⟩ := Int.eq_ofNat_of_zero_le (show 0 ≤ i by omega)
    have hj : j < l.length := by omega
    have hrest := rest_cons (l := l) (i := (j : Int)) (by omega) (by omega)
    rw [Int.toNat_natCast] at hrest
    rw [hrest] at hr
    by_cases hk : (l.getD j r0).t.k = k
    · rw [takeR_hit hk] at hr
      injection hr with hr
      injection hr with h1 h2
      obtain ⟨m, rfl, hm, hd⟩ := h.1.drop
      have hm1 : m = 1 := by
        rw [← h2, hrest] at hd
        have := congrArg List.length hd
        simp only [List.length_drop, List.length_cons] at this
        rw [hrest, List.length_cons] at hm
        omega
      subst hm1
      exact ⟨rfl, j, rfl, hj, rfl, h1.symm, hk, hrest⟩
    · have h' : ¬ (l.getD j r0).t.k = k := hk
      simp only [takeR] at hr
      rw [if_neg h'] at hr
      cases hr
theorem within_fault {α : Type} {k : Nat} {rd : Rdr α} {l : List Tr} {i e : Int} {f : Option Int} {t : Tk} {i2 p : Int} (h : Step (takeR k) l i e f t i2 (some p)) (x : α) : Step (withinR k rd) l i e f x i2 (some p) := by
  rcases h.cases with ⟨q, h1, ⟨rfl, hr⟩ | rfl⟩ | ⟨_, h1, _⟩
  · obtain rfl := Option.some.inj h1
    refine Step.fault h.1 ?_
    cases hl : rest l i with
    | nil =>
      rw [hl] at hr
      simp only [takeR] at hr
      injection hr with hr
      simp only [withinR]
      rw [hr]
    | cons y r =>
      rw [hl] at hr
      by_cases hk : y.t.k = k
      · rw [takeR_hit hk] at hr; cases hr
      · simp only [takeR] at hr
        rw [if_neg hk] at hr
        simp only [withinR]
        rw [if_neg hk]
        injection hr with hr
        rw [hr]
  · obtain rfl := Option.some.inj h1
    exact Step.bad h.1
  · cases h1
theorem within_step {α : Type} {k : Nat} {rd : Rdr α} {l : List Tr} {e : Int} {j : Nat} {x : α} {i2 : Int} {f2 f3 : Option Int} (hk : (l.getD j r0).t.k = k) (hr : rest l j = l.getD j r0 :: rest l ((j : Int) + 1))
    (h : Step rd (l.getD j r0).ks 0 (l.getD j r0).e none x i2 f2) (h3 : (rest (l.getD j r0).ks i2 = [] ∧ f3 = f2) ∨ (rest (l.getD j r0).ks i2 ≠ [] ∧ f3 = some (f2.getD (offOf (rest (l.getD j r0).ks i2) (l.getD j r0).e)))) : Step (withinR k rd) l j e none x ((j : Int) + 1) f3 := by
  have ha : Adv l j ((j : Int) + 1) := ⟨1, rfl, by rw [hr]; simp⟩
  have h0 : rest (l.getD j r0).ks 0 = (l.getD j r0).ks := by simp [rest]
  rcases h.cases with ⟨p, rfl, ⟨_, h1⟩ | h1⟩ | ⟨_, rfl, h1⟩
  · have h4 : f3 = some p := by
      rcases h3 with ⟨_, h3⟩ | ⟨_, h3⟩ <;> rw [h3]
      rfl
    subst h4
    refine Step.fault ha ?_
    rw [hr]
    simp only [withinR]
    rw [if_pos hk]
    rw [h0] at h1
    rw [h1]; rfl
  · cases h1
  · rw [h0] at h1
    rcases h3 with ⟨hn, rfl⟩ | ⟨hn, rfl⟩
    · refine Step.ok ha ?_
      rw [hr]
      simp only [withinR]
      rw [if_pos hk, h1, hn]; rfl
    · cases hq : rest (l.getD j r0).ks i2 with
      | nil => exact absurd hq hn
      | cons y r =>
        refine Step.fault ha ?_
        rw [hr]
        simp only [withinR]
        rw [if_pos hk, h1, hq]; rfl
/-- Where a list is read: so much has come. -/
structure LSt {α : Type} (rd : Rdr α) (l : List Tr) (i e : Int) (f : Option Int) (xs : List α) (i2 : Int) (f2 : Option Int) : Prop where
  adv : Adv l i i2
  few : (xs.length : Int) ≤ i2 - i + 1 ∨ f2 ≠ none
  bad : ∀ p, f = some p → f2 = some p
  good : f = none → (∃ p, f2 = some p ∧ someR rd (rest l i) e = .error p) ∨ (f2 = none ∧ ∃ n : Nat, (rest l i2).length ≤ n ∧ bnd (moreR rd n (rest l i2) e) (fun ys r => .ok (xs ++ ys, r)) = someR rd (rest l i) e)
section
variable {α : Type} {rd : Rdr α} {l : List Tr} {i e : Int} {f : Option Int} {x : α} {xs : List α} {i2 i3 i4 : Int} {f2 f3 f4 : Option Int} {t : Tk}
theorem LSt.start (h : Step rd l i e f x i2 f2) : LSt rd l i e f [x] i2 f2 := by
  refine ⟨h.1, ?_, h.2.1, fun hf => ?_⟩
  · obtain ⟨m, rfl, _⟩ := h.1
    exact .inl (by simp only [List.length_singleton]; omega)
  · subst hf
    rcases h.cases with ⟨p, rfl, ⟨_, hr⟩ | h⟩ | ⟨_, rfl, hr⟩
    · exact .inl ⟨p, rfl, by unfold someR; rw [hr]; rfl⟩
    · cases h
    · obtain ⟨m, _, _, hd⟩ := h.1.drop
      exact .inr ⟨rfl, (rest l i).length, by rw [hd, List.length_drop]; omega, by unfold someR; rw [hr]; rfl⟩
theorem moreR_stop {n : Nat} {ts : List Tr} (h : ts.length ≤ n) (hk : kindOf ts none ≠ 44) : moreR rd n ts e = .ok ([], ts) := by
  cases n with
  | zero => rfl
  | succ n =>
    cases ts with
    | nil => rfl
    | cons c r =>
      have h' : ¬ c.t.k = 44 := hk
      simp only [moreR]; rw [if_neg h']
theorem LSt.stop (h : LSt rd l i e f xs i2 f2) (hk : kindOf (rest l i2) f2 ≠ 44) : Step (someR rd) l i e f xs i2 f2 := by
  cases f with
  | some p =>
    obtain rfl := h.bad p rfl
    exact Step.bad h.adv
  | none =>
    rcases h.good rfl with ⟨p, rfl, hr⟩ | ⟨rfl, n, hn, hr⟩
    · exact Step.fault h.adv hr
    · rw [moreR_stop hn hk] at hr
      exact Step.ok h.adv (by rw [← hr]; simp [bnd])
theorem LSt.next (h : LSt rd l i e f xs i2 f2) (hk : kindOf (rest l i2) f2 = 44) (h2 : Step (takeR 44) l i2 e f2 t i3 f3) (h3 : Step rd l i3 e f3 x i4 f4) :
    LSt rd l i e f (xs ++ [x]) i4 f4 ∧ f2 = none ∧ f3 = none ∧ (rest l i4).length < (rest l i2).length := by
  obtain rfl : f2 = none := by
    cases f2 with
    | none => rfl
    | some p => cases hr : rest l i2 <;> rw [hr] at hk <;> cases hk
  cases hr : rest l i2 with
  | nil => rw [hr] at hk; cases hk
  | cons c r =>
    rw [hr] at hk
    have hc : c.t.k = 44 := hk
    rcases h2.cases with ⟨p, rfl, ⟨_, h⟩ | h⟩ | ⟨_, rfl, h⟩
    · rw [hr, takeR_hit hc] at h; cases h
    · cases h
    · rw [hr, takeR_hit hc] at h
      injection h with h
      injection h with ht hrest
      have hlen : (rest l i4).length ≤ r.length := by
        obtain ⟨m, _, _, hd⟩ := h3.1.drop
        rw [hd, List.length_drop, ← hrest]; omega
      have hi3 : i2 + 1 ≤ i3 := by
        obtain ⟨m, rfl, hm, hd⟩ := h2.1.drop
        rcases Nat.eq_zero_or_pos m with rfl | hp
        · exfalso
          rw [List.drop_zero, hr, ← hrest] at hd
          have := congrArg List.length hd
          simp at this
        · omega
      have hi4 : i3 ≤ i4 := by obtain ⟨m, rfl, _⟩ := h3.1; omega
      refine ⟨⟨(‹LSt rd l i e f xs i2 none›.adv.trans h2.1).trans h3.1, ?_, fun p hp => ?_, fun hf => ?_⟩, rfl, rfl, by rw [List.length_cons]; omega⟩
      · rcases ‹LSt rd l i e f xs i2 none›.few with h | h
        · exact .inl (by simp only [List.length_append, List.length_singleton]; omega)
        · exact absurd rfl h
      · have := ‹LSt rd l i e f xs i2 none›.bad p hp; cases this
      · rcases ‹LSt rd l i e f xs i2 none›.good hf with ⟨p, hp, _⟩ | ⟨_, n, hn, hg⟩
        · cases hp
        · rw [hr] at hn hg
          cases n with
          | zero => simp at hn
          | succ n =>
            simp only [moreR] at hg
            rw [if_pos hc] at hg
            rw [hrest] at hg
            rcases h3.cases with ⟨p, rfl, ⟨_, h⟩ | h⟩ | ⟨_, rfl, h⟩
            · rw [h] at hg
              exact .inl ⟨p, rfl, hg.symm⟩
            · cases h
            · rw [h] at hg
              refine .inr ⟨rfl, n, by simp only [List.length_cons] at hn; omega, ?_⟩
              rw [← hg]
              simp only [bnd]
              cases moreR rd n (rest l i4) e with
              | error p => rfl
              | ok yr => simp
end
end TM
end Go.Proofs.Ytapnefhmonpgdaa
