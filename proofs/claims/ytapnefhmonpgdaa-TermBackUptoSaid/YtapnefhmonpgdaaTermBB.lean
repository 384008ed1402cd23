/-
  What the readers read might have been read, and stands in just its trees; what might have been read is read of its pieces. Conditions: none.
-/
import Derived.Test.YtapnefhmonpgdaaTermBA
set_option linter.unusedSimpArgs false
set_option linter.unusedVariables false
namespace Go.Proofs.Ytapnefhmonpgdaa
namespace TM
open LX TR
def kyf (us : List Tr) : List Ky := (flat us).map kyT
theorem kyf_append (a b : List Tr) : kyf (a ++ b) = kyf a ++ kyf b := by unfold kyf; rw [flat_append, List.map_append]
theorem kyf_nil : kyf [] = [] := by simp [kyf, flat, evs]
theorem kyf_cons (x : Tr) (r : List Tr) : kyf (x :: r) = kyf [x] ++ kyf r := kyf_append [x] r
theorem kyf_leaf {x : Tr} (h : cl x.t.k = 0) : kyf [x] = [kyT x.t] := by
  obtain ⟨t, A, c, ks, e⟩ := x
  have h' : cl t.k = 0 := h
  simp [kyf, flat, evs, h', Tr.t]
theorem kyf_br {x : Tr} (h : ¬ cl x.t.k = 0) : kyf [x] = kyT x.t :: (kyf x.ks ++ [sg (cl x.t.k)]) := by
  obtain ⟨t, A, c, ks, e⟩ := x
  have h' : ¬ cl t.k = 0 := h
  simp [kyf, flat, evs, h', Tr.t, Tr.ks, kyT, sg]
def Good (ts : List Tr) : Prop := ∀ y ∈ nodes ts, rightT y.t = true
theorem nodes_cons (x : Tr) (r : List Tr) : nodes (x :: r) = x :: (nodes x.ks ++ nodes r) := by cases x; rw [nodes]; rfl
theorem Good.cons {x : Tr} {r : List Tr} (h : Good (x :: r)) : rightT x.t = true ∧ Good x.ks ∧ Good r := by
  unfold Good at h
  rw [nodes_cons] at h
  exact ⟨h x (by simp), fun y hy => h y (by simp [hy]), fun y hy => h y (by simp [hy])⟩
theorem Good.right {a b : List Tr} (h : Good (a ++ b)) : Good b := fun y hy => h y (by rw [nodes_append]; exact List.mem_append_right _ hy)
theorem ky_sign {t : Tk} (hr : rightT t = true) (h97 : ¬ t.k = 97) : kyT t = sg t.k := by
  obtain ⟨q, s, p⟩ := t
  rw [rightT_sign h97] at hr
  simp only [Bool.and_eq_true, decide_eq_true_eq] at hr
  obtain ⟨_, h2, h3⟩ := hr
  have hs : s = chr q := by
    obtain ⟨⟨d⟩⟩ := s
    match d, h2 with
    | [x], _ =>
      have h4 : x.toNat = q := h3
      unfold chr
      rw [← h4]
      simp
  show (q, s) = (q, chr q)
  rw [hs]
theorem take_inv {k : Nat} {ts : List Tr} {e : Int} {t : Tk} {r : List Tr} (h : takeR k ts e = .ok (t, r)) : ∃ x, ts = x :: r ∧ x.t = t ∧ x.t.k = k := by
  cases ts with
  | nil => cases h
  | cons x q =>
    simp only [takeR] at h
    split at h
    · rename_i hk
      injection h with h
      injection h with h1 h2
      subst h2
      exact ⟨x, rfl, h1, hk⟩
    · cases h
theorem bnd_ok {α β : Type} {x : Res α} {f : α → List Tr → Res β} {b : β × List Tr} (h : bnd x f = .ok b) : ∃ a r, x = .ok (a, r) ∧ f a r = .ok b := by
  unfold bnd at h
  split at h
  · cases h
  · exact ⟨_, _, rfl, h⟩
theorem ok_inj {α : Type} {a b : α} {r s : List Tr} (h : (Except.ok (a, r) : Res α) = .ok (b, s)) : a = b ∧ r = s := by
  injection h with h
  injection h with h1 h2
  exact ⟨h1, h2⟩
/-- Whatever this reads is such a thing, and stands in just its trees. -/
def Snd {α : Type} (rd : Rdr α) (ok : α → Prop) (g : α → List Ky) : Prop := ∀ ts e a r, Good ts → rd ts e = .ok (a, r) → ∃ us, ts = us ++ r ∧ ok a ∧ kyf us = g a
theorem snd_take {k : Nat} {ts : List Tr} {e : Int} {t : Tk} {r : List Tr} (hg : Good ts) (h0 : cl k = 0) (h97 : ¬ k = 97) (h : takeR k ts e = .ok (t, r)) : ∃ x, ts = x :: r ∧ Good r ∧ kyf [x] = [sg k] := by
  obtain ⟨x, rfl, rfl, rfl⟩ := take_inv h
  exact ⟨x, rfl, hg.cons.2.2, by rw [kyf_leaf h0, ky_sign hg.cons.1 h97]⟩
theorem name_inv {ts : List Tr} {e : Int} {w : Wd} {r : List Tr} (hg : Good ts) (h : nameR ts e = .ok (w, r)) : ∃ x, ts = x :: r ∧ Good r ∧ kyf [x] = [(97, w.s)] ∧ NM.right w.s = true ∧ x.t.k = 97 ∧ x.t.s = w.s := by
  obtain ⟨t, r1, h1, h2⟩ := bnd_ok h
  obtain ⟨rfl, rfl⟩ := ok_inj h2
  obtain ⟨x, rfl, rfl, hk⟩ := take_inv h1
  have hr := hg.cons.1
  rw [rightT_word hk] at hr
  exact ⟨x, rfl, hg.cons.2.2, by rw [kyf_leaf (by rw [hk]; rfl)]; unfold kyT; rw [hk], hr, hk, rfl⟩
theorem snd_name : Snd nameR (fun w => NM.right w.s = true) kw := fun ts e w r hg h => by
  obtain ⟨x, rfl, _, h2, h3, _⟩ := name_inv hg h
  exact ⟨[x], rfl, h3, h2⟩
section
variable {α : Type} {el : Rdr α} {ok : α → Prop} {g : α → List Ky}
theorem snd_more (h : Snd el ok g) : ∀ n ts e xs r, Good ts → moreR el n ts e = .ok (xs, r) → ∃ us, ts = us ++ r ∧ (∀ x ∈ xs, ok x) ∧ kyf us = jkt (xs.map g)
  | 0, ts, e, xs, r, _, hr => by
    obtain ⟨rfl, rfl⟩ := ok_inj hr
    exact ⟨[], rfl, by simp, kyf_nil⟩
  | n + 1, [], e, xs, r, _, hr => by
    obtain ⟨rfl, rfl⟩ := ok_inj hr
    exact ⟨[], rfl, by simp, kyf_nil⟩
  | n + 1, c :: q, e, xs, r, hg, hr => by
    simp only [moreR] at hr
    split at hr
    · rename_i hk
      obtain ⟨x, r2, h1, h2⟩ := bnd_ok hr
      obtain ⟨ys, r3, h3, h4⟩ := bnd_ok h2
      obtain ⟨rfl, rfl⟩ := ok_inj h4
      have hc := hg.cons
      obtain ⟨us1, rfl, ho, hf1⟩ := h q e x r2 hc.2.2 h1
      obtain ⟨us2, rfl, hos, hf2⟩ := snd_more h n r2 e ys r3 hc.2.2.right h3
      have hcc : kyf [c] = [sg 44] := by rw [kyf_leaf (by rw [hk]; rfl), ky_sign hc.1 (by rw [hk]; decide), hk]
      refine ⟨c :: (us1 ++ us2), by simp, fun y hy => ?_, ?_⟩
      · rcases List.mem_cons.1 hy with rfl | hy
        · exact ho
        · exact hos y hy
      · rw [kyf_cons, kyf_append, hcc, hf1, hf2]; rfl
    · obtain ⟨rfl, rfl⟩ := ok_inj hr
      exact ⟨[], rfl, by simp, kyf_nil⟩
theorem snd_some (h : Snd el ok g) : Snd (someR el) (fun xs => xs ≠ [] ∧ ∀ x ∈ xs, ok x) (fun xs => jkc (xs.map g)) := fun ts e xs r hg hr => by
  obtain ⟨x, r2, h1, h2⟩ := bnd_ok hr
  obtain ⟨ys, r3, h3, h4⟩ := bnd_ok h2
  obtain ⟨rfl, rfl⟩ := ok_inj h4
  obtain ⟨us1, rfl, ho, hf1⟩ := h ts e x r2 hg h1
  obtain ⟨us2, rfl, hos, hf2⟩ := snd_more h _ r2 e ys r3 hg.right h3
  refine ⟨us1 ++ us2, by simp, ⟨by simp, fun y hy => ?_⟩, ?_⟩
  · rcases List.mem_cons.1 hy with rfl | hy
    · exact ho
    · exact hos y hy
  · rw [kyf_append, hf1, hf2]; rfl
theorem snd_opt (h : Snd el ok g) : Snd (optR el) (fun xs => ∀ x ∈ xs, ok x) (fun xs => jkc (xs.map g)) := fun ts e xs r hg hr => by
  cases ts with
  | nil =>
    obtain ⟨rfl, rfl⟩ := ok_inj hr
    exact ⟨[], rfl, by simp, kyf_nil⟩
  | cons x q =>
    simp only [optR] at hr
    split at hr
    · obtain ⟨rfl, rfl⟩ := ok_inj hr
      exact ⟨[], rfl, by simp, kyf_nil⟩
    · obtain ⟨us, h1, h2, h3⟩ := snd_some h (x :: q) e xs r hg hr
      exact ⟨us, h1, h2.2, h3⟩
theorem snd_within {k : Nat} (hk0 : ¬ cl k = 0) (hk97 : ¬ k = 97) (h : Snd el ok g) : Snd (withinR k el) ok (fun a => sg k :: (g a ++ [sg (cl k)])) := fun ts e a r hg hr => by
  cases ts with
  | nil => cases hr
  | cons x q =>
    simp only [withinR] at hr
    split at hr
    · rename_i hk
      obtain ⟨b, r2, h1, h2⟩ := bnd_ok hr
      cases r2 with
      | cons y r3 => cases h2
      | nil =>
        obtain ⟨rfl, rfl⟩ := ok_inj h2
        have hc := hg.cons
        obtain ⟨us, h3, ho, hf⟩ := h x.ks x.e b [] hc.2.1 h1
        rw [List.append_nil] at h3
        subst h3
        refine ⟨[x], rfl, ho, ?_⟩
        rw [kyf_br (by rw [hk]; exact hk0), ky_sign hc.1 (by rw [hk]; exact hk97), hk, hf]
    · cases hr
end
theorem snd_set : Snd setR (fun ws => ∀ w ∈ ws, NM.right w.s = true) (fun ws => sg 123 :: (jkc (ws.map kw) ++ [sg 125])) := snd_within (k := 123) (by decide) (by decide) (snd_opt snd_name)
theorem ky_nd {k p s ws ks} : ky (nd k p s ws ks) = ky1 k s (ws.map kw) (ks.map ky) := ky_mk
theorem snd_rule : Snd ruleR (W 2) ky := fun ts e a r hg hr => by
  obtain ⟨w, r1, h1, h2⟩ := bnd_ok hr
  obtain ⟨_, r2, h3, h4⟩ := bnd_ok h2
  obtain ⟨ws, r3, h5, h6⟩ := bnd_ok h4
  obtain ⟨rfl, rfl⟩ := ok_inj h6
  obtain ⟨x, rfl, hg1, hf1, hw, _, _⟩ := name_inv hg h1
  obtain ⟨y, rfl, hg2, hf2⟩ := snd_take hg1 (by rfl) (by decide) h3
  obtain ⟨us, rfl, ho, hf3⟩ := snd_set _ e ws _ hg2 h5
  refine ⟨x :: y :: us, rfl, .rule hw ho, ?_⟩
  rw [kyf_cons, kyf_cons y, hf1, hf2, hf3, ky_nd]; rfl
theorem snd_const : ∀ d, Snd (constR d) (W 1) ky
  | 0 => fun ts e a r hg hr => by cases hr
  | d + 1 => fun ts e a r hg hr => by
    cases ts with
    | nil => cases hr
    | cons x q =>
      simp only [constR] at hr
      have hc := hg.cons
      split at hr
      · rename_i hk
        obtain ⟨rfl, rfl⟩ := ok_inj hr
        have h1 := hc.1
        rw [rightT_word hk] at h1
        refine ⟨[x], rfl, .point h1, ?_⟩
        rw [kyf_leaf (by rw [hk]; rfl), ky_nd]; unfold kyT; rw [hk]; rfl
      · split at hr
        · obtain ⟨ws, r1, h1, h2⟩ := bnd_ok hr
          obtain ⟨rfl, rfl⟩ := ok_inj h2
          obtain ⟨us, h3, ho, hf⟩ := snd_set _ e ws _ hg h1
          exact ⟨us, h3, .set ho, by rw [hf, ky_nd]; rfl⟩
        · split at hr
          · obtain ⟨ks, r1, h1, h2⟩ := bnd_ok hr
            obtain ⟨rfl, rfl⟩ := ok_inj h2
            obtain ⟨us, h3, ho, hf⟩ := snd_within (k := 40) (by decide) (by decide) (snd_some (snd_const d)) _ e ks _ hg h1
            exact ⟨us, h3, .tuple ho.1 ho.2, by rw [hf, ky_nd]; rfl⟩
          · split at hr
            · obtain ⟨ks, r1, h1, h2⟩ := bnd_ok hr
              obtain ⟨rfl, rfl⟩ := ok_inj h2
              obtain ⟨us, h3, ho, hf⟩ := snd_within (k := 91) (by decide) (by decide) (snd_opt snd_rule) _ e ks _ hg h1
              exact ⟨us, h3, .grid ho, by rw [hf, ky_nd]; rfl⟩
            · cases hr
theorem var_inv {ts : List Tr} {e : Int} {a : Nd} {r : List Tr} (hg : Good ts) (hr : varR ts e = .ok (a, r)) : ∃ us p s, ts = us ++ r ∧ a = nd 1 p s [] [] ∧ NM.right s = true ∧ kyf us = ky a := by
  obtain ⟨w, r1, h1, h2⟩ := bnd_ok hr
  obtain ⟨rfl, rfl⟩ := ok_inj h2
  obtain ⟨x, rfl, hg1, hf1, hw, _, _⟩ := name_inv hg h1
  exact ⟨[x], w.p, w.s, rfl, rfl, hw, by rw [hf1, ky_nd]; rfl⟩
theorem snd_atom (d : Nat) : Snd (atomR d) (W 5) ky := fun ts e a r hg hr => by
  cases ts with
  | nil => cases hr
  | cons x q =>
    simp only [atomR] at hr
    have hc := hg.cons
    split at hr
    · rename_i hk
      obtain ⟨n, r1, h1, h2⟩ := bnd_ok hr
      obtain ⟨rfl, rfl⟩ := ok_inj h2
      obtain ⟨us, rfl, ho, hf⟩ := snd_const d q e n _ hc.2.2 h1
      refine ⟨x :: us, rfl, .const ho, ?_⟩
      rw [kyf_cons, kyf_leaf (by rw [hk]; rfl), ky_sign hc.1 (by rw [hk]; decide), hk, hf, ky_nd]; rfl
    · obtain ⟨us, p, s, h1, rfl, h3, h4⟩ := var_inv hg hr
      exact ⟨us, h1, .var h3, h4⟩
theorem snd_label : ∀ d, Snd (labelR d) (W 3) ky
  | 0 => fun ts e a r hg hr => by cases hr
  | d + 1 => fun ts e a r hg hr => by
    cases ts with
    | nil => cases hr
    | cons x q =>
      simp only [labelR] at hr
      have hc := hg.cons
      split at hr
      · rename_i hk
        obtain ⟨ks, r1, h1, h2⟩ := bnd_ok hr
        obtain ⟨rfl, rfl⟩ := ok_inj h2
        obtain ⟨us, rfl, ho, hf⟩ := snd_within (k := 40) (by decide) (by decide) (snd_some (snd_label d)) _ e ks _ hc.2.2 h1
        refine ⟨x :: us, rfl, .join ho.1 ho.2, ?_⟩
        rw [kyf_cons, kyf_leaf (by rw [hk]; rfl), ky_sign hc.1 (by rw [hk]; decide), hk, hf, ky_nd]; rfl
      · split at hr
        · rename_i hk
          obtain ⟨ks, r1, h1, h2⟩ := bnd_ok hr
          obtain ⟨rfl, rfl⟩ := ok_inj h2
          obtain ⟨us, rfl, ho, hf⟩ := snd_within (k := 40) (by decide) (by decide) (snd_some (snd_label d)) _ e ks _ hc.2.2 h1
          refine ⟨x :: us, rfl, .meet ho.1 ho.2, ?_⟩
          rw [kyf_cons, kyf_leaf (by rw [hk]; rfl), ky_sign hc.1 (by rw [hk]; decide), hk, hf, ky_nd]; rfl
        · obtain ⟨us, h1, h2, h3⟩ := snd_atom (d + 1) _ e a r hg hr
          exact ⟨us, h1, .atom h2, h3⟩
theorem snd_field (d : Nat) : Snd (fieldR d) (W 4) ky := fun ts e a r hg hr => by
  obtain ⟨w, r1, h1, h2⟩ := bnd_ok hr
  obtain ⟨_, r2, h3, h4⟩ := bnd_ok h2
  obtain ⟨n, r3, h5, h6⟩ := bnd_ok h4
  obtain ⟨rfl, rfl⟩ := ok_inj h6
  obtain ⟨x, rfl, hg1, hf1, hw, _, _⟩ := name_inv hg h1
  obtain ⟨y, rfl, hg2, hf2⟩ := snd_take hg1 (by rfl) (by decide) h3
  obtain ⟨us, rfl, ho, hf3⟩ := snd_atom d _ e n _ hg2 h5
  refine ⟨x :: y :: us, rfl, .field hw ho, ?_⟩
  rw [kyf_cons, kyf_cons y, hf1, hf2, hf3, ky_nd]; rfl
theorem snd_inrow (d : Nat) : Snd (inrowR d) (fun kw => (∀ y ∈ kw.1, W 4 y) ∧ kw.2.length ≤ 1 ∧ ∀ w ∈ kw.2, NM.right w.s = true) (fun a => jkc (a.1.map ky) ++ (if a.2.map kw = [] then [] else sg 124 :: jkc (a.2.map kw))) := fun ts e a r hg hr => by
  obtain ⟨ks, r1, h1, h2⟩ := bnd_ok hr
  obtain ⟨us, rfl, ho, hf⟩ := snd_opt (snd_field d) ts e ks r1 hg h1
  have hg1 := hg.right
  cases r1 with
  | nil =>
    obtain ⟨rfl, rfl⟩ := ok_inj h2
    exact ⟨us, rfl, ⟨ho, by simp, by simp⟩, by rw [hf]; simp⟩
  | cons y q =>
    simp only [tailR] at h2
    split at h2
    · rename_i hk
      obtain ⟨w, r2, h3, h4⟩ := bnd_ok h2
      obtain ⟨rfl, rfl⟩ := ok_inj h4
      obtain ⟨x, rfl, hg2, hf1, hw, _, _⟩ := name_inv hg1.cons.2.2 h3
      have hy : kyf [y] = [sg 124] := by rw [kyf_leaf (by rw [hk]; rfl), ky_sign hg1.cons.1 (by rw [hk]; decide), hk]
      refine ⟨us ++ [y, x], by simp, ⟨ho, by simp, by simpa using hw⟩, ?_⟩
      rw [kyf_append, kyf_cons y, hy, hf, hf1]
      simp [jkc, jkt, kw]
    · obtain ⟨rfl, rfl⟩ := ok_inj h2
      exact ⟨us, rfl, ⟨ho, by simp, by simp⟩, by rw [hf]; simp⟩
theorem snd_row (d : Nat) : Snd (rowR d) (W 6) ky := fun ts e a r hg hr => by
  cases ts with
  | nil => cases hr
  | cons x q =>
    simp only [rowR] at hr
    split at hr
    · obtain ⟨ab, r1, h1, h2⟩ := bnd_ok hr
      obtain ⟨rfl, rfl⟩ := ok_inj h2
      obtain ⟨us, h3, ho, hf⟩ := snd_within (k := 91) (by decide) (by decide) (snd_inrow d) _ e ab _ hg h1
      exact ⟨us, h3, .row ho.2.1 ho.2.2 ho.1, by rw [hf, ky_nd]; rfl⟩
    · obtain ⟨us, p, s, h1, rfl, h3, h4⟩ := var_inv hg hr
      exact ⟨us, h1, .rvar h3, h4⟩
theorem ky_ne {n : Nat} {x : Nd} (h : W n x) : ky x ≠ [] := by
  induction h with
  | atom h ih => exact ih
  | _ => rw [ky_mk]; simp [ky1]
/-- The trees of a line. -/
theorem spells_tok {s : List Tk} {ts : List Tr} (h : Spells s ts) : ∀ y ∈ nodes ts, y.t ∈ s := by
  induction h with
  | nil => simp [nodes]
  | @leaf t l r _ _ _ ih =>
    intro y hy
    rw [nodes] at hy
    rcases List.mem_cons.1 hy with rfl | hy
    · exact List.mem_cons_self
    · rw [show nodes [] = [] by simp [nodes], List.nil_append] at hy
      exact List.mem_cons_of_mem _ (ih y hy)
  | @node t c l1 l2 ks r _ _ _ _ ih1 ih2 =>
    intro y hy
    rw [nodes] at hy
    rcases List.mem_cons.1 hy with rfl | hy
    · exact List.mem_cons_self
    · rcases List.mem_append.1 hy with hy | hy
      · exact List.mem_cons_of_mem _ (List.mem_append_left _ (ih1 y hy))
      · exact List.mem_cons_of_mem _ (List.mem_append_right _ (List.mem_cons_of_mem _ (ih2 y hy)))
theorem placed_right {s : ByteArray} {a : Nat} {l : List Tk} (h : Placed s a l) : ∀ t ∈ l, rightT t = true := by
  induction h with
  | nil => simp
  | cons a p t l hp ha hl hs hr hb h ih =>
    intro u hu
    rcases List.mem_cons.1 hu with rfl | hu
    · exact hr
    · exact ih u hu
theorem good_tr (s : ByteArray) : Good (trOf s) := by
  unfold trOf
  split
  · intro y hy; simp [nodes] at hy
  · rename_i R hR
    obtain ⟨l, h1, h2⟩ := scan_placed 0 [] R hR
    obtain rfl : R = l := by simpa using h1
    have h3 := placed_right h2
    split
    · intro y hy; simp [nodes] at hy
    · rename_i ts hts
      exact fun y hy => h3 _ (spells_tok (parse_spells hts).1 y hy)
end TM
end Go.Proofs.Ytapnefhmonpgdaa
