/-
  What might have been read is read again of its pieces: whatever tokens have these kinds and texts. Conditions: none.
-/
import Derived.Test.YtapnefhmonpgdaaTermBB
set_option linter.unusedSimpArgs false
set_option linter.unusedVariables false
namespace Go.Proofs.Ytapnefhmonpgdaa
namespace TM
open LX TR
/-- Tokens of these kinds and texts are those of trees that are read as such a thing, whatever stands behind. -/
def Cmp {α : Type} (rd : Nat → Rdr α) (g : List Ky) (q : α → Prop) : Prop :=
  ∀ m : List Tk, m.map kyT = g → ∃ ts, Spells m ts ∧ ∀ d e r, (nodes ts).length ≤ d → ∃ y, rd d (ts ++ r) e = .ok (y, r) ∧ q y
theorem kcons {m : List Tk} {u : Ky} {g : List Ky} (h : m.map kyT = u :: g) : ∃ t m', m = t :: m' ∧ t.k = u.1 ∧ t.s = u.2 ∧ m'.map kyT = g := by
  cases m with
  | nil => cases h
  | cons t m' =>
    rw [List.map_cons] at h
    injection h with h1 h2
    exact ⟨t, m', rfl, congrArg Prod.fst h1, congrArg Prod.snd h1, h2⟩
theorem knil {m : List Tk} (h : m.map kyT = []) : m = [] := by simpa using h
theorem kapp {m : List Tk} {a b : List Ky} (h : m.map kyT = a ++ b) : ∃ m1 m2, m = m1 ++ m2 ∧ m1.map kyT = a ∧ m2.map kyT = b := by
  obtain ⟨m1, m2, h1, h2, h3⟩ := List.map_eq_append_iff.1 h
  exact ⟨m1, m2, h1, h2, h3⟩
theorem cl97 : cl 97 = 0 := rfl
def leafT (t : Tk) : Tr := .mk t none 0 [] t.p
theorem sp_leaf {t : Tk} (h0 : cl t.k = 0) (h1 : cls t.k = false) : Spells [t] [leafT t] := .leaf h0 h1 .nil
theorem sp_cons {t : Tk} {m : List Tk} {ts : List Tr} (h0 : cl t.k = 0) (h1 : cls t.k = false) (h : Spells m ts) : Spells (t :: m) (leafT t :: ts) := .leaf h0 h1 h
theorem sp_head {t : Tk} {m : List Tk} {ts : List Tr} (h : Spells (t :: m) ts) : ∃ x r, ts = x :: r ∧ x.t = t := by
  cases h with
  | leaf h0 h1 h2 => exact ⟨_, _, rfl, rfl⟩
  | node h0 h1 h2 h3 => exact ⟨_, _, rfl, rfl⟩
theorem nodes_app (a b : List Tr) : (nodes (a ++ b)).length = (nodes a).length + (nodes b).length := by rw [nodes_append, List.length_append]
theorem nodes_len (x : Tr) (r : List Tr) : (nodes (x :: r)).length = 1 + (nodes x.ks).length + (nodes r).length := by
  rw [nodes_cons, List.length_cons, List.length_append]; omega
theorem cmp_name (w : Wd) : Cmp (fun _ => nameR) (kw w) (fun v => sw v w = true) := fun m hm => by
  obtain ⟨t, m', rfl, hk, hs, h0⟩ := kcons hm
  obtain rfl := knil h0
  have hk : t.k = 97 := hk
  have hs : t.s = w.s := hs
  refine ⟨[leafT t], sp_leaf (by rw [hk]; rfl) (by rw [hk]; rfl), fun d e r _ => ⟨⟨t.s, t.p⟩, ?_, ?_⟩⟩
  · show bnd (takeR 97 (leafT t :: r) e) _ = _
    rw [takeR_hit (x := leafT t) hk]; rfl
  · show decide (t.s = w.s) = true
    exact decide_eq_true hs
theorem moreR_stop0 {α : Type} {el : Rdr α} (n : Nat) {ts : List Tr} {e : Int} (hk : kindOf ts none ≠ 44) : moreR el n ts e = .ok ([], ts) := by
  cases n with
  | zero => rfl
  | succ n =>
    cases ts with
    | nil => rfl
    | cons c r =>
      have h' : ¬ c.t.k = 44 := hk
      simp only [moreR]; rw [if_neg h']
section
variable {α : Type} {rd : Nat → Rdr α} {g : α → List Ky} {f : α → α → Bool}
theorem cmp_more : ∀ xs : List α, (∀ x ∈ xs, Cmp rd (g x) (fun y => f y x = true)) → ∀ m : List Tk, m.map kyT = jkt (xs.map g) →
    ∃ ts, Spells m ts ∧ xs.length ≤ ts.length ∧ ∀ n d e r, xs.length ≤ n → (nodes ts).length ≤ d → kindOf r none ≠ 44 → ∃ ys, moreR (rd d) n (ts ++ r) e = .ok (ys, r) ∧ eqL f ys xs = true
  | [], _, m, hm => by
    obtain rfl := knil hm
    exact ⟨[], .nil, Nat.le_refl _, fun n d e r _ _ hk => ⟨[], moreR_stop0 n hk, rfl⟩⟩
  | x :: xs, h, m, hm => by
    rw [List.map_cons, jkt] at hm
    obtain ⟨c, m0, rfl, hk, _, hm⟩ := kcons hm
    obtain ⟨m1, m2, rfl, h1, h2⟩ := kapp hm
    have hk : c.k = 44 := hk
    obtain ⟨ts1, hs1, hr1⟩ := h x (by simp) m1 h1
    obtain ⟨ts2, hs2, hl2, hr2⟩ := cmp_more xs (fun y hy => h y (by simp [hy])) m2 h2
    have hcl : cl c.k = 0 := by rw [hk]; rfl
    refine ⟨leafT c :: (ts1 ++ ts2), sp_cons hcl (by rw [hk]; rfl) (hs1.append hs2), by simp only [List.length_cons, List.length_append]; omega, fun n d e r hn hd hkr => ?_⟩
    rw [nodes_len, nodes_app] at hd
    obtain ⟨n, rfl⟩ : ∃ k, n = k + 1 := ⟨n - 1, by simp only [List.length_cons] at hn; omega⟩
    obtain ⟨y, hy, hq⟩ := hr1 d e (ts2 ++ r) (by omega)
    obtain ⟨ys, hys, hqs⟩ := hr2 n d e r (by simp only [List.length_cons] at hn; omega) (by omega) hkr
    refine ⟨y :: ys, ?_, by rw [eqL, hq, hqs]; rfl⟩
    rw [List.cons_append, List.append_assoc]
    simp only [moreR]
    rw [if_pos (show (leafT c).t.k = 44 from hk), hy]
    show bnd (moreR (rd d) n (ts2 ++ r) e) _ = _
    rw [hys]; rfl
theorem cmp_some {xs : List α} (hne : xs ≠ []) (h : ∀ x ∈ xs, Cmp rd (g x) (fun y => f y x = true)) (m : List Tk) (hm : m.map kyT = jkc (xs.map g)) :
    ∃ ts, Spells m ts ∧ ∀ d e r, (nodes ts).length ≤ d → kindOf r none ≠ 44 → ∃ ys, someR (rd d) (ts ++ r) e = .ok (ys, r) ∧ eqL f ys xs = true := by
  cases xs with
  | nil => exact absurd rfl hne
  | cons x xs =>
    rw [List.map_cons, jkc] at hm
    obtain ⟨m1, m2, rfl, h1, h2⟩ := kapp hm
    obtain ⟨ts1, hs1, hr1⟩ := h x (by simp) m1 h1
    obtain ⟨ts2, hs2, hl2, hr2⟩ := cmp_more xs (fun y hy => h y (by simp [hy])) m2 h2
    refine ⟨ts1 ++ ts2, hs1.append hs2, fun d e r hd hkr => ?_⟩
    rw [nodes_app] at hd
    obtain ⟨y, hy, hq⟩ := hr1 d e (ts2 ++ r) (by omega)
    obtain ⟨ys, hys, hqs⟩ := hr2 (ts1 ++ ts2 ++ r).length d e r (by simp only [List.length_append]; omega) (by omega) hkr
    refine ⟨y :: ys, ?_, by rw [eqL, hq, hqs]; rfl⟩
    unfold someR
    rw [List.append_assoc] at hys ⊢
    rw [hy]
    show bnd (moreR (rd d) _ (ts2 ++ r) e) _ = _
    rw [hys]; rfl
theorem cmp_opt {xs : List α} (h : ∀ x ∈ xs, Cmp rd (g x) (fun y => f y x = true)) (hh : ∀ x ∈ xs, ∃ u b, g x = u :: b ∧ u.1 ≠ 124) (m : List Tk) (hm : m.map kyT = jkc (xs.map g)) :
    ∃ ts, Spells m ts ∧ ∀ d e r, (nodes ts).length ≤ d → (r = [] ∨ kindOf r none = 124) → ∃ ys, optR (rd d) (ts ++ r) e = .ok (ys, r) ∧ eqL f ys xs = true := by
  cases xs with
  | nil =>
    obtain rfl := knil hm
    refine ⟨[], .nil, fun d e r _ hr => ⟨[], ?_, rfl⟩⟩
    rw [List.nil_append]
    cases r with
    | nil => rfl
    | cons y q =>
      have hk : y.t.k = 124 := hr.elim (fun h => by cases h) (fun h => h)
      simp only [optR]
      rw [if_pos hk]
  | cons x xs =>
    obtain ⟨ts, hs, hr⟩ := cmp_some (by simp) h m hm
    obtain ⟨u, b, hu, h124⟩ := hh x (by simp)
    rw [List.map_cons, jkc, hu, List.cons_append] at hm
    obtain ⟨t, m0, rfl, hk, _, _⟩ := kcons hm
    obtain ⟨z, q, rfl, rfl⟩ := sp_head hs
    refine ⟨z :: q, hs, fun d e r hd hrr => ?_⟩
    have hk44 : kindOf r none ≠ 44 := by
      rcases hrr with rfl | h
      · decide
      · rw [h]; decide
    obtain ⟨ys, hys, hq⟩ := hr d e r hd hk44
    refine ⟨ys, ?_, hq⟩
    rw [← hys, List.cons_append]
    simp only [optR]
    rw [if_neg (by rw [hk]; exact h124)]
end
/-- A bracket whose content is read to its end. -/
theorem cmp_within {β : Type} {rd : Nat → Rdr β} {a : List Ky} {q : β → Prop} {k : Nat} (hk0 : ¬ cl k = 0)
    (h : ∀ m : List Tk, m.map kyT = a → ∃ ts, Spells m ts ∧ ∀ d e, (nodes ts).length ≤ d → ∃ y, rd d ts e = .ok (y, []) ∧ q y) (m : List Tk) (hm : m.map kyT = sg k :: (a ++ [sg (cl k)])) :
    ∃ x, Spells m [x] ∧ x.t.k = k ∧ ∀ d e r, (nodes x.ks).length ≤ d → ∃ y, withinR k (rd d) (x :: r) e = .ok (y, r) ∧ q y := by
  obtain ⟨t, m0, rfl, hk, _, hm⟩ := kcons hm
  obtain ⟨m1, m2, rfl, h1, h2⟩ := kapp hm
  obtain ⟨c, m3, rfl, hc, _, h3⟩ := kcons h2
  obtain rfl := knil h3
  have hk : t.k = k := hk
  have hc : c.k = cl k := hc
  obtain ⟨ts, hs, hr⟩ := h m1 h1
  refine ⟨.mk t none 0 ts c.p, .node (by rw [hk]; exact hk0) (by rw [hc, hk]) hs .nil, hk, fun d e r hd => ?_⟩
  obtain ⟨y, hy, hq⟩ := hr d c.p hd
  refine ⟨y, ?_, hq⟩
  simp only [withinR]
  rw [if_pos (show (Tr.mk t none 0 ts c.p).t.k = k from hk)]
  show bnd (rd d ts c.p) _ = _
  rw [hy]; rfl
theorem cmp_set {ws : List Wd} (m : List Tk) (hm : m.map kyT = sg 123 :: (jkc (ws.map kw) ++ [sg 125])) :
    ∃ x, Spells m [x] ∧ x.t.k = 123 ∧ ∀ e r, ∃ vs, setR (x :: r) e = .ok (vs, r) ∧ eqL sw vs ws = true := by
  obtain ⟨x, h1, h2, h3⟩ := cmp_within (rd := fun _ => optR nameR) (k := 123) (q := fun vs => eqL sw vs ws = true) (by decide) (fun m hm => by
    obtain ⟨ts, hs, hr⟩ := cmp_opt (rd := fun _ => nameR) (g := kw) (f := sw) (xs := ws) (fun x _ => cmp_name x) (fun x _ => ⟨(97, x.s), [], rfl, show (97 : Nat) ≠ 124 by decide⟩) m hm
    exact ⟨ts, hs, fun d e hd => by have h := hr d e [] hd (.inl rfl); rw [List.append_nil] at h; exact h⟩) m hm
  exact ⟨x, h1, h2, fun e r => h3 _ e r (Nat.le_refl _)⟩
def rdN : Nat → Nat → Rdr Nd
  | 1 => constR
  | 2 => fun _ => ruleR
  | 3 => labelR
  | 4 => fieldR
  | 5 => atomR
  | 6 => rowR
  | _ => fun _ _ _ => .error 0
theorem cmp_var {p : Int} {s : ByteArray} {A c B d0} (m : List Tk) (hm : m.map kyT = [(97, s)]) :
    ∃ x, Spells m [x] ∧ x.t.k = 97 ∧ ∀ e r, ∃ y, varR (x :: r) e = .ok (y, r) ∧ sm y (.mk 1 p s A c [] B d0 []) = true := by
  obtain ⟨t, m', rfl, hk, hs, h0⟩ := kcons hm
  obtain rfl := knil h0
  have hk : t.k = 97 := hk
  have hs : t.s = s := hs
  refine ⟨leafT t, sp_leaf (by rw [hk]; rfl) (by rw [hk]; rfl), hk, fun e r => ⟨nd 1 t.p t.s [] [], ?_, ?_⟩⟩
  · unfold varR nameR
    rw [takeR_hit (x := leafT t) hk]; rfl
  · unfold nd; show sm _ _ = true; rw [sm_mk, hs]; simp [eqL]
theorem head_rule {y : Nd} (h : W 2 y) : ∃ u b, ky y = u :: b ∧ u.1 ≠ 124 := by
  cases h; exact ⟨(97, _), _, ky_mk, show (97 : Nat) ≠ 124 by decide⟩
theorem head_field {y : Nd} (h : W 4 y) : ∃ u b, ky y = u :: b ∧ u.1 ≠ 124 := by
  cases h; exact ⟨(97, _), _, ky_mk, show (97 : Nat) ≠ 124 by decide⟩
theorem head_atom {n : Nat} {y : Nd} (h : W n y) (hn : n = 5) : ∃ u b, ky y = u :: b ∧ u.1 ≠ 43 ∧ u.1 ≠ 38 := by
  subst hn
  cases h with
  | var hs => exact ⟨(97, _), [], ky_mk, show (97 : Nat) ≠ 43 by decide, show (97 : Nat) ≠ 38 by decide⟩
  | const h => exact ⟨sg 35, _, ky_mk, show (35 : Nat) ≠ 43 by decide, show (35 : Nat) ≠ 38 by decide⟩
/-- What might have been read is read again of its pieces. -/
theorem w_cmp {n : Nat} {x : Nd} (h : W n x) : Cmp (rdN n) (ky x) (fun y => sm y x = true) := by
  induction h with
  | @point p s A c B d0 hs =>
    intro m hm
    rw [ky_mk] at hm
    obtain ⟨t, m', rfl, hk, hs, h0⟩ := kcons (u := (97, s)) (g := []) hm
    obtain rfl := knil h0
    have hk : t.k = 97 := hk
    have hs : t.s = s := hs
    refine ⟨[leafT t], sp_leaf (by rw [hk]; rfl) (by rw [hk]; rfl), fun d e r hd => ?_⟩
    rw [nodes_len] at hd
    obtain ⟨d, rfl⟩ : ∃ k, d = k + 1 := ⟨d - 1, by omega⟩
    refine ⟨nd 2 t.p t.s [] [], ?_, ?_⟩
    · simp only [rdN, List.cons_append, List.nil_append, constR]
      rw [if_pos (show (leafT t).t.k = 97 from hk)]; rfl
    · unfold nd; show sm _ _ = true; rw [sm_mk, hs]; simp [eqL]
  | @set p A c ws B d0 hw =>
    intro m hm
    rw [ky_mk] at hm
    obtain ⟨x, h1, h2, h3⟩ := cmp_set (ws := ws) m hm
    refine ⟨[x], h1, fun d e r hd => ?_⟩
    rw [nodes_len] at hd
    obtain ⟨d, rfl⟩ : ∃ k, d = k + 1 := ⟨d - 1, by omega⟩
    obtain ⟨vs, hv, hq⟩ := h3 e r
    refine ⟨nd 3 x.t.p e0 vs [], ?_, ?_⟩
    · simp only [rdN, List.cons_append, List.nil_append, constR]
      rw [if_neg (by rw [h2]; decide), if_pos h2, hv]; rfl
    · unfold nd; show sm _ _ = true; rw [sm_mk, hq]; simp [eqL]
  | @tuple p A c B d0 ks hne h ih =>
    intro m hm
    rw [ky_mk] at hm
    obtain ⟨x, h1, h2, h3⟩ := cmp_within (rd := fun d => someR (constR d)) (k := 40) (a := jkc (ks.map ky)) (q := fun ys => eqL sm ys ks = true) (by decide) (fun m hm => by
      obtain ⟨ts, hs, hr⟩ := cmp_some (rd := constR) (g := ky) (f := sm) hne ih m hm
      exact ⟨ts, hs, fun d e hd => by have h := hr d e [] hd (by decide); rw [List.append_nil] at h; exact h⟩) m hm
    refine ⟨[x], h1, fun d e r hd => ?_⟩
    rw [nodes_len] at hd
    obtain ⟨d, rfl⟩ : ∃ k, d = k + 1 := ⟨d - 1, by omega⟩
    obtain ⟨ys, hv, hq⟩ := h3 d e r (by omega)
    refine ⟨nd 4 x.t.p e0 [] ys, ?_, ?_⟩
    · simp only [rdN, List.cons_append, List.nil_append, constR]
      rw [if_neg (by rw [h2]; decide), if_neg (by rw [h2]; decide), if_pos h2, hv]; rfl
    · unfold nd; show sm _ _ = true; rw [sm_mk, hq]; simp [eqL]
  | @grid p A c B d0 ks h ih =>
    intro m hm
    rw [ky_mk] at hm
    obtain ⟨x, h1, h2, h3⟩ := cmp_within (rd := fun _ => optR ruleR) (k := 91) (a := jkc (ks.map ky)) (q := fun ys => eqL sm ys ks = true) (by decide) (fun m hm => by
      obtain ⟨ts, hs, hr⟩ := cmp_opt (rd := fun _ => ruleR) (g := ky) (f := sm) ih (fun y hy => head_rule (h y hy)) m hm
      exact ⟨ts, hs, fun d e hd => by have h := hr d e [] hd (.inl rfl); rw [List.append_nil] at h; exact h⟩) m hm
    refine ⟨[x], h1, fun d e r hd => ?_⟩
    rw [nodes_len] at hd
    obtain ⟨d, rfl⟩ : ∃ k, d = k + 1 := ⟨d - 1, by omega⟩
    obtain ⟨ys, hv, hq⟩ := h3 d e r (by omega)
    refine ⟨nd 5 x.t.p e0 [] ys, ?_, ?_⟩
    · simp only [rdN, List.cons_append, List.nil_append, constR]
      rw [if_neg (by rw [h2]; decide), if_neg (by rw [h2]; decide), if_neg (by rw [h2]; decide), if_pos h2, hv]; rfl
    · unfold nd; show sm _ _ = true; rw [sm_mk, hq]; simp [eqL]
  | @rule p s A c ws B d0 hs hw =>
    intro m hm
    rw [ky_mk] at hm
    obtain ⟨t, m0, rfl, hk, hts, hm⟩ := kcons (u := (97, s)) (g := sg 58 :: sg 123 :: (jkc (ws.map kw) ++ [sg 125])) hm
    obtain ⟨c2, m1, rfl, hk2, _, hm⟩ := kcons hm
    obtain ⟨x, h1, h2, h3⟩ := cmp_set (ws := ws) m1 hm
    have hk : t.k = 97 := hk
    have hts : t.s = s := hts
    have hk2 : c2.k = 58 := hk2
    refine ⟨leafT t :: leafT c2 :: [x], sp_cons (by rw [hk]; rfl) (by rw [hk]; rfl) (sp_cons (by rw [hk2]; rfl) (by rw [hk2]; rfl) h1), fun d e r hd => ?_⟩
    obtain ⟨vs, hv, hq⟩ := h3 e r
    refine ⟨nd 6 t.p t.s vs [], ?_, ?_⟩
    · simp only [rdN, List.cons_append, List.nil_append]
      unfold ruleR nameR
      rw [takeR_hit (x := leafT t) hk]
      show bnd (takeR 58 (leafT c2 :: x :: r) e) _ = _
      rw [takeR_hit (x := leafT c2) hk2]
      show bnd (setR (x :: r) e) _ = _
      rw [hv]; rfl
    · unfold nd; show sm _ _ = true; rw [sm_mk, hq, hts]; simp [eqL]
  | @var p s A c B d0 hs =>
    intro m hm
    rw [ky_mk] at hm
    obtain ⟨x, h1, h2, h3⟩ := cmp_var (p := p) (s := s) (A := A) (c := c) (B := B) (d0 := d0) m hm
    refine ⟨[x], h1, fun d e r hd => ?_⟩
    obtain ⟨y, hy, hq⟩ := h3 e r
    refine ⟨y, ?_, hq⟩
    simp only [rdN, List.cons_append, List.nil_append, atomR]
    rw [if_neg (by rw [h2]; decide)]; exact hy
  | @const p A c B d0 z h ih =>
    intro m hm
    rw [ky_mk] at hm
    obtain ⟨t, m0, rfl, hk, _, hm⟩ := kcons (u := sg 35) (g := ky z) hm
    have hk : t.k = 35 := hk
    obtain ⟨ts, hs, hr⟩ := ih m0 hm
    refine ⟨leafT t :: ts, sp_cons (by rw [hk]; rfl) (by rw [hk]; rfl) hs, fun d e r hd => ?_⟩
    rw [nodes_len] at hd
    obtain ⟨y, hy, hq⟩ := hr d e r (by omega)
    have hy : constR d (ts ++ r) e = .ok (y, r) := hy
    refine ⟨nd 7 t.p e0 [] [y], ?_, ?_⟩
    · simp only [rdN, List.cons_append, atomR]
      rw [if_pos (show (leafT t).t.k = 35 from hk), hy]; rfl
    · unfold nd; show sm _ _ = true; rw [sm_mk]; simp [eqL, hq]
  | @atom x h ih =>
    intro m hm
    obtain ⟨ts, hs, hr⟩ := ih m hm
    obtain ⟨u, b, hu, h43, h38⟩ := head_atom h rfl
    rw [hu] at hm
    obtain ⟨t, m0, rfl, hk, _, _⟩ := kcons hm
    obtain ⟨z, q, rfl, rfl⟩ := sp_head hs
    refine ⟨z :: q, hs, fun d e r hd => ?_⟩
    have hd' := hd
    rw [nodes_len] at hd'
    obtain ⟨d, rfl⟩ : ∃ k, d = k + 1 := ⟨d - 1, by omega⟩
    obtain ⟨y, hy, hq⟩ := hr (d + 1) e r hd
    refine ⟨y, ?_, hq⟩
    have hy : atomR (d + 1) (z :: q ++ r) e = .ok (y, r) := hy
    rw [← hy]
    simp only [rdN, List.cons_append, labelR]
    rw [if_neg (by rw [hk]; exact h43), if_neg (by rw [hk]; exact h38)]
  | @join p A c B d0 ks hne h ih =>
    intro m hm
    rw [ky_mk] at hm
    obtain ⟨t, m0, rfl, hk, _, hm⟩ := kcons (u := sg 43) (g := sg 40 :: (jkc (ks.map ky) ++ [sg 41])) hm
    have hk : t.k = 43 := hk
    obtain ⟨x, h1, h2, h3⟩ := cmp_within (rd := fun d => someR (labelR d)) (k := 40) (a := jkc (ks.map ky)) (q := fun ys => eqL sm ys ks = true) (by decide) (fun m hm => by
      obtain ⟨ts, hs, hr⟩ := cmp_some (rd := labelR) (g := ky) (f := sm) hne ih m hm
      exact ⟨ts, hs, fun d e hd => by have h := hr d e [] hd (by decide); rw [List.append_nil] at h; exact h⟩) m0 hm
    refine ⟨leafT t :: [x], sp_cons (by rw [hk]; rfl) (by rw [hk]; rfl) h1, fun d e r hd => ?_⟩
    rw [nodes_len, nodes_len] at hd
    obtain ⟨d, rfl⟩ : ∃ k, d = k + 1 := ⟨d - 1, by omega⟩
    obtain ⟨ys, hv, hq⟩ := h3 d e r (by omega)
    refine ⟨nd 8 t.p e0 [] ys, ?_, ?_⟩
    · simp only [rdN, List.cons_append, List.nil_append, labelR]
      rw [if_pos (show (leafT t).t.k = 43 from hk), hv]; rfl
    · unfold nd; show sm _ _ = true; rw [sm_mk, hq]; simp [eqL]
  | @meet p A c B d0 ks hne h ih =>
    intro m hm
    rw [ky_mk] at hm
    obtain ⟨t, m0, rfl, hk, _, hm⟩ := kcons (u := sg 38) (g := sg 40 :: (jkc (ks.map ky) ++ [sg 41])) hm
    have hk : t.k = 38 := hk
    obtain ⟨x, h1, h2, h3⟩ := cmp_within (rd := fun d => someR (labelR d)) (k := 40) (a := jkc (ks.map ky)) (q := fun ys => eqL sm ys ks = true) (by decide) (fun m hm => by
      obtain ⟨ts, hs, hr⟩ := cmp_some (rd := labelR) (g := ky) (f := sm) hne ih m hm
      exact ⟨ts, hs, fun d e hd => by have h := hr d e [] hd (by decide); rw [List.append_nil] at h; exact h⟩) m0 hm
    refine ⟨leafT t :: [x], sp_cons (by rw [hk]; rfl) (by rw [hk]; rfl) h1, fun d e r hd => ?_⟩
    rw [nodes_len, nodes_len] at hd
    obtain ⟨d, rfl⟩ : ∃ k, d = k + 1 := ⟨d - 1, by omega⟩
    obtain ⟨ys, hv, hq⟩ := h3 d e r (by omega)
    refine ⟨nd 9 t.p e0 [] ys, ?_, ?_⟩
    · simp only [rdN, List.cons_append, List.nil_append, labelR]
      rw [if_neg (show ¬ (leafT t).t.k = 43 from by rw [show (leafT t).t.k = 38 from hk]; decide), if_pos (show (leafT t).t.k = 38 from hk), hv]; rfl
    · unfold nd; show sm _ _ = true; rw [sm_mk, hq]; simp [eqL]
  | @field p s A c B d0 z hs h ih =>
    intro m hm
    rw [ky_mk] at hm
    obtain ⟨t, m0, rfl, hk, hts, hm⟩ := kcons (u := (97, s)) (g := sg 61 :: ky z) hm
    obtain ⟨c2, m1, rfl, hk2, _, hm⟩ := kcons hm
    have hk : t.k = 97 := hk
    have hts : t.s = s := hts
    have hk2 : c2.k = 61 := hk2
    obtain ⟨ts, hsp, hr⟩ := ih m1 hm
    refine ⟨leafT t :: leafT c2 :: ts, sp_cons (by rw [hk]; rfl) (by rw [hk]; rfl) (sp_cons (by rw [hk2]; rfl) (by rw [hk2]; rfl) hsp), fun d e r hd => ?_⟩
    rw [nodes_len, nodes_len] at hd
    obtain ⟨y, hy, hq⟩ := hr d e r (by omega)
    have hy : atomR d (ts ++ r) e = .ok (y, r) := hy
    refine ⟨nd 11 t.p t.s [] [y], ?_, ?_⟩
    · simp only [rdN, List.cons_append]
      unfold fieldR nameR
      rw [takeR_hit (x := leafT t) hk]
      show bnd (takeR 61 (leafT c2 :: (ts ++ r)) e) _ = _
      rw [takeR_hit (x := leafT c2) hk2]
      show bnd (atomR d (ts ++ r) e) _ = _
      rw [hy]; rfl
    · unfold nd; show sm _ _ = true; rw [sm_mk, hts]; simp [eqL, hq]
  | @rvar p s A c B d0 hs =>
    intro m hm
    rw [ky_mk] at hm
    obtain ⟨x, h1, h2, h3⟩ := cmp_var (p := p) (s := s) (A := A) (c := c) (B := B) (d0 := d0) m hm
    refine ⟨[x], h1, fun d e r hd => ?_⟩
    obtain ⟨y, hy, hq⟩ := h3 e r
    refine ⟨y, ?_, hq⟩
    simp only [rdN, List.cons_append, List.nil_append, rowR]
    rw [if_neg (by rw [h2]; decide)]; exact hy
  | @row p A c ws B d0 ks hl hw h ih =>
    intro m hm
    rw [ky_mk] at hm
    obtain ⟨x, h1, h2, h3⟩ := cmp_within (rd := inrowR) (k := 91) (a := jkc (ks.map ky) ++ (if ws.map kw = [] then [] else sg 124 :: jkc (ws.map kw))) (q := fun ab => eqL sm ab.1 ks = true ∧ eqL sw ab.2 ws = true) (by decide) (fun m hm => by
      obtain ⟨m1, m2, rfl, hm1, hm2⟩ := kapp hm
      obtain ⟨ts, hs, hr⟩ := cmp_opt (rd := fieldR) (g := ky) (f := sm) ih (fun y hy => head_field (h y hy)) m1 hm1
      match ws, hl, hm2 with
      | [], _, hm2 =>
        obtain rfl := knil (by simpa using hm2)
        rw [List.append_nil]
        refine ⟨ts, hs, fun d e hd => ?_⟩
        obtain ⟨ys, hy, hq⟩ := hr d e [] hd (.inl rfl)
        rw [List.append_nil] at hy
        exact ⟨(ys, []), by unfold inrowR; rw [hy]; rfl, hq, rfl⟩
      | [w], _, hm2 =>
        have hm2 : m2.map kyT = sg 124 :: [(97, w.s)] := by simpa [jkc, jkt, kw] using hm2
        obtain ⟨t, m3, rfl, hk, _, hm3⟩ := kcons hm2
        obtain ⟨t2, m4, rfl, hk2, hs2, hm4⟩ := kcons hm3
        obtain rfl := knil hm4
        have hk : t.k = 124 := hk
        have hk2 : t2.k = 97 := hk2
        have hs2 : t2.s = w.s := hs2
        refine ⟨ts ++ [leafT t, leafT t2], hs.append (sp_cons (by rw [hk]; rfl) (by rw [hk]; rfl) (sp_leaf (by rw [hk2]; rfl) (by rw [hk2]; rfl))), fun d e hd => ?_⟩
        rw [nodes_app] at hd
        obtain ⟨ys, hy, hq⟩ := hr d e [leafT t, leafT t2] (by omega) (.inr hk)
        refine ⟨(ys, [⟨t2.s, t2.p⟩]), ?_, hq, ?_⟩
        · unfold inrowR
          rw [hy]
          show tailR ys [leafT t, leafT t2] e = _
          simp only [tailR]
          rw [if_pos (show (leafT t).t.k = 124 from hk)]
          unfold nameR
          rw [takeR_hit (x := leafT t2) hk2]; rfl
        · simp [eqL, sw, hs2]
      | _ :: _ :: _, hl, _ => simp at hl) m hm
    refine ⟨[x], h1, fun d e r hd => ?_⟩
    rw [nodes_len] at hd
    obtain ⟨ab, hv, hq1, hq2⟩ := h3 d e r (by omega)
    refine ⟨nd 10 x.t.p e0 ab.2 ab.1, ?_, ?_⟩
    · simp only [rdN, List.cons_append, List.nil_append, rowR]
      rw [if_pos h2, hv]; rfl
    · unfold nd; show sm _ _ = true; rw [sm_mk, hq1, hq2]; simp
end TM
end Go.Proofs.Ytapnefhmonpgdaa
