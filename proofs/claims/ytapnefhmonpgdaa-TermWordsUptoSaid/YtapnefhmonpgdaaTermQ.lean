/-
  Reading does not look at where lists lie; the trees of a line; the chapter's example. Conditions: lines of at most 2^30 bytes.
-/
import Derived.Test.YtapnefhmonpgdaaTermP
namespace Go.Proofs.Ytapnefhmonpgdaa
namespace TM
open LX TR
theorem ter_cons (x : Tr) (r : List Tr) : TR.er (x :: r) = .mk x.t none 0 (TR.er x.ks) x.e :: TR.er r := by cases x; rw [TR.er]; rfl
theorem ter_nil : TR.er [] = [] := by simp [TR.er]
/-- The same result but for where lists lie. -/
def mapR {α : Type} (x : Res α) : Res α := match x with
  | .error p => .error p
  | .ok (a, r) => .ok (a, TR.er r)
def EI {α : Type} (rd : Rdr α) : Prop := ∀ ts e, rd (TR.er ts) e = mapR (rd ts e)
theorem EI.bind {α β : Type} {rd : Rdr α} {rd2 : α → Rdr β} (h : EI rd) (h2 : ∀ a, EI (rd2 a)) : EI (fun ts e => bnd (rd ts e) fun a r => rd2 a r e) := fun ts e => by
  show bnd (rd (TR.er ts) e) _ = mapR (bnd (rd ts e) _)
  rw [h]
  cases rd ts e with
  | error p => rfl
  | ok ar => obtain ⟨a, r⟩ := ar; exact h2 a r e
theorem EI.pure {α : Type} (x : α) : EI (fun ts _ => .ok (x, ts)) := fun _ _ => rfl
theorem EI.map {α β : Type} {rd : Rdr α} (g : α → β) (h : EI rd) : EI (fun ts e => bnd (rd ts e) fun a r => .ok (g a, r)) := EI.bind (rd2 := fun a ts _ => .ok (g a, ts)) h fun a => EI.pure _
theorem ei_take (k : Nat) : EI (takeR k) := fun ts e => by
  cases ts with
  | nil => rw [ter_nil]; rfl
  | cons x r =>
    rw [ter_cons]
    simp only [takeR]
    show (if x.t.k = k then _ else _) = _
    split <;> rfl
theorem ei_name : EI nameR := EI.map (fun t : Tk => (⟨t.s, t.p⟩ : Wd)) (ei_take 97)
theorem ei_more {α : Type} {el : Rdr α} (h : EI el) : ∀ n, EI (moreR el n)
  | 0 => fun _ _ => rfl
  | n + 1 => fun ts e => by
    cases ts with
    | nil => rw [ter_nil]; simp only [moreR]; simp [mapR, ter_nil]
    | cons c r =>
      have h2 := EI.bind (rd2 := fun x ts e => bnd (moreR el n ts e) fun xs r3 => .ok (x :: xs, r3)) h (fun x => EI.map (fun xs => x :: xs) (ei_more h n)) r e
      rw [ter_cons]
      simp only [moreR]
      show (if c.t.k = 44 then _ else _) = _
      split
      · exact h2
      · simp [mapR, ter_cons]
theorem ei_some {α : Type} {el : Rdr α} (h : EI el) : EI (someR el) := fun ts e => by
  have h2 := EI.bind (rd2 := fun x ts2 e => bnd (moreR el ts.length ts2 e) fun xs r3 => .ok (x :: xs, r3)) h (fun x => EI.map (fun xs => x :: xs) (ei_more h _)) ts e
  unfold someR
  rw [TR.er_length]
  exact h2
theorem ei_opt {α : Type} {el : Rdr α} (h : EI el) : EI (optR el) := fun ts e => by
  cases ts with
  | nil => rw [ter_nil]; simp [optR, mapR, ter_nil]
  | cons x r =>
    have h2 := ei_some h (x :: r) e
    rw [ter_cons] at h2 ⊢
    simp only [optR]
    show (if x.t.k = 124 then _ else _) = _
    split
    · simp [mapR, ter_cons]
    · exact h2
theorem ei_within {α : Type} {rd : Rdr α} (k : Nat) (h : EI rd) : EI (withinR k rd) := fun ts e => by
  cases ts with
  | nil => rw [ter_nil]; rfl
  | cons x r =>
    rw [ter_cons]
    simp only [withinR]
    show (if x.t.k = k then bnd (rd (TR.er x.ks) x.e) _ else _) = _
    split
    · rw [h x.ks x.e]
      cases rd x.ks x.e with
      | error p => rfl
      | ok ar =>
        obtain ⟨a, r2⟩ := ar
        cases r2 with
        | nil => simp [bnd, mapR, ter_nil]
        | cons y r3 => simp [bnd, mapR, ter_cons]; rfl
    · rfl
theorem ei_set : EI setR := ei_within 123 (ei_opt ei_name)
theorem ei_names : EI namesR := ei_within 123 (ei_some ei_name)
theorem ei_rule : EI ruleR := by
  have h1 : ∀ w : Wd, EI (fun ts e => bnd (takeR 58 ts e) fun _ r2 => bnd (setR r2 e) fun ws r3 => .ok (nd 6 w.p w.s ws [], r3)) := fun w =>
    EI.bind (rd2 := fun _ ts e => bnd (setR ts e) fun ws r3 => .ok (nd 6 w.p w.s ws [], r3)) (ei_take 58) fun _ => EI.map (fun ws => nd 6 w.p w.s ws []) ei_set
  have h2 := EI.bind (rd2 := fun w ts e => bnd (takeR 58 ts e) fun _ r2 => bnd (setR r2 e) fun ws r3 => .ok (nd 6 w.p w.s ws [], r3)) ei_name h1
  exact h2
theorem ei_const : ∀ d, EI (constR d)
  | 0 => fun _ _ => rfl
  | d + 1 => fun ts e => by
    cases ts with
    | nil => rw [ter_nil]; rfl
    | cons x r =>
      have h1 := (EI.map (fun ws => nd 3 x.t.p e0 ws []) ei_set) (x :: r) e
      have h2 := (EI.map (fun ks => nd 4 x.t.p e0 [] ks) (ei_within 40 (ei_some (ei_const d)))) (x :: r) e
      have h3 := (EI.map (fun ks => nd 5 x.t.p e0 [] ks) (ei_within 91 (ei_opt ei_rule))) (x :: r) e
      rw [ter_cons] at h1 h2 h3 ⊢
      simp only [constR]
      show (if x.t.k = 97 then _ else if x.t.k = 123 then _ else if x.t.k = 40 then _ else if x.t.k = 91 then _ else _) = _
      split
      · rfl
      · split
        · exact h1
        · split
          · exact h2
          · split
            · exact h3
            · rfl
theorem ei_var : EI varR := EI.map (fun w : Wd => nd 1 w.p w.s [] []) ei_name
theorem ei_atom (d : Nat) : EI (atomR d) := fun ts e => by
  cases ts with
  | nil => rw [ter_nil]; rfl
  | cons x r =>
    have h1 := (EI.map (fun n => nd 7 x.t.p e0 [] [n]) (ei_const d)) r e
    have h2 := ei_var (x :: r) e
    rw [ter_cons] at h2 ⊢
    simp only [atomR]
    show (if x.t.k = 35 then _ else _) = _
    split
    · exact h1
    · exact h2
theorem ei_label : ∀ d, EI (labelR d)
  | 0 => fun _ _ => rfl
  | d + 1 => fun ts e => by
    cases ts with
    | nil => rw [ter_nil]; rfl
    | cons x r =>
      have h1 := (EI.map (fun ks => nd 8 x.t.p e0 [] ks) (ei_within 40 (ei_some (ei_label d)))) r e
      have h2 := (EI.map (fun ks => nd 9 x.t.p e0 [] ks) (ei_within 40 (ei_some (ei_label d)))) r e
      have h3 := ei_atom (d + 1) (x :: r) e
      rw [ter_cons] at h3 ⊢
      simp only [labelR]
      show (if x.t.k = 43 then _ else if x.t.k = 38 then _ else _) = _
      split
      · exact h1
      · split
        · exact h2
        · exact h3
theorem ei_field (d : Nat) : EI (fieldR d) := by
  have h1 : ∀ w : Wd, EI (fun ts e => bnd (takeR 61 ts e) fun _ r2 => bnd (atomR d r2 e) fun n r3 => .ok (nd 11 w.p w.s [] [n], r3)) := fun w =>
    EI.bind (rd2 := fun _ ts e => bnd (atomR d ts e) fun n r3 => .ok (nd 11 w.p w.s [] [n], r3)) (ei_take 61) fun _ => EI.map (fun n => nd 11 w.p w.s [] [n]) (ei_atom d)
  have h2 := EI.bind (rd2 := fun w ts e => bnd (takeR 61 ts e) fun _ r2 => bnd (atomR d r2 e) fun n r3 => .ok (nd 11 w.p w.s [] [n], r3)) ei_name h1
  exact h2
theorem ei_tail (ks : List Nd) : EI (tailR ks) := fun ts e => by
  cases ts with
  | nil => rw [ter_nil]; simp [tailR, mapR, ter_nil]
  | cons x r =>
    have h1 := (EI.map (fun w : Wd => (ks, [w])) ei_name) r e
    rw [ter_cons]
    simp only [tailR]
    show (if x.t.k = 124 then _ else _) = _
    split
    · exact h1
    · simp [mapR, ter_cons]
theorem ei_inrow (d : Nat) : EI (inrowR d) := EI.bind (rd2 := fun ks ts e => tailR ks ts e) (ei_opt (ei_field d)) fun ks => ei_tail ks
theorem ei_row (d : Nat) : EI (rowR d) := fun ts e => by
  cases ts with
  | nil => rw [ter_nil]; rfl
  | cons x r =>
    have h1 := (EI.map (fun kw : List Nd × List Wd => nd 10 x.t.p e0 kw.2 kw.1) (ei_within 91 (ei_inrow d))) (x :: r) e
    have h2 := ei_var (x :: r) e
    rw [ter_cons] at h1 h2 ⊢
    simp only [rowR]
    show (if x.t.k = 91 then _ else _) = _
    split
    · exact h1
    · exact h2
theorem rest_zero (l : List Tr) : rest l 0 = l := by simp [rest]
/-- The trees of a line. -/
def trOf (s : ByteArray) : List Tr := match scan s 0 [] with
  | .error _ => []
  | .ok R => match parse R with
    | .error _ => []
    | .ok ts => ts
theorem kids_few : ∀ l, ∀ x ∈ nodes l, x.ks.length ≤ (nodes l).length := by
  refine TR.ind (fun x hx => by simp [nodes] at hx) fun t A c ks e r h1 h2 x hx => ?_
  rw [nodes] at hx ⊢
  simp only [List.length_cons, List.length_append]
  rcases List.mem_cons.1 hx with rfl | hx
  · have := length_nodes ks
    show ks.length ≤ _
    omega
  · rcases List.mem_append.1 hx with hx | hx
    · have := h1 x hx; omega
    · have := h2 x hx; omega
theorem sub_pos {s : ByteArray} {i k e : Nat} (h : i < s.size) (hs : st s i = .tok k e) : i < e ∧ e ≤ s.size := st_tok h hs
theorem scan_few {s : ByteArray} (i : Nat) : ∀ (acc R : List Tk), scan s i acc = .ok R → i ≤ s.size → R.length ≤ acc.length + (s.size - i) := by
  induction i using scan_induct (s := s) with
  | h i ih =>
    intro acc R hR hi
    by_cases hlt : i < s.size
    · cases hst : st s i with
      | skip =>
        rw [scan_skip acc hlt hst] at hR
        have := ih (i + 1) (by omega) acc R hR (by omega)
        omega
      | stop =>
        rw [scan_stop acc hlt hst] at hR
        injection hR with hR
        subst hR
        omega
      | bad => rw [scan_bad acc hlt hst] at hR; cases hR
      | tok k e =>
        rw [scan_tok acc hlt hst] at hR
        have he := st_tok hlt hst
        have := ih e he.1 _ R hR he.2
        rw [List.length_append, List.length_singleton] at this
        omega
    · rw [scan_end acc hlt] at hR
      injection hR with hR
      subst hR
      omega
  | hend i hi =>
    intro acc R hR _
    rw [scan_end acc hi] at hR
    injection hR with hR
    subst hR
    omega
theorem trOf_ok {s : ByteArray} {R : List Tk} {ts : List Tr} (hs : scan s 0 [] = .ok R) (hp : parse R = .ok ts) : trOf s = ts := by
  unfold trOf; rw [hs]; simp only; rw [hp]
theorem trOf_bad {s : ByteArray} {p : Nat} (hs : scan s 0 [] = .error p) : trOf s = [] := by unfold trOf; rw [hs]
theorem trOf_bad2 {s : ByteArray} {R : List Tk} {p : Int} (hs : scan s 0 [] = .ok R) (hp : parse R = .error p) : trOf s = [] := by
  unfold trOf; rw [hs]; simp only; rw [hp]
theorem trOf_few (s : ByteArray) : (nodes (trOf s)).length ≤ s.size := by
  cases hs : scan s 0 [] with
  | error p => rw [trOf_bad hs]; simp [nodes]
  | ok R =>
    have h1 := scan_few 0 [] R hs (Nat.zero_le _)
    cases hp : parse R with
    | error p => rw [trOf_bad2 hs hp]; simp [nodes]
    | ok ts =>
      rw [trOf_ok hs hp]
      have h2 := spells_length (parse_spells hp).1
      simp only [List.length_nil, Nat.zero_add, Nat.sub_zero] at h1
      omega
end TM
open Go.RowKit LX TR TM
set_option maxHeartbeats 800000 in
theorem trees10_any (s : ByteArray) (w : World) (hl : s.size ≤ 1073741824) :
    Calls Try.prog 28 #[.string s] w fun e w' => Below w.heap.size w w' ∧ ∃ X d us, e = .returned (.slice X us.length d) ∧ TR.er us = trOf s ∧ us.length ≤ d ∧ Trs w' w'.heap.size X us := by
  have HR := Lib.hid (fun W => refRead8_any s W (by omega))
  cases hs : scan s 0 [] with
  | error p =>
    have HT := Lib.hid (trOf_bad hs)
    have HP : Hid (∀ W c, Calls Try.prog 24 #[.slice none 0 c] W (Rt W.heap.size (parse []) · W ·)) := fun W c => refRead9_any none c [] W (by simp) (Toks.nil _ _)
    rw [hs] at HR
    clear hs
    go_enter Try.func28, Try.ntmps28
    go_wp2_with fail
    refine (HR.out _).mono ?_
    rintro e w1 ⟨hb1, rfl⟩
    have HB1 := Lib.hid (hb1.alloc hb1.size (.cells #[.int .i64 1, .int .i64 p] 27))
    clear hb1
    go_wp2_with fail
    refine (HP.out _ _).mono ?_
    rintro e w2 ⟨hb2, h2⟩
    have h2' : ∃ X d us, e = .returned (.tuple #[.slice X us.length d, .agg #[.int .i64 0, .int .i64 0]]) ∧ TR.er us = [] ∧ us.length ≤ d ∧ Trs w2 w2.heap.size X us := h2
    obtain ⟨X, d, us, rfl, hus, hd, htr⟩ := h2'
    have HB2 := Lib.hid ((HB1.out.trans (hb2.mono HB1.out.size)).alloc (Nat.le_trans HB1.out.size hb2.size) (.cells #[.int .i64 0, .int .i64 0] 27))
    have HTR := Lib.hid (Trs.mono (htr.below ((Below.refl _ _).alloc (Nat.le_refl _) (.cells #[.int .i64 0, .int .i64 0] 27))) (show w2.heap.size ≤ (w2.alloc (.cells #[.int .i64 0, .int .i64 0] 27)).heap.size by simp))
    have HUS := Lib.hid hus
    clear hb2 h2 htr hus
    go_wp2_with fail
    go_ret
    exact ⟨HB2.out, X, d, us, rfl, by rw [HT.out, HUS.out], hd, HTR.out⟩
  | ok R =>
    have hR := scan_few 0 [] R hs (Nat.zero_le _)
    simp only [List.length_nil, Nat.zero_add, Nat.sub_zero] at hR
    have HP := Lib.hid (fun A W c (h : Toks W A R) => refRead9_any A c R W (by omega) h)
    rw [hs] at HR
    have HRR : Hid (∀ W, Calls Try.prog 23 #[.string s] W fun e w' => Below W.heap.size W w' ∧ ∃ A c, e = .returned (.tuple #[.slice A R.length c, .agg #[.int .i64 0, .int .i64 0]]) ∧ w'.ownsRow W.heap.size 55 3 (.slice A R.length c) R.length (tkcells R)) := HR.out
    clear HR
    have HQQ : Hid (∀ p, parse R = .error p → trOf s = []) := fun p h => trOf_bad2 hs h
    have HQ2 : Hid (∀ ts, parse R = .ok ts → trOf s = ts) := fun p h => trOf_ok hs h
    clear hs hR
    generalize hn : R.length = n at *
    have HN := Lib.hid hn; clear hn
    go_enter Try.func28, Try.ntmps28
    go_wp2_with fail
    refine (HRR.out _).mono ?_
    rintro e w1 ⟨hb1, A, c, rfl, hown⟩
    have HT1 : Hid (Toks (w1.alloc (.cells #[.int .i64 0, .int .i64 0] 27)) A R) := Toks.alloc (Sl.of_own hown) _
    have HB1 := Lib.hid (hb1.alloc hb1.size (.cells #[.int .i64 0, .int .i64 0] 27))
    clear hb1 hown
    go_wp2_with fail
    refine (HP.out A _ c HT1.out).mono ?_
    rintro e w2 ⟨hb2, h2⟩
    cases hp : parse R with
    | error p =>
      rw [hp] at h2
      have h2' : e = .returned (.tuple #[.slice none 0 0, .agg #[.int .i64 2, .int .i64 p]]) := h2
      subst h2'
      have HT := Lib.hid (HQQ.out p hp)
      have HB2 := Lib.hid ((HB1.out.trans (hb2.mono HB1.out.size)).alloc (Nat.le_trans HB1.out.size hb2.size) (.cells #[.int .i64 2, .int .i64 p] 27))
      clear hb2 h2 hp
      go_wp2_with fail
      go_ret
      exact ⟨HB2.out, none, 0, [], rfl, by rw [HT.out]; exact ter_nil, Nat.le_refl _, Trs.nil _ _ _⟩
    | ok ts =>
      rw [hp] at h2
      have h2' : ∃ X d us, e = .returned (.tuple #[.slice X us.length d, .agg #[.int .i64 0, .int .i64 0]]) ∧ TR.er us = ts ∧ us.length ≤ d ∧ Trs w2 w2.heap.size X us := h2
      obtain ⟨X, d, us, rfl, hus, hd, htr⟩ := h2'
      have HT := Lib.hid (HQ2.out ts hp)
      have HB2 := Lib.hid ((HB1.out.trans (hb2.mono HB1.out.size)).alloc (Nat.le_trans HB1.out.size hb2.size) (.cells #[.int .i64 0, .int .i64 0] 27))
      have HTR := Lib.hid (Trs.mono (htr.below ((Below.refl _ _).alloc (Nat.le_refl _) (.cells #[.int .i64 0, .int .i64 0] 27))) (show w2.heap.size ≤ (w2.alloc (.cells #[.int .i64 0, .int .i64 0] 27)).heap.size by simp))
      have HUS := Lib.hid hus
      clear hb2 h2 htr hus hp
      go_wp2_with fail
      go_ret
      exact ⟨HB2.out, X, d, us, rfl, by rw [HT.out, HUS.out], hd, HTR.out⟩
end Go.Proofs.Ytapnefhmonpgdaa
