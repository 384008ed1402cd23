/-
  What might have been read (an inductive form), its pieces, and that its text is that of its pieces. Conditions: none.
-/
import Derived.Test.YtapnefhmonpgdaaTrmG
set_option linter.unusedSimpArgs false
set_option linter.unusedVariables false
namespace Go.Proofs.Ytapnefhmonpgdaa
namespace TM
open LX TR
/-- What might have been read: 1 a constant, 2 a rule, 3 a label, 4 a field, 5 an atom, 6 a row. -/
inductive W : Nat → Nd → Prop
  | point {p : Int} {s : ByteArray} {A : Option Addr} {c : Nat} {B : Option Addr} {d : Nat} (hs : NM.right s = true) : W 1 (.mk 2 p s A c [] B d [])
  | set {p : Int} {A : Option Addr} {c : Nat} {ws : List Wd} {B : Option Addr} {d : Nat} (hw : ∀ w ∈ ws, NM.right w.s = true) : W 1 (.mk 3 p e0 A c ws B d [])
  | tuple {p : Int} {A : Option Addr} {c : Nat} {B : Option Addr} {d : Nat} {ks : List Nd} (hne : ks ≠ []) (h : ∀ y ∈ ks, W 1 y) : W 1 (.mk 4 p e0 A c [] B d ks)
  | grid {p : Int} {A : Option Addr} {c : Nat} {B : Option Addr} {d : Nat} {ks : List Nd} (h : ∀ y ∈ ks, W 2 y) : W 1 (.mk 5 p e0 A c [] B d ks)
  | rule {p : Int} {s : ByteArray} {A : Option Addr} {c : Nat} {ws : List Wd} {B : Option Addr} {d : Nat} (hs : NM.right s = true) (hw : ∀ w ∈ ws, NM.right w.s = true) : W 2 (.mk 6 p s A c ws B d [])
  | var {p : Int} {s : ByteArray} {A : Option Addr} {c : Nat} {B : Option Addr} {d : Nat} (hs : NM.right s = true) : W 5 (.mk 1 p s A c [] B d [])
  | const {p : Int} {A : Option Addr} {c : Nat} {B : Option Addr} {d : Nat} {y : Nd} (h : W 1 y) : W 5 (.mk 7 p e0 A c [] B d [y])
  | atom {x : Nd} (h : W 5 x) : W 3 x
  | join {p : Int} {A : Option Addr} {c : Nat} {B : Option Addr} {d : Nat} {ks : List Nd} (hne : ks ≠ []) (h : ∀ y ∈ ks, W 3 y) : W 3 (.mk 8 p e0 A c [] B d ks)
  | meet {p : Int} {A : Option Addr} {c : Nat} {B : Option Addr} {d : Nat} {ks : List Nd} (hne : ks ≠ []) (h : ∀ y ∈ ks, W 3 y) : W 3 (.mk 9 p e0 A c [] B d ks)
  | field {p : Int} {s : ByteArray} {A : Option Addr} {c : Nat} {B : Option Addr} {d : Nat} {y : Nd} (hs : NM.right s = true) (h : W 5 y) : W 4 (.mk 11 p s A c [] B d [y])
  | rvar {p : Int} {s : ByteArray} {A : Option Addr} {c : Nat} {B : Option Addr} {d : Nat} (hs : NM.right s = true) : W 6 (.mk 1 p s A c [] B d [])
  | row {p : Int} {A : Option Addr} {c : Nat} {ws : List Wd} {B : Option Addr} {d : Nat} {ks : List Nd} (h1 : ws.length ≤ 1) (hw : ∀ w ∈ ws, NM.right w.s = true) (h : ∀ y ∈ ks, W 4 y) : W 6 (.mk 10 p e0 A c ws B d ks)
def gF (n : Nat) (f : Fl) : Bool := match n with
  | 1 => f.c
  | 2 => f.ru
  | 3 => f.l
  | 4 => f.fi
  | 5 => f.at'
  | 6 => f.r
  | _ => false
theorem fl_mk {k p s A c ws B d ks} : fl (.mk k p s A c ws B d ks) = fl1 k s ws (fls ks) := rfl
theorem wrB_of {ws : List Wd} (h : ∀ w ∈ ws, NM.right w.s = true) : wrB ws = true := by
  unfold wrB; rw [List.all_eq_true]; exact h
theorem of_wrB {ws : List Wd} (h : wrB ws = true) : ∀ w ∈ ws, NM.right w.s = true := by
  unfold wrB at h; rw [List.all_eq_true] at h; exact h
theorem fls_allof {ks : List Nd} {g : Fl → Bool} (h : ∀ y ∈ ks, g (fl y) = true) : (fls ks).all g = true := by
  rw [fls_map, List.all_map, List.all_eq_true]; exact h
theorem of_flsall {ks : List Nd} {g : Fl → Bool} (h : (fls ks).all g = true) : ∀ y ∈ ks, g (fl y) = true := by
  rw [fls_map, List.all_map, List.all_eq_true] at h; exact h
theorem fl_of {n : Nat} {x : Nd} (h : W n x) : gF n (fl x) = true := by
  induction h with
  | point hs => simp [gF, fl_mk, fl1, cB, leafB, fls, hs]
  | set hw => simp [gF, fl_mk, fl1, cB, fls, e0, wrB_of hw]
  | @tuple p A c B d ks hne h ih =>
    have h1 : (fls ks).all (·.c) = true := fls_allof ih
    have h2 : 0 < ks.length := List.length_pos_iff.2 hne
    simp only [gF, fl_mk, fl1, cB, brB, e0, fls_length, h1]
    simp [h2]
  | @grid p A c B d ks h ih =>
    have h1 : (fls ks).all (·.ru) = true := fls_allof ih
    simp only [gF, fl_mk, fl1, cB, brB, e0, h1]
    simp
  | rule hs hw => simp [gF, fl_mk, fl1, ruB, fls, hs, wrB_of hw]
  | var hs => simp [gF, fl_mk, fl1, atB, leafB, fls, hs]
  | const h ih =>
    have h1 : (fl _).c = true := ih
    simp [gF, fl_mk, fl1, atB, brB, fls_cons, fls, e0, h1]
  | @atom x h ih =>
    have h1 : (fl x).at' = true := ih
    show (fl x).l = true
    obtain ⟨k, p, s, A, c, ws, B, d, ks⟩ := x
    rw [fl_mk] at h1 ⊢
    have h2 : ¬ (k = 8 ∨ k = 9) := by
      rintro (rfl | rfl) <;> simp [fl1, atB] at h1
    simp only [fl1, lB, if_neg h2]
    exact h1
  | @join p A c B d ks hne h ih =>
    have h1 : (fls ks).all (·.l) = true := fls_allof ih
    have h2 : 0 < ks.length := List.length_pos_iff.2 hne
    simp only [gF, fl_mk, fl1, lB, brB, e0, fls_length, h1]
    simp [h2]
  | @meet p A c B d ks hne h ih =>
    have h1 : (fls ks).all (·.l) = true := fls_allof ih
    have h2 : 0 < ks.length := List.length_pos_iff.2 hne
    simp only [gF, fl_mk, fl1, lB, brB, e0, fls_length, h1]
    simp [h2]
  | field hs h ih =>
    have h1 : (fl _).at' = true := ih
    simp [gF, fl_mk, fl1, fiB, fls_cons, fls, hs, h1]
  | rvar hs => simp [gF, fl_mk, fl1, rB, leafB, fls, hs]
  | @row p A c ws B d ks h1 hw h ih =>
    have h2 : (fls ks).all (·.fi) = true := fls_allof ih
    simp only [gF, fl_mk, fl1, rB, e0, h2, wrB_of hw, decide_eq_true h1]
    simp
theorem leaf_of {s : ByteArray} {ws : List Wd} {n : Nat} (h : leafB s ws n = true) : NM.right s = true ∧ ws = [] ∧ n = 0 := by
  simpa [leafB] using h
theorem br_of {s : ByteArray} {ws : List Wd} (h : brB s ws = true) : s = e0 ∧ ws = [] := by
  simpa [brB, e0] using h
theorem fls_none {ks : List Nd} (h : (fls ks).length = 0) : ks = [] := by rw [fls_length] at h; exact List.length_eq_zero_iff.1 h
theorem at_of {k : Int} {p s A c ws B d ks} (ih : ∀ y ∈ ks, (fl y).c = true → W 1 y) (h : atB k s ws (fls ks) = true) : W 5 (.mk k p s A c ws B d ks) := by
  unfold atB at h
  split at h
  · rename_i hk
    obtain ⟨h1, rfl, h3⟩ := leaf_of h
    obtain rfl := fls_none h3
    subst hk; exact .var h1
  · split at h
    · rename_i hk
      simp only [Bool.and_eq_true, decide_eq_true_eq] at h
      obtain ⟨h1, h2, h3⟩ := h
      obtain ⟨rfl, rfl⟩ := br_of h1
      rw [fls_length] at h2
      obtain ⟨y, rfl⟩ := List.length_eq_one_iff.1 h2
      subst hk
      refine .const (ih y (by simp) ?_)
      rw [fls_cons] at h3
      exact h3
    · cases h
theorem of_fl : ∀ l : List Nd, ∀ x ∈ l, ((fl x).c = true → W 1 x) ∧ ((fl x).ru = true → W 2 x) ∧ ((fl x).l = true → W 3 x) ∧ ((fl x).fi = true → W 4 x) ∧ ((fl x).at' = true → W 5 x) ∧ ((fl x).r = true → W 6 x) := by
  refine ind (by simp) fun k p s A c ws B d ks r h1 h2 x hx => ?_
  rcases List.mem_cons.1 hx with rfl | hx
  · rw [fl_mk]
    have hat := fun h => at_of (p := p) (A := A) (c := c) (B := B) (d := d) (k := k) (s := s) (ws := ws) (fun y hy => (h1 y hy).1) h
    refine ⟨fun h => ?_, fun h => ?_, fun h => ?_, fun h => ?_, fun h => hat h, fun h => ?_⟩
    · have h : cB k s ws (fls ks) = true := h
      unfold cB at h
      split at h
      · rename_i hk
        obtain ⟨h3, rfl, h4⟩ := leaf_of h
        obtain rfl := fls_none h4
        subst hk; exact .point h3
      · split at h
        · rename_i hk
          simp only [Bool.and_eq_true, decide_eq_true_eq] at h
          obtain ⟨rfl, h3, h4⟩ := h
          obtain rfl := fls_none h3
          subst hk; exact .set (of_wrB h4)
        · split at h
          · rename_i hk
            simp only [Bool.and_eq_true, decide_eq_true_eq] at h
            obtain ⟨h3, h4, h5⟩ := h
            obtain ⟨rfl, rfl⟩ := br_of h3
            subst hk
            rw [fls_length] at h4
            exact .tuple (List.length_pos_iff.1 h4) fun y hy => (h1 y hy).1 (of_flsall h5 y hy)
          · split at h
            · rename_i hk
              simp only [Bool.and_eq_true] at h
              obtain ⟨h3, h5⟩ := h
              obtain ⟨rfl, rfl⟩ := br_of h3
              subst hk
              exact .grid fun y hy => (h1 y hy).2.1 (of_flsall h5 y hy)
            · cases h
    · have h : ruB k s ws (fls ks).length = true := h
      unfold ruB at h
      simp only [Bool.and_eq_true, decide_eq_true_eq] at h
      obtain ⟨rfl, h3, h4, h5⟩ := h
      obtain rfl := fls_none h4
      exact .rule h3 (of_wrB h5)
    · have h : lB k s ws (fls ks) = true := h
      unfold lB at h
      split at h
      · rename_i hk
        simp only [Bool.and_eq_true, decide_eq_true_eq] at h
        obtain ⟨h3, h4, h5⟩ := h
        obtain ⟨rfl, rfl⟩ := br_of h3
        rw [fls_length] at h4
        have h6 : ∀ y ∈ ks, W 3 y := fun y hy => (h1 y hy).2.2.1 (of_flsall h5 y hy)
        rcases hk with rfl | rfl
        · exact .join (List.length_pos_iff.1 h4) h6
        · exact .meet (List.length_pos_iff.1 h4) h6
      · exact .atom (hat h)
    · have h : fiB k s ws (fls ks) = true := h
      unfold fiB at h
      simp only [Bool.and_eq_true, decide_eq_true_eq] at h
      obtain ⟨rfl, h3, h4, h5, h6⟩ := h
      obtain rfl := List.length_eq_zero_iff.1 h4
      rw [fls_length] at h5
      obtain ⟨y, rfl⟩ := List.length_eq_one_iff.1 h5
      rw [fls_cons] at h6
      exact .field h3 ((h1 y (by simp)).2.2.2.2.1 h6)
    · have h : rB k s ws (fls ks) = true := h
      unfold rB at h
      split at h
      · rename_i hk
        obtain ⟨h3, rfl, h4⟩ := leaf_of h
        obtain rfl := fls_none h4
        subst hk; exact .rvar h3
      · split at h
        · rename_i hk
          simp only [Bool.and_eq_true, decide_eq_true_eq] at h
          obtain ⟨rfl, h3, h4, h5⟩ := h
          subst hk
          exact .row h3 (of_wrB h4) fun y hy => (h1 y hy).2.2.2.1 (of_flsall h5 y hy)
        · cases h
  · exact h2 x hx
/-- A node with such a flag is such a one. -/
theorem w_of {n : Nat} {x : Nd} (h : gF n (fl x) = true) : W n x := by
  have h1 := of_fl [x] x (by simp)
  unfold gF at h
  split at h
  · exact h1.1 h
  · exact h1.2.1 h
  · exact h1.2.2.1 h
  · exact h1.2.2.2.1 h
  · exact h1.2.2.2.2.1 h
  · exact h1.2.2.2.2.2 h
  · cases h

/-- A piece without its place. -/
abbrev Ky := Nat × ByteArray
def kyT (t : Tk) : Ky := (t.k, t.s)
def sg (c : Nat) : Ky := (c, chr c)
def jkt : List (List Ky) → List Ky
  | [] => []
  | x :: r => sg 44 :: (x ++ jkt r)
def jkc : List (List Ky) → List Ky
  | [] => []
  | x :: r => x ++ jkt r
def ky1 (k : Int) (s : ByteArray) (ws ks : List (List Ky)) : List Ky :=
  if k = 1 ∨ k = 2 then [(97, s)]
  else if k = 7 then sg 35 :: ks.headD []
  else if k = 11 then (97, s) :: sg 61 :: ks.headD []
  else if k = 4 then sg 40 :: (jkc ks ++ [sg 41])
  else if k = 8 then sg 43 :: sg 40 :: (jkc ks ++ [sg 41])
  else if k = 9 then sg 38 :: sg 40 :: (jkc ks ++ [sg 41])
  else if k = 5 then sg 91 :: (jkc ks ++ [sg 93])
  else if k = 3 then sg 123 :: (jkc ws ++ [sg 125])
  else if k = 6 then (97, s) :: sg 58 :: sg 123 :: (jkc ws ++ [sg 125])
  else if k = 10 then sg 91 :: ((jkc ks ++ (if ws = [] then [] else sg 124 :: jkc ws)) ++ [sg 93])
  else []
def kw (w : Wd) : List Ky := [(97, w.s)]
def kyn : List Nd → List (List Ky)
  | [] => []
  | .mk k _ s _ _ ws _ _ ks :: r => ky1 k s (ws.map kw) (kyn ks) :: kyn r
def ky (x : Nd) : List Ky := ky1 x.k x.s (x.ws.map kw) (kyn x.ks)
theorem kyn_map (l : List Nd) : kyn l = l.map ky := by
  induction l with
  | nil => simp [kyn]
  | cons x r ih => obtain ⟨k, p, s, A, c, ws, B, d, ks⟩ := x; rw [kyn, ih]; rfl
theorem ky_mk {k p s A c ws B d ks} : ky (.mk k p s A c ws B d ks) = ky1 k s (ws.map kw) (ks.map ky) := by rw [← kyn_map]; rfl
theorem ky_er : ∀ l, kyn (TM.er l) = kyn l := by
  refine ind (by simp [TM.er]) fun k p s A c ws B d ks r h1 h2 => ?_
  rw [TM.er, kyn, kyn, h1, h2]

def txk : Bool → List Ky → List UInt8
  | _, [] => []
  | b, t :: l => (if b && decide (t.1 = 97) then [32] else []) ++ (lst t.2 ++ txk (decide (t.1 = 97)) l)
theorem txk_txt : ∀ (l : List Tk) (b : Bool), txt b l = txk b (l.map kyT)
  | [], _ => rfl
  | t :: l, b => by rw [txt, List.map_cons, txk, txk_txt l]; rfl
def nn : List Ky → Prop
  | [] => True
  | u :: _ => u.1 ≠ 97
theorem txk_nn {l : List Ky} (h : nn l) (b : Bool) : txk b l = txk false l := by
  cases l with
  | nil => rfl
  | cons u l =>
    have h' : u.1 ≠ 97 := h
    rw [txk, txk, decide_eq_false h']
    simp
def Ts (a : List Ky) (s : List UInt8) : Prop := ∀ l, txk false (a ++ l) = s ++ txk false l
def Tx (a : List Ky) (s : List UInt8) : Prop := ∀ l, nn l → txk false (a ++ l) = s ++ txk false l
theorem Ts.tx {a s} (h : Ts a s) : Tx a s := fun l _ => h l
theorem Ts.app {a b s t} (h : Ts a s) (h2 : Ts b t) : Ts (a ++ b) (s ++ t) := fun l => by rw [List.append_assoc, h, h2, List.append_assoc]
theorem Ts.appx {a b s t} (h : Ts a s) (h2 : Tx b t) : Tx (a ++ b) (s ++ t) := fun l hl => by rw [List.append_assoc, h, h2 l hl, List.append_assoc]
theorem Tx.apps {a s u b t} (h : Tx a s) (h2 : Ts (u :: b) t) (hu : u.1 ≠ 97) : Ts (a ++ u :: b) (s ++ t) := fun l => by rw [List.append_assoc, h _ (by exact hu), h2, List.append_assoc]
theorem Tx.appx {a s u b t} (h : Tx a s) (h2 : Tx (u :: b) t) (hu : u.1 ≠ 97) : Tx (a ++ u :: b) (s ++ t) := fun l hl => by rw [List.append_assoc, h _ (by exact hu), h2 l hl, List.append_assoc]
theorem lst_chr (c : Nat) : lst (chr c) = [c.toUInt8] := rfl
theorem ts_sg {c : Nat} (h : c ≠ 97) : Ts [sg c] [c.toUInt8] := fun l => by
  show txk false (sg c :: l) = _
  rw [txk, decide_eq_false (by exact h)]
  rfl
theorem tx_name (s : ByteArray) : Tx [(97, s)] (lst s) := fun l hl => by
  show txk false ((97, s) :: l) = _
  rw [txk, txk_nn hl]
  rfl
theorem ts_nil : Ts [] [] := fun _ => rfl
theorem tx_jkt {α : Type} {g : α → List Ky} {t : α → List UInt8} : ∀ xs : List α, (∀ x ∈ xs, Tx (g x) (t x)) → Tx (jkt (xs.map g)) (jt (xs.map t))
  | [], _ => ts_nil.tx
  | x :: r, h => by
    have h1 := h x (by simp)
    have h2 := tx_jkt r fun y hy => h y (by simp [hy])
    have h3 : Tx (g x ++ jkt (r.map g)) (t x ++ jt (r.map t)) := by
      cases r with
      | nil => simpa [jkt, jt] using h1
      | cons y r => exact h1.appx h2 (by decide)
    exact (ts_sg (c := 44) (by decide)).appx h3
theorem tx_jkc {α : Type} {g : α → List Ky} {t : α → List UInt8} (xs : List α) (h : ∀ x ∈ xs, Tx (g x) (t x)) : Tx (jkc (xs.map g)) (jc (xs.map t)) := by
  cases xs with
  | nil => exact ts_nil.tx
  | cons x r =>
    have h1 := h x (by simp)
    have h2 := tx_jkt r fun y hy => h y (by simp [hy])
    cases r with
    | nil => simpa [jkc, jc, jkt, jt] using h1
    | cons y r => exact h1.appx h2 (by decide)
/-- A bracket. -/
theorem ts_br {a : List Ky} {s : List UInt8} {c d : Nat} (hc : c ≠ 97) (hd : d ≠ 97) (h : Tx a s) : Ts (sg c :: (a ++ [sg d])) (c.toUInt8 :: (s ++ [d.toUInt8])) :=
  (ts_sg hc).app (h.apps (ts_sg hd) hd)
theorem txs_mk {k p s A c ws B d ks} : tx (.mk k p s A c ws B d ks) = tx1 k (lst s) (ws.map fun x => lst x.s) (ks.map tx) := by rw [← txs_map]; rfl
theorem tx_ws (ws : List Wd) : Tx (jkc (ws.map kw)) (jc (ws.map fun x => lst x.s)) := tx_jkc ws fun x _ => tx_name x.s
/-- The text of what might have been read is that of its pieces. -/
theorem w_tx {n : Nat} {x : Nd} (h : W n x) : Tx (ky x) (tx x) := by
  induction h with
  | @point p s A c B d hs => rw [ky_mk, txs_mk]; simp only [ky1, tx1, or_true, if_true]; exact tx_name s
  | @set p A c ws B d hw =>
    rw [ky_mk, txs_mk]
    exact (ts_br (c := 123) (d := 125) (by decide) (by decide) (tx_ws ws)).tx
  | @tuple p A c B d ks hne h ih =>
    rw [ky_mk, txs_mk]
    exact (ts_br (c := 40) (d := 41) (by decide) (by decide) (tx_jkc ks ih)).tx
  | @grid p A c B d ks h ih =>
    rw [ky_mk, txs_mk]
    exact (ts_br (c := 91) (d := 93) (by decide) (by decide) (tx_jkc ks ih)).tx
  | @rule p s A c ws B d hs hw =>
    rw [ky_mk, txs_mk]
    have h1 := (ts_sg (c := 58) (by decide)).app (ts_br (c := 123) (d := 125) (by decide) (by decide) (tx_ws ws))
    exact ((tx_name s).apps h1 (by decide)).tx
  | @var p s A c B d hs => rw [ky_mk, txs_mk]; simp only [ky1, tx1, true_or, if_true]; exact tx_name s
  | @const p A c B d y h ih =>
    rw [ky_mk, txs_mk]
    exact (ts_sg (c := 35) (by decide)).appx ih
  | atom h ih => exact ih
  | @join p A c B d ks hne h ih =>
    rw [ky_mk, txs_mk]
    exact ((ts_sg (c := 43) (by decide)).app (ts_br (c := 40) (d := 41) (by decide) (by decide) (tx_jkc ks ih))).tx
  | @meet p A c B d ks hne h ih =>
    rw [ky_mk, txs_mk]
    exact ((ts_sg (c := 38) (by decide)).app (ts_br (c := 40) (d := 41) (by decide) (by decide) (tx_jkc ks ih))).tx
  | @field p s A c B d y hs h ih =>
    rw [ky_mk, txs_mk]
    exact (tx_name s).appx ((ts_sg (c := 61) (by decide)).appx ih) (by decide)
  | @rvar p s A c B d hs => rw [ky_mk, txs_mk]; simp only [ky1, tx1, true_or, if_true]; exact tx_name s
  | @row p A c ws B d ks h1 hw h ih =>
    rw [ky_mk, txs_mk]
    have h2 := tx_jkc ks ih
    cases ws with
    | nil =>
      have h3 := ts_br (c := 91) (d := 93) (by decide) (by decide) h2
      have e : ky1 10 e0 (List.map kw []) (ks.map ky) = sg 91 :: (jkc (ks.map ky) ++ [sg 93]) := by simp [ky1]
      rw [e]
      exact h3.tx
    | cons w ws =>
      have h3 : Tx (jkc (ks.map ky) ++ sg 124 :: jkc ((w :: ws).map kw)) (jc (ks.map tx) ++ 124 :: jc ((w :: ws).map fun x => lst x.s)) :=
        h2.appx ((ts_sg (c := 124) (by decide)).appx (tx_ws (w :: ws))) (by decide)
      have h4 := (ts_br (c := 91) (d := 93) (by decide) (by decide) h3).tx
      have e : tx1 10 (lst e0) ((w :: ws).map fun x => lst x.s) (ks.map tx) = 91 :: ((jc (ks.map tx) ++ 124 :: jc ((w :: ws).map fun x => lst x.s)) ++ [93]) := by simp [tx1]
      rw [e]
      exact h4
theorem txt_w {n : Nat} {x : Nd} (h : W n x) {m : List Tk} (hm : m.map kyT = ky x) : txt false m = tx x := by
  have h1 := w_tx h [] trivial
  rw [List.append_nil] at h1
  rw [txk_txt, hm, h1]
  simp [txk]
end TM
end Go.Proofs.Ytapnefhmonpgdaa
