/-
  What a call that reads one node of a line's trees hands back: it might have been read, and its text is that of just its tokens. Conditions: lines of at most 1000 bytes.
-/
import Derived.Test.YtapnefhmonpgdaaTermBB
import Derived.Test.YtapnefhmonpgdaaTermBD
import Derived.Test.YtapnefhmonpgdaaTreQ
set_option linter.unusedSimpArgs false
set_option linter.unusedVariables false
namespace Go.Proofs.Ytapnefhmonpgdaa
namespace TM
open LX TR
theorem fls_er : ∀ l, fls (TM.er l) = fls l := by
  refine ind (by simp [TM.er]) fun k p s A c ws B d ks r h1 h2 => ?_
  rw [TM.er, fls, fls, h1, h2]
theorem fl_er (x : Nd) : fl (er1 x) = fl x := by
  have h := fls_er [x]
  rw [er_one, fls_cons, fls_cons] at h
  exact (List.cons.inj h).1
theorem nodes_t : ∀ l, (nodes (TR.er l)).map Tr.t = (nodes l).map Tr.t := by
  refine TR.ind (by simp [TR.er]) fun t A c ks e r h1 h2 => ?_
  rw [TR.er, nodes, nodes, List.map_cons, List.map_cons, List.map_append, List.map_append, h1, h2]; rfl
theorem good_er {l : List Tr} (h : Good (TR.er l)) : Good l := fun y hy => by
  have h1 : y.t ∈ (nodes (TR.er l)).map Tr.t := by
    rw [nodes_t]; exact List.mem_map_of_mem hy
  obtain ⟨x, hx, he⟩ := List.mem_map.1 h1
  rw [← he]; exact h x hx

def rightK (u : Ky) : Bool := rightT ⟨u.1, u.2, 0⟩
theorem rightK_name {s : ByteArray} (h : NM.right s = true) : rightK (97, s) = true := h
theorem rightK_size {u : Ky} (h : rightK u = true) : u.2.size ≤ 16 := by
  unfold rightK at h
  by_cases hk : u.1 = 97
  · rw [rightT_word hk] at h
    unfold NM.right at h
    simp only [Bool.and_eq_true, decide_eq_true_eq] at h
    exact h.1.1.2
  · rw [rightT_sign (by exact hk)] at h
    simp only [Bool.and_eq_true, decide_eq_true_eq] at h
    have := h.2.1
    omega
section
variable {α : Type} {g : α → List Ky}
theorem mem_jkt {u : Ky} : ∀ xs : List α, u ∈ jkt (xs.map g) → u = sg 44 ∨ ∃ x ∈ xs, u ∈ g x
  | [], h => by simp [jkt] at h
  | x :: xs, h => by
    rw [List.map_cons, jkt] at h
    rcases List.mem_cons.1 h with h | h
    · exact .inl h
    · rcases List.mem_append.1 h with h | h
      · exact .inr ⟨x, by simp, h⟩
      · rcases mem_jkt xs h with h | ⟨y, hy, h⟩
        · exact .inl h
        · exact .inr ⟨y, by simp [hy], h⟩
theorem mem_jkc {u : Ky} (xs : List α) (h : u ∈ jkc (xs.map g)) : u = sg 44 ∨ ∃ x ∈ xs, u ∈ g x := by
  cases xs with
  | nil => simp [jkc] at h
  | cons x xs =>
    rw [List.map_cons, jkc] at h
    rcases List.mem_append.1 h with h | h
    · exact .inr ⟨x, by simp, h⟩
    · rcases mem_jkt xs h with h | ⟨y, hy, h⟩
      · exact .inl h
      · exact .inr ⟨y, by simp [hy], h⟩
theorem right_list (xs : List α) (h : ∀ x ∈ xs, ∀ u ∈ g x, rightK u = true) : ∀ u ∈ jkc (xs.map g), rightK u = true := fun u hu => by
  rcases mem_jkc xs hu with rfl | ⟨x, hx, hu⟩
  · rfl
  · exact h x hx u hu
end
theorem right_br {a : List Ky} {c d : Nat} (hc : rightK (sg c) = true) (hd : rightK (sg d) = true) (h : ∀ u ∈ a, rightK u = true) : ∀ u ∈ sg c :: (a ++ [sg d]), rightK u = true := fun u hu => by
  rcases List.mem_cons.1 hu with rfl | hu
  · exact hc
  · rcases List.mem_append.1 hu with hu | hu
    · exact h u hu
    · rw [List.mem_singleton.1 hu]; exact hd
theorem right_cons {a : List Ky} {c : Ky} (hc : rightK c = true) (h : ∀ u ∈ a, rightK u = true) : ∀ u ∈ c :: a, rightK u = true := fun u hu => by
  rcases List.mem_cons.1 hu with rfl | hu
  · exact hc
  · exact h u hu
theorem right_app {a b : List Ky} (h : ∀ u ∈ a, rightK u = true) (h2 : ∀ u ∈ b, rightK u = true) : ∀ u ∈ a ++ b, rightK u = true := fun u hu => (List.mem_append.1 hu).elim (h u) (h2 u)
theorem right_nil : ∀ u ∈ ([] : List Ky), rightK u = true := fun u hu => by cases hu
theorem right_ws {ws : List Wd} (h : ∀ w ∈ ws, NM.right w.s = true) : ∀ u ∈ jkc (ws.map kw), rightK u = true := right_list ws fun w hw u hu => by
  obtain rfl : u = (97, w.s) := by simpa [kw] using hu
  exact rightK_name (h w hw)
/-- The pieces of what might have been read are right. -/
theorem w_right {n : Nat} {x : Nd} (h : W n x) : ∀ u ∈ ky x, rightK u = true := by
  induction h with
  | @point p s A c B d hs => rw [ky_mk]; exact right_cons (rightK_name hs) right_nil
  | @set p A c ws B d hw => rw [ky_mk]; exact right_br (c := 123) (d := 125) rfl rfl (right_ws hw)
  | @tuple p A c B d ks hne h ih => rw [ky_mk]; exact right_br (c := 40) (d := 41) rfl rfl (right_list ks ih)
  | @grid p A c B d ks h ih => rw [ky_mk]; exact right_br (c := 91) (d := 93) rfl rfl (right_list ks ih)
  | @rule p s A c ws B d hs hw => rw [ky_mk]; exact right_cons (c := (97, s)) (rightK_name hs) (right_cons (c := sg 58) rfl (right_br (c := 123) (d := 125) rfl rfl (right_ws hw)))
  | @var p s A c B d hs => rw [ky_mk]; exact right_cons (rightK_name hs) right_nil
  | @const p A c B d y h ih => rw [ky_mk]; exact right_cons (c := sg 35) rfl ih
  | atom h ih => exact ih
  | @join p A c B d ks hne h ih => rw [ky_mk]; exact right_cons (c := sg 43) rfl (right_br (c := 40) (d := 41) rfl rfl (right_list ks ih))
  | @meet p A c B d ks hne h ih => rw [ky_mk]; exact right_cons (c := sg 38) rfl (right_br (c := 40) (d := 41) rfl rfl (right_list ks ih))
  | @field p s A c B d y hs h ih => rw [ky_mk]; exact right_cons (c := (97, s)) (rightK_name hs) (right_cons (c := sg 61) rfl ih)
  | @rvar p s A c B d hs => rw [ky_mk]; exact right_cons (rightK_name hs) right_nil
  | @row p A c ws B d ks h1 hw h ih =>
    rw [ky_mk]
    refine right_br (a := jkc (ks.map ky) ++ (if ws.map kw = [] then [] else sg 124 :: jkc (ws.map kw))) (c := 91) (d := 93) rfl rfl (right_app (right_list ks ih) ?_)
    split
    · exact right_nil
    · exact right_cons (c := sg 124) rfl (right_ws hw)
theorem txk_len : ∀ (l : List Ky) (b : Bool), (∀ u ∈ l, u.2.size ≤ 16) → (txk b l).length ≤ 17 * l.length
  | [], b, _ => by simp [txk]
  | t :: l, b, h => by
    have h1 := txk_len l (decide (t.1 = 97)) fun u hu => h u (by simp [hu])
    have h2 := h t (by simp)
    rw [txk, List.length_append, List.length_append, lst_length, List.length_cons]
    have h3 : (if (b && decide (t.1 = 97)) = true then [(32 : UInt8)] else []).length ≤ 1 := by split <;> simp
    omega
theorem w_len {n : Nat} {x : Nd} (h : W n x) : (tx x).length ≤ 17 * (ky x).length := by
  have h1 := w_tx h [] trivial
  rw [List.append_nil] at h1
  have h2 := txk_len (ky x) false fun u hu => rightK_size (w_right h u hu)
  rw [h1] at h2
  simpa [txk] using h2
theorem cnt_one (x : Nd) : cnt [x] = 1 + x.ws.length + cnt x.ks := by rw [cnt_cons]; simp [cnt]
theorem cnt_jkt : ∀ ks : List Nd, (∀ y ∈ ks, cnt [y] ≤ (ky y).length) → cnt ks ≤ (jkt (ks.map ky)).length
  | [], _ => by simp [cnt]
  | x :: r, h => by
    have h1 := h x (by simp)
    have h2 := cnt_jkt r fun y hy => h y (by simp [hy])
    have h3 := cnt_append [x] r
    rw [List.singleton_append] at h3
    rw [List.map_cons, jkt, List.length_cons, List.length_append, h3]; omega
theorem cnt_jkc (ks : List Nd) (h : ∀ y ∈ ks, cnt [y] ≤ (ky y).length) : cnt ks ≤ (jkc (ks.map ky)).length := by
  cases ks with
  | nil => simp [cnt]
  | cons x r =>
    have h1 := h x (by simp)
    have h2 := cnt_jkt r fun y hy => h y (by simp [hy])
    have h3 := cnt_append [x] r
    rw [List.singleton_append] at h3
    rw [List.map_cons, jkc, List.length_append, h3]; omega
theorem len_jkt : ∀ ws : List Wd, ws.length ≤ (jkt (ws.map kw)).length
  | [] => by simp
  | x :: r => by
    have h := len_jkt r
    rw [List.map_cons, jkt, List.length_cons, List.length_cons, List.length_append]; omega
theorem len_jkc (ws : List Wd) : ws.length ≤ (jkc (ws.map kw)).length := by
  cases ws with
  | nil => simp
  | cons x r =>
    have h := len_jkt r
    rw [List.map_cons, jkc, List.length_cons, List.length_append]
    simp only [kw, List.length_cons, List.length_nil]; omega
theorem w_cnt {n : Nat} {x : Nd} (h : W n x) : cnt [x] ≤ (ky x).length := by
  induction h with
  | @point p s A c B d hs => rw [ky_mk, cnt_one]; simp [ky1, Nd.ws, Nd.ks, cnt]
  | @set p A c ws B d hw =>
    have := len_jkc ws
    rw [ky_mk, cnt_one]
    show 1 + ws.length + cnt [] ≤ (sg 123 :: (jkc (ws.map kw) ++ [sg 125])).length
    simp only [cnt, List.length_cons, List.length_append, List.length_nil]; omega
  | @tuple p A c B d ks hne h ih =>
    have := cnt_jkc ks ih
    rw [ky_mk, cnt_one]
    show 1 + 0 + cnt ks ≤ (sg 40 :: (jkc (ks.map ky) ++ [sg 41])).length
    simp only [List.length_cons, List.length_append, List.length_nil]; omega
  | @grid p A c B d ks h ih =>
    have := cnt_jkc ks ih
    rw [ky_mk, cnt_one]
    show 1 + 0 + cnt ks ≤ (sg 91 :: (jkc (ks.map ky) ++ [sg 93])).length
    simp only [List.length_cons, List.length_append, List.length_nil]; omega
  | @rule p s A c ws B d hs hw =>
    have := len_jkc ws
    rw [ky_mk, cnt_one]
    show 1 + ws.length + cnt [] ≤ ((97, s) :: sg 58 :: sg 123 :: (jkc (ws.map kw) ++ [sg 125])).length
    simp only [cnt, List.length_cons, List.length_append, List.length_nil]; omega
  | @var p s A c B d hs => rw [ky_mk, cnt_one]; simp [ky1, Nd.ws, Nd.ks, cnt]
  | @const p A c B d y h ih =>
    rw [ky_mk, cnt_one]
    show 1 + 0 + cnt [y] ≤ (sg 35 :: ky y).length
    simp only [List.length_cons]; omega
  | atom h ih => exact ih
  | @join p A c B d ks hne h ih =>
    have := cnt_jkc ks ih
    rw [ky_mk, cnt_one]
    show 1 + 0 + cnt ks ≤ (sg 43 :: sg 40 :: (jkc (ks.map ky) ++ [sg 41])).length
    simp only [List.length_cons, List.length_append, List.length_nil]; omega
  | @meet p A c B d ks hne h ih =>
    have := cnt_jkc ks ih
    rw [ky_mk, cnt_one]
    show 1 + 0 + cnt ks ≤ (sg 38 :: sg 40 :: (jkc (ks.map ky) ++ [sg 41])).length
    simp only [List.length_cons, List.length_append, List.length_nil]; omega
  | @field p s A c B d y hs h ih =>
    rw [ky_mk, cnt_one]
    show 1 + 0 + cnt [y] ≤ ((97, s) :: sg 61 :: ky y).length
    simp only [List.length_cons]; omega
  | @rvar p s A c B d hs => rw [ky_mk, cnt_one]; simp [ky1, Nd.ws, Nd.ks, cnt]
  | @row p A c ws B d ks h1 hw h ih =>
    have := cnt_jkc ks ih
    rw [ky_mk, cnt_one]
    show 1 + ws.length + cnt ks ≤ (sg 91 :: ((jkc (ks.map ky) ++ (if ws.map kw = [] then [] else sg 124 :: jkc (ws.map kw))) ++ [sg 93])).length
    simp only [List.length_cons, List.length_append, List.length_nil]; omega

/-- What is true of a node that was read of these trees up to here. -/
def Fact (n : Nat) (us : List Tr) (z : Nd) (i2 : Int) : Prop :=
  ∃ m : Nat, i2 = (m : Int) ∧ 1 ≤ m ∧ m ≤ us.length ∧ gF n (fl z) = true ∧ text (flat (us.take m)) = text10 z ∧ (tx z).length ≤ 34000 ∧ (nodes (us.take m)).length ≤ 1000
def Res3 (n : Nat) (us : List Tr) (z : Nd) (i2 fx fy : Int) : Prop := fx = 2 ∨ (fx = 0 ∧ fy = 0 ∧ Fact n us z i2)
theorem few_us {line : ByteArray} {us : List Tr} (hu : TR.er us = trOf line) : (nodes us).length ≤ line.size := by
  have h := trOf_few line
  rw [← hu, TR.nodes_er] at h
  exact h
theorem read_fact {n : Nat} {rd : Rdr Nd} (hs : Snd rd (W n) ky) {line : ByteArray} {us : List Tr} (hu : TR.er us = trOf line) (hl : line.size ≤ 1000) {e : Int} {z : Nd} {i2 : Int} (hE : EI rd) (hr : rd (rest us 0) e = .ok (er1 z, rest us i2)) (ha : Adv us 0 i2) :
    Fact n us z i2 ∧ cnt [z] ≤ 2000 := by
  obtain ⟨m, rfl, hm, hd⟩ := ha.drop
  rw [rest_zero] at hr hm hd
  rw [hd] at hr
  have hg : Good us := good_er (by rw [hu]; exact good_tr line)
  obtain ⟨vs, h1, hw, hf⟩ := hs us e _ _ hg hr
  have hvs : vs = us.take m := by
    have h2 : us.take m ++ us.drop m = vs ++ us.drop m := by rw [List.take_append_drop]; exact h1
    exact (List.append_cancel_right h2).symm
  subst hvs
  have hn := few_us hu
  have hnt : (nodes (us.take m)).length ≤ 1000 := by
    have h3 := nodes_append (us.take m) (us.drop m)
    rw [List.take_append_drop] at h3
    have h4 := congrArg List.length h3
    rw [List.length_append] at h4
    omega
  have hfl := flat_length (us.take m)
  have hkl : (ky (er1 z)).length ≤ 2000 := by
    rw [← hf]
    unfold kyf
    rw [List.length_map]; omega
  have h5 := w_len hw
  have h6 := w_cnt hw
  have h7 := txt_w hw (m := flat (us.take m)) hf
  rw [tx_er] at h5 h7
  have h8 : cnt [er1 z] = cnt [z] := by
    have := cnt_er [z]
    rw [er_one] at this; exact this
  rw [h8] at h6
  refine ⟨⟨m, by simp, ?_, hm, ?_, ?_, by omega, hnt⟩, by omega⟩
  · rcases Nat.eq_zero_or_pos m with rfl | h
    · exfalso
      rw [List.take_zero, kyf_nil] at hf
      exact ky_ne hw hf.symm
    · exact h
  · have := fl_of hw
    rw [fl_er] at this; exact this
  · unfold text text10
    rw [h7]
end TM
open Go.RowKit LX TR TM
theorem nods_n0 (w : World) : Nods w w.heap.size [n0] := fun y hy => by
  obtain rfl : y = n0 := by simpa [TM.all, n0, nd] using hy
  exact ⟨⟨Sl.nil _ _ _, Nat.le_refl _⟩, Sl.nil _ _ _, Nat.le_refl _⟩
theorem deep_n0 (w : World) (ok : Nat → Prop) : DeepN w ok [n0] := fun y hy => by
  obtain rfl : y = n0 := by simpa [TM.all, n0, nd] using hy
  exact ⟨⟨SlC.nil _ _ _, Nat.le_refl _⟩, SlC.nil _ _ _, Nat.le_refl _⟩
theorem call_fact {F : FuncId} {n : Nat} {rd : Rdr Nd} (hs : Snd rd (W n) ky) (hE : EI rd) {line : ByteArray} {us : List Tr} (hu : TR.er us = trOf line) (hl : line.size ≤ 1000) {X : Option Addr} {d : Nat} {e : Int} {w : World}
    (h : Calls Try.prog F #[.slice X us.length d, .int .i64 0, .int .i64 e] w fun e' w' => ∃ v, e' = .returned v ∧ Handed w.heap.size rd us 0 e v w' ∧ Below w.heap.size w w') :
    Calls Try.prog F #[.slice X us.length d, .int .i64 0, .int .i64 e] w fun e' w' => ∃ z i2 fx fy, e' = .returned (.tuple #[.agg (nv z), .int .i64 i2, .agg #[.int .i64 fx, .int .i64 fy]]) ∧ DeepN w' (fun k => w.heap.size ≤ k) [z] ∧ cnt [z] ≤ 2000 ∧ Res3 n us z i2 fx fy ∧ Below w.heap.size w w' := by
  refine h.mono ?_
  rintro e' w' ⟨v, rfl, hh, hb⟩
  unfold Handed at hh
  cases hr : rd (rest us 0) e with
  | error p =>
    rw [hr] at hh
    exact ⟨n0, 0, 2, p, by rw [show v = _ from hh], deep_n0 _ _, by simp [cnt, n0, nd], .inl rfl, hb⟩
  | ok xr =>
    obtain ⟨x, r⟩ := xr
    rw [hr] at hh
    obtain ⟨z, i2, rfl, rfl, hd, ha, rfl⟩ := hh
    have h1 := read_fact hs hu hl hE hr ha
    exact ⟨z, i2, 0, 0, rfl, hd, h1.2, .inr ⟨rfl, rfl, h1.1⟩, hb⟩
theorem Trs.take {w : World} {B : Nat} {A : Option Addr} {l : List Tr} (h : Trs w B A l) (m : Nat) : Trs w B A (l.take m) := by
  refine ⟨fun hne => ?_, fun x hx => h.2 x ?_⟩
  · have e : tcs l = tcs (l.take m) ++ tcs (l.drop m) := by
      have h1 : tcs (l.take m ++ l.drop m) = tcs (l.take m) ++ tcs (l.drop m) := List.flatMap_append
      rw [List.take_append_drop] at h1; exact h1
    obtain ⟨b, o, h1, h2, h3⟩ := h.1 (by rw [e]; intro h0; exact hne (List.append_eq_nil_iff.1 h0).1)
    refine ⟨b, o, h1, h2, fun j u hu => h3 j u ?_⟩
    rw [e, List.getElem?_append_left (List.getElem?_eq_some_iff.1 hu).1]; exact hu
  · have e := nodes_append (l.take m) (l.drop m)
    rw [List.take_append_drop] at e
    rw [e]; exact List.mem_append_left _ hx
end Go.Proofs.Ytapnefhmonpgdaa
