/-
  The text of what might have been read is lexed as its pieces, and read again of their trees. Conditions: texts below 2^31 bytes.
-/
import Derived.Test.YtapnefhmonpgdaaTermBC
import Derived.Test.YtapnefhmonpgdaaTermBF
set_option linter.unusedSimpArgs false
set_option linter.unusedVariables false
namespace Go.Proofs.Ytapnefhmonpgdaa
namespace TM
open LX TR
def tksOf (l : List Ky) : List Tk := l.map fun u => ⟨u.1, u.2, 0⟩
theorem tksOf_ky (l : List Ky) : (tksOf l).map kyT = l := by
  unfold tksOf
  rw [List.map_map]
  exact List.map_id' l
theorem w_scan {k : Nat} {n : Nd} (h : W k n) : ∃ R, scan (text10 n) 0 [] = .ok R ∧ R.map kyT = ky n := by
  have h1 : text (tksOf (ky n)) = text10 n := by
    unfold text text10
    rw [txt_w h (tksOf_ky _)]
  obtain ⟨m, h2, h3, _⟩ := back (l := tksOf (ky n)) fun t ht => by
    obtain ⟨u, hu, rfl⟩ := List.mem_map.1 ht
    exact w_right h u hu
  rw [h1] at h2
  refine ⟨m, h2, ?_⟩
  have h4 : (tksOf (ky n)).map (fun t => (t.k, t.s)) = m.map fun t => (t.k, t.s) := of_decide_eq_true h3
  have h5 : m.map kyT = (tksOf (ky n)).map kyT := h4.symm
  rw [h5, tksOf_ky]
theorem w_read {k : Nat} {n : Nd} (h : W k n) {R : List Tk} {ts : List Tr} (hs : scan (text10 n) 0 [] = .ok R) (hp : parse R = .ok ts) : ∀ d e, (nodes ts).length ≤ d → ∃ y, rdN k d ts e = .ok (y, []) ∧ sm y n = true := by
  obtain ⟨R', h1, h2⟩ := w_scan h
  have e1 : R' = R := by rw [h1] at hs; injection hs
  subst e1
  obtain ⟨us, h3, h4⟩ := w_cmp h R' h2
  have e2 : us = ts := by
    by_cases hd : dep us ≤ 24
    · have h5 := spells_parse h3 hd
      rw [h5] at hp; injection hp
    · obtain ⟨p, h5⟩ := spells_deep h3 r0 [] [] (by simp only [List.length_nil]; omega) (by simp)
      rw [List.append_nil] at h5
      have h6 : parse R' = .error p := h5
      rw [h6] at hp; cases hp
  subst e2
  intro d e hd
  have h7 := h4 d e [] hd
  rw [List.append_nil] at h7
  exact h7
theorem sms_er : ∀ a b : List Nd, sms (TM.er a) b = sms a b := by
  refine ind (fun b => by simp [TM.er]) fun k p s A c ws B d ks r h1 h2 b => ?_
  cases b with
  | nil => rw [TM.er, sms, sms]
  | cons y b => rw [TM.er, sms, sms, h1, h2]
theorem sm_er (x y : Nd) : sm (er1 x) y = sm x y := by
  have h := sms_er [x] [y]
  rw [er_one, sms_eqL, sms_eqL] at h
  simpa [eqL] using h
theorem eqL_length {α : Type} {g : α → α → Bool} {a b : List α} (h : eqL g a b = true) : a.length = b.length := by
  by_cases e : a.length = b.length
  · exact e
  · rw [eqL_len e] at h; cases h
theorem sms_cnt : ∀ a b : List Nd, sms a b = true → cnt a = cnt b := by
  refine ind (fun b hb => ?_) fun k p s A c ws B d ks r h1 h2 b hb => ?_
  · cases b with
    | nil => rfl
    | cons y b => rw [sms] at hb; cases hb
  · cases b with
    | nil => rw [sms] at hb; cases hb
    | cons y b =>
      rw [sms] at hb
      simp only [Bool.and_eq_true, decide_eq_true_eq] at hb
      obtain ⟨⟨_, _, h5, h6⟩, h7⟩ := hb
      rw [cnt, cnt_cons, eqL_length h5, h1 _ h6, h2 _ h7]
theorem sm_cnt {x y : Nd} (h : sm x y = true) : cnt [x] = cnt [y] := sms_cnt [x] [y] (by rw [sms_eqL, eqL, eqL, h]; rfl)
end TM
open Go.RowKit LX TR TM
/-- A call that reads what might have been read again. -/
theorem call_back {F : FuncId} {rd : Rdr Nd} (hE : EI rd) {n : Nd} {us ts : List Tr} (hu : TR.er us = ts) {X : Option Addr} {d : Nat} {e : Int} {w : World} (hr : ∃ y, rd ts e = .ok (y, []) ∧ sm y n = true)
    (h : Calls Try.prog F #[.slice X us.length d, .int .i64 0, .int .i64 e] w fun e' w' => ∃ v, e' = .returned v ∧ Handed w.heap.size rd us 0 e v w' ∧ Below w.heap.size w w') :
    Calls Try.prog F #[.slice X us.length d, .int .i64 0, .int .i64 e] w fun e' w' => ∃ z, e' = .returned (.tuple #[.agg (nv z), .int .i64 (us.length : Nat), .agg #[.int .i64 0, .int .i64 0]]) ∧ DeepN w' (fun k => w.heap.size ≤ k) [z] ∧ cnt [z] = cnt [n] ∧ sm z n = true ∧ Below w.heap.size w w' := by
  obtain ⟨y, hy, hq⟩ := hr
  refine h.mono ?_
  rintro e' w' ⟨v, rfl, hh, hb⟩
  obtain ⟨z, m, rfl, hz, hd, hm, hrs⟩ := handed_ok hh hE hu hy
  have hml : m = ts.length := len_er hu hrs hm rfl
  have hlen : us.length = ts.length := by rw [← hu, TR.er_length]
  have hsz : sm z n = true := by rw [← sm_er, hz]; exact hq
  exact ⟨z, by rw [hml, hlen], hd, sm_cnt hsz, hsz, hb⟩
end Go.Proofs.Ytapnefhmonpgdaa
