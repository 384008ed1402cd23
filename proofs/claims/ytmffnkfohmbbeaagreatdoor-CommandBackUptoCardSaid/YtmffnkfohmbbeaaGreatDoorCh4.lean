/- Texts that all the claims need. Conditions: those that each states. -/

import Derived.Test.YtmffnkfohmbbeaaGreatDoorCh1
import Derived.Test.YtmffnkfohmbbeaaGreatDoorCh2
import Derived.Test.YtmffnkfohmbbeaaGreatDoorCh3
set_option linter.unusedSimpArgs false
set_option linter.unusedVariables false
set_option maxRecDepth 100000
set_option maxHeartbeats 40000000
namespace Go.Proofs.YtmffnkfohmbbeaaGreatDoor
section
namespace LX
structure Tk where
 k : Nat
 s : ByteArray
 p : Int
deriving DecidableEq
def t0 : Tk := ⟨0, ⟨#[]⟩, 0⟩
def lst (s : ByteArray) : List UInt8 := s.data.toList
def bt (s : ByteArray) (i : Nat) : Nat := ((lst s).getD i 0).toNat
def goes (c : UInt8) : Bool := NM.innr c.toNat
def blankB (c : Nat) : Bool := decide (c = 32) || decide (c = 9)
def signs : List Nat := [35, 43, 38, 40, 41, 123, 125, 91, 93, 44, 58, 61, 124, 60]
def signB (c : Nat) : Bool := signs.contains c
def runE (s : ByteArray) (i : Nat) : Nat := i + (((lst s).drop i).takeWhile goes).length
def sub (s : ByteArray) (i e : Nat) : ByteArray := s.extract i e
inductive St where
 | skip
 | stop
 | bad
 | tok (k e : Nat)
deriving DecidableEq
def dash (s : ByteArray) (i : Nat) : Bool := decide (bt s i = 45) && (decide (i + 1 < s.size) && decide (bt s (i + 1) = 45))
def st (s : ByteArray) (i : Nat) : St :=
 if blankB (bt s i) = true then .skip
 else if dash s i = true then .stop
 else if NM.innr (bt s i) = true then (if NM.right (sub s i (runE s i)) = true then .tok 97 (runE s i) else .bad)
 else if signB (bt s i) = true then .tok (bt s i) (i + 1) else .bad
def scanF (s : ByteArray) : Nat → Nat → List Tk → Except Nat (List Tk)
 | 0, _, acc => .ok acc
 | n + 1, i, acc =>
   if i < s.size then
     match st s i with
     | .skip => scanF s n (i + 1) acc
     | .stop => .ok acc
     | .bad => .error i
     | .tok k e => scanF s n e (acc ++ [⟨k, sub s i e, (i : Int)⟩])
   else .ok acc
def scan (s : ByteArray) (i : Nat) (acc : List Tk) : Except Nat (List Tk) := scanF s (s.size - i) i acc
theorem lst_length (s : ByteArray) : (lst s).length = s.size := by unfold lst; rw [Array.length_toList]; rfl
theorem takeWhile_le (p : UInt8 → Bool) : ∀ l : List UInt8, (l.takeWhile p).length ≤ l.length
 | [] => zL _
 | a :: l => by
   rw [List.takeWhile_cons]
   split
   ·have := takeWhile_le p l
    simp only [zA8]; omega
   ·simp
theorem drop_at {s : ByteArray} {i : Nat} (h : i < s.size) : ∃ c : UInt8, (lst s).drop i = c :: (lst s).drop (i + 1) ∧ c.toNat = bt s i := by
 have h1 : i < (lst s).length := by rw [lst_length]; exact h
 refine ⟨(lst s)[i], List.drop_eq_getElem_cons h1, ?_⟩
 unfold bt
 rw [List.getD_eq_getElem?_getD, List.getElem?_eq_getElem h1]; rfl
theorem runE_step {s : ByteArray} {i : Nat} (h : i < s.size) (hc : NM.innr (bt s i) = true) : runE s i = runE s (i + 1) := by
 obtain ⟨c, e, hb⟩ := drop_at h
 unfold runE
 rw [e, List.takeWhile_cons]
 have : goes c = true := by unfold goes; rw [hb]; exact hc
 rw [if_pos this, zA8]; omega
theorem runE_stop {s : ByteArray} {i : Nat} (h : i < s.size) (hc : NM.innr (bt s i) = false) : runE s i = i := by
 obtain ⟨c, e, hb⟩ := drop_at h
 unfold runE
 rw [e, List.takeWhile_cons]
 have : ¬ goes c = true := by unfold goes; rw [hb, hc]; simp
 rw [if_neg this]; simp
theorem runE_end {s : ByteArray} {i : Nat} (h : ¬ i < s.size) : runE s i = i := by
 unfold runE
 rw [List.drop_eq_nil_of_le (by rw [lst_length]; omega)]; simp
theorem runE_ge (s : ByteArray) (i : Nat) : i ≤ runE s i := by unfold runE; omega
theorem runE_le {s : ByteArray} {i : Nat} (h : i ≤ s.size) : runE s i ≤ s.size := by
 unfold runE
 have := takeWhile_le goes ((lst s).drop i)
 rw [List.length_drop, lst_length] at this
 omega
theorem runE_gt {s : ByteArray} {i : Nat} (h : i < s.size) (hc : NM.innr (bt s i) = true) : i < runE s i := by
 rw [runE_step h hc]; have := runE_ge s (i + 1); omega
theorem st_tok {s : ByteArray} {i k e : Nat} (h : i < s.size) (hs : st s i = .tok k e) : i < e ∧ e ≤ s.size := by
 unfold st at hs
 split at hs
 ·cases hs
 ·split at hs
  ·cases hs
  ·split at hs
   ·rename_i hc
    split at hs
    ·injection hs with _ he
     subst he
     exact ⟨runE_gt h hc, runE_le (by omega)⟩
    ·cases hs
   ·split at hs
    ·injection hs with _ he
     omega
    ·cases hs
theorem scanF_more (s : ByteArray) : ∀ (n : Nat) (m i : Nat) (acc : List Tk), s.size - i ≤ n → s.size - i ≤ m → scanF s n i acc = scanF s m i acc
 | 0, m, i, acc, hn, _ => by
   have h : ¬ i < s.size := by omega
   cases m with
   | zero => rfl
   | succ m =>
     show Except.ok acc = scanF s (m + 1) i acc
     rw [scanF, if_neg h]
 | n + 1, 0, i, acc, _, hm => by
   have h : ¬ i < s.size := by omega
   show scanF s (n + 1) i acc = Except.ok acc
   rw [scanF, if_neg h]
 | n + 1, m + 1, i, acc, hn, hm => by
   rw [scanF, scanF]
   by_cases h : i < s.size
   ·rw [if_pos h, if_pos h]
    cases hs : st s i with
    | skip => exact scanF_more s n m (i + 1) acc (by omega) (by omega)
    | stop => rfl
    | bad => rfl
    | tok k e =>
      have := st_tok h hs
      exact scanF_more s n m e _ (by omega) (by omega)
   ·rw [if_neg h, if_neg h]
theorem scan_end {s : ByteArray} {i : Nat} (acc : List Tk) (h : ¬ i < s.size) : scan s i acc = .ok acc := by
 unfold scan
 rw [show s.size - i = 0 by omega]; rfl
theorem scan_at {s : ByteArray} {i : Nat} (acc : List Tk) (h : i < s.size) : scan s i acc = match st s i with
 | .skip => scan s (i + 1) acc
 | .stop => .ok acc
 | .bad => .error i
 | .tok k e => scan s e (acc ++ [⟨k, sub s i e, (i : Int)⟩]) := by
 unfold scan
 obtain ⟨n, hn⟩ : ∃ n, s.size - i = n + 1 := ⟨s.size - i - 1, by omega⟩
 rw [hn, scanF, if_pos h]
 cases hs : st s i with
 | skip => exact scanF_more s _ _ _ _ (by omega) (by omega)
 | stop => rfl
 | bad => rfl
 | tok k e =>
   have := st_tok h hs
   exact scanF_more s _ _ _ _ (by omega) (by omega)
theorem scan_skip {s : ByteArray} {i : Nat} (acc : List Tk) (h : i < s.size) (hs : st s i = .skip) : scan s i acc = scan s (i + 1) acc := by rw [scan_at acc h, hs]
theorem scan_stop {s : ByteArray} {i : Nat} (acc : List Tk) (h : i < s.size) (hs : st s i = .stop) : scan s i acc = .ok acc := by rw [scan_at acc h, hs]
theorem scan_bad {s : ByteArray} {i : Nat} (acc : List Tk) (h : i < s.size) (hs : st s i = .bad) : scan s i acc = .error i := by rw [scan_at acc h, hs]
theorem scan_tok {s : ByteArray} {i k e : Nat} (acc : List Tk) (h : i < s.size) (hs : st s i = .tok k e) : scan s i acc = scan s e (acc ++ [⟨k, sub s i e, (i : Int)⟩]) := by rw [scan_at acc h, hs]
theorem innr_not {c : Nat} (h : NM.innr c = true) : blankB c = false ∧ c ≠ 45 ∧ signB c = false := by
 have hc : c ≤ 122 := by
  unfold NM.innr NM.lett at h
  simp only [Bool.or_eq_true, Bool.and_eq_true, decide_eq_true_eq] at h
  omega
 have : ∀ c : Fin 123, NM.innr c.val = true → blankB c.val = false ∧ c.val ≠ 45 ∧ signB c.val = false := by decide
 exact this ⟨c, by omega⟩ h
theorem sign_not {c : Nat} (h : signB c = true) : blankB c = false ∧ c ≠ 45 ∧ NM.innr c = false ∧ c ≠ 97 := by
 have hc : c ∈ signs := by unfold signB at h; exact List.contains_iff_mem.1 h
 have : ∀ c ∈ signs, blankB c = false ∧ c ≠ 45 ∧ NM.innr c = false ∧ c ≠ 97 := by decide
 exact this c hc
theorem blank_not {c : Nat} (h : blankB c = true) : c ≠ 45 ∧ NM.innr c = false ∧ signB c = false := by
 unfold blankB at h
 simp only [Bool.or_eq_true, decide_eq_true_eq] at h
 rcases h with rfl | rfl <;> decide
theorem st_skip {s : ByteArray} {i : Nat} (h : blankB (bt s i) = true) : st s i = .skip := by unfold st; rw [if_pos h]
theorem st_stop {s : ByteArray} {i : Nat} (h : dash s i = true) : st s i = .stop := by
 have : bt s i = 45 := by
  unfold dash at h
  simp only [Bool.and_eq_true, decide_eq_true_eq] at h
  exact h.1
 unfold st
 rw [if_neg (by rw [this]; decide), if_pos h]
theorem st_word {s : ByteArray} {i : Nat} (h : NM.innr (bt s i) = true) (hr : NM.right (sub s i (runE s i)) = true) : st s i = .tok 97 (runE s i) := by
 obtain ⟨h1, h2, _⟩ := innr_not h
 unfold st
 rw [if_neg (by rw [h1]; simp), if_neg (by unfold dash; rw [zF h2]; simp), if_pos h, if_pos hr]
theorem st_wrong {s : ByteArray} {i : Nat} (h : NM.innr (bt s i) = true) (hr : NM.right (sub s i (runE s i)) = false) : st s i = .bad := by
 obtain ⟨h1, h2, _⟩ := innr_not h
 unfold st
 rw [if_neg (by rw [h1]; simp), if_neg (by unfold dash; rw [zF h2]; simp), if_pos h, if_neg (by rw [hr]; simp)]
theorem st_sign {s : ByteArray} {i : Nat} (h : signB (bt s i) = true) : st s i = .tok (bt s i) (i + 1) := by
 obtain ⟨h1, h2, h3, _⟩ := sign_not h
 unfold st
 rw [if_neg (by rw [h1]; simp), if_neg (by unfold dash; rw [zF h2]; simp), if_neg (by rw [h3]; simp), if_pos h]
theorem st_else {s : ByteArray} {i : Nat} (h1 : blankB (bt s i) = false) (h2 : dash s i = false) (h3 : NM.innr (bt s i) = false) (h4 : signB (bt s i) = false) : st s i = .bad := by
 unfold st
 rw [if_neg (by rw [h1]; simp), if_neg (by rw [h2]; simp), if_neg (by rw [h3]; simp), if_neg (by rw [h4]; simp)]
theorem lst_sub (s : ByteArray) (i e : Nat) : lst (sub s i e) = ((lst s).drop i).take (e - i) := by
 unfold lst sub
 rw [ByteArray.data_extract, Array.toList_extract, List.extract_eq_take_drop]
theorem sub_size {s : ByteArray} {i e : Nat} (h1 : i ≤ e) (h2 : e ≤ s.size) : (sub s i e).size = e - i := by
 rw [← lst_length, lst_sub, List.length_take, List.length_drop, lst_length]; omega
theorem bt_sub {s : ByteArray} {i e j : Nat} (hj : j < e - i) : bt (sub s i e) j = bt s (i + j) := by
 unfold bt
 rw [lst_sub, List.getD_eq_getElem?_getD, List.getElem?_take, if_pos hj, List.getElem?_drop, ← List.getD_eq_getElem?_getD]
theorem lst_inj {a b : ByteArray} (h : lst a = lst b) : a = b := by
 cases a; cases b
 simp only [lst] at h
 simp only [ByteArray.mk.injEq]
 exact Array.toList_inj.1 h
def rightT (t : Tk) : Bool := if t.k = 97 then NM.right t.s else signB t.k && (decide (t.s.size = 1) && decide (bt t.s 0 = t.k))
theorem rightT_word {t : Tk} (h : t.k = 97) : rightT t = NM.right t.s := by unfold rightT; rw [if_pos h]
theorem rightT_sign {t : Tk} (h : ¬ t.k = 97) : rightT t = (signB t.k && (decide (t.s.size = 1) && decide (bt t.s 0 = t.k))) := by unfold rightT; rw [if_neg h]
theorem right_tok {s : ByteArray} {i k e : Nat} (h : i < s.size) (hs : st s i = .tok k e) : rightT ⟨k, sub s i e, (i : Int)⟩ = true := by
 unfold st at hs
 split at hs
 ·cases hs
 ·split at hs
  ·cases hs
  ·split at hs
   ·split at hs
    ·rename_i hr
     injection hs with h1 h2
     subst h1 h2
     rw [rightT_word rfl]; exact hr
    ·cases hs
   ·split at hs
    ·rename_i hg
     injection hs with h1 h2
     subst h1 h2
     obtain ⟨_, _, _, h97⟩ := sign_not hg
     rw [rightT_sign h97, hg, sub_size (by omega) (by omega), bt_sub (by omega), Nat.add_zero]
     simp
    ·cases hs
inductive Placed (s : ByteArray) : Nat → List Tk → Prop where
 | nil (a : Nat) : Placed s a []
 | cons (a p : Nat) (t : Tk) (l : List Tk) (hp : t.p = (p : Int)) (ha : a ≤ p) (hl : p + t.s.size ≤ s.size) (hs : t.s = sub s p (p + t.s.size)) (hr : rightT t = true)
  (hb : ∀ j, a ≤ j → j < p → blankB (bt s j) = true) (h : Placed s (p + t.s.size) l) : Placed s a (t :: l)
theorem Placed.down {s : ByteArray} {i : Nat} {l : List Tk} (h : Placed s (i + 1) l) (hb : blankB (bt s i) = true) : Placed s i l := by
 cases h with
 | nil => exact .nil _
 | cons _ p t l hp ha hl hs hr hbs h =>
   refine .cons i p t l hp (by omega) hl hs hr (fun j h1 h2 => ?_) h
   by_cases e : j = i
   ·rw [e]; exact hb
   ·exact hbs j (by omega) h2
theorem scan_induct {s : ByteArray} {C : Nat → Prop} (h : ∀ i, (∀ j, i < j → C j) → C i) (hend : ∀ i, ¬ i < s.size → C i) (i : Nat) : C i := by
 have : ∀ n i, s.size - i ≤ n → C i := by
  intro n
  induction n with
  | zero => intro i hi; exact hend i (by omega)
  | succ n ih =>
    intro i hi
    by_cases hlt : i < s.size
    ·exact h i fun j hj => ih j (by omega)
    ·exact hend i hlt
 exact this _ i (zL _)
theorem scan_placed {s : ByteArray} (i : Nat) : ∀ (acc R : List Tk), scan s i acc = .ok R → ∃ l, R = acc ++ l ∧ Placed s i l := by
 refine scan_induct (s := s) (C := fun i => ∀ (acc R : List Tk), scan s i acc = .ok R → ∃ l, R = acc ++ l ∧ Placed s i l) ?_ ?_ i
 ·intro i ih acc R h
  by_cases hlt : i < s.size
  ·cases hs : st s i with
   | skip =>
     rw [scan_skip acc hlt hs] at h
     obtain ⟨l, h1, h2⟩ := ih (i + 1) (by omega) acc R h
     refine ⟨l, h1, h2.down ?_⟩
     unfold st at hs
     split at hs
     ·assumption
     ·split at hs
      ·cases hs
      ·split at hs
       ·split at hs <;> cases hs
       ·split at hs <;> cases hs
   | stop =>
     rw [scan_stop acc hlt hs] at h
     injection h with h
     exact ⟨[], by rw [← h]; simp, .nil _⟩
   | bad => rw [scan_bad acc hlt hs] at h; cases h
   | tok k e =>
     rw [scan_tok acc hlt hs] at h
     have he := st_tok hlt hs
     obtain ⟨l, h1, h2⟩ := ih e (by omega) _ R h
     have hz : i + (sub s i e).size = e := by rw [sub_size (by omega) he.2]; omega
     refine ⟨⟨k, sub s i e, (i : Int)⟩ :: l, by rw [h1]; simp, ?_⟩
     refine .cons i i _ l rfl (zL _) ?_ ?_ (right_tok hlt hs) (fun j h1 h2 => by omega) ?_
     ·show i + (sub s i e).size ≤ s.size
      omega
     ·show sub s i e = sub s i (i + (sub s i e).size)
      rw [hz]
     ·show Placed s (i + (sub s i e).size) l
      rw [hz]; exact h2
  ·rw [scan_end acc hlt] at h
   injection h with h
   exact ⟨[], by rw [← h]; simp, .nil _⟩
 ·intro i hlt acc R h
  rw [scan_end acc hlt] at h
  injection h with h
  exact ⟨[], by rw [← h]; simp, .nil _⟩
def txt : Bool → List Tk → List UInt8
 | _, [] => []
 | b, t :: l => (if b && decide (t.k = 97) then [32] else []) ++ (lst t.s ++ txt (decide (t.k = 97)) l)
theorem innr_lett {c : Nat} (h : NM.lett c = true) : NM.innr c = true := by unfold NM.innr; rw [h]; rfl
theorem right_bytes {x : ByteArray} (h : NM.right x = true) : 0 < x.size ∧ ∀ c ∈ lst x, goes c = true := by
 unfold NM.right NM.tailOk at h
 simp only [Bool.and_eq_true, decide_eq_true_eq] at h
 obtain ⟨⟨⟨h1, h2⟩, h3⟩, h4⟩ := h
 refine ⟨h1, fun c hc => ?_⟩
 obtain ⟨j, hj, rfl⟩ := List.mem_iff_getElem.1 hc
 have hjs : j < x.size := by rw [lst_length] at hj; exact hj
 have hg : (x.data.toList.getD j 0) = (lst x)[j] := by
  unfold lst at hj ⊢
  rw [List.getD_eq_getElem?_getD, List.getElem?_eq_getElem hj]; rfl
 unfold goes
 by_cases h0 : 1 ≤ j
 ·have := h4 j hjs h0
  rw [hg] at this; exact this
 ·have e : j = 0 := by omega
  subst e
  rw [hg] at h3
  exact innr_lett h3
theorem takeWhile_txt {l : List Tk} (h : ∀ t ∈ l, rightT t = true) : (txt true l).takeWhile goes = [] := by
 cases l with
 | nil => rfl
 | cons t l =>
   have ht := h t (by simp)
   rw [txt]
   by_cases hk : t.k = 97
   ·rw [zE hk]
    simp only [Bool.and_self, if_true, List.cons_append, List.nil_append]
    rw [List.takeWhile_cons, if_neg (by decide)]
   ·rw [zF hk, Bool.and_false, if_neg (by simp), List.nil_append]
    rw [rightT_sign hk] at ht
    simp only [Bool.and_eq_true, decide_eq_true_eq] at ht
    obtain ⟨hg, h1, hb⟩ := ht
    obtain ⟨c, e, hc⟩ := drop_at (s := t.s) (i := 0) (by omega)
    rw [List.drop_zero] at e
    rw [e, List.cons_append, List.takeWhile_cons, if_neg]
    unfold goes
    rw [hc, hb, (sign_not hg).2.2.1]
    simp
theorem takeWhile_all (p : UInt8 → Bool) : ∀ (a b : List UInt8), (∀ c ∈ a, p c = true) → (a ++ b).takeWhile p = a ++ b.takeWhile p
 | [], _, _ => rfl
 | x :: a, b, h => by
   rw [List.cons_append, List.takeWhile_cons, if_pos (h x (by simp)), takeWhile_all p a b fun c hc => h c (by simp [hc])]; rfl
theorem scan_text {s : ByteArray} : ∀ (l : List Tk) (b : Bool) (i : Nat) (acc : List Tk), (∀ t ∈ l, rightT t = true) → i ≤ s.size → (lst s).drop i = txt b l →
 ∃ m, scan s i acc = .ok (acc ++ m) ∧ m.map (fun t => (t.k, t.s)) = l.map fun t => (t.k, t.s)
 | [], b, i, acc, _, hi, hd => by
   have : s.size ≤ i := by
    have := congrArg List.length hd
    rw [List.length_drop, lst_length] at this
    simp [txt] at this
    omega
   exact ⟨[], by rw [scan_end acc (by omega)]; simp, rfl⟩
 | t :: l, b, i, acc, hr, hi, hd => by
   have ht := hr t (by simp)
   have hrl : ∀ u ∈ l, rightT u = true := fun u hu => hr u (by simp [hu])
   have main : ∀ (i : Nat), i ≤ s.size → (lst s).drop i = lst t.s ++ txt (decide (t.k = 97)) l → ∃ m, scan s i acc = .ok (acc ++ m) ∧ m.map (fun t => (t.k, t.s)) = (t :: l).map fun t => (t.k, t.s) := by
     intro i hi hd
     have hlen : s.size - i = t.s.size + (txt (decide (t.k = 97)) l).length := by
        have := congrArg List.length hd
        rw [List.length_drop, lst_length, zA7, lst_length] at this
        exact this
     have hnext : (lst s).drop (i + t.s.size) = txt (decide (t.k = 97)) l := by
        rw [← List.drop_drop, hd, List.drop_append_of_le_length (by rw [lst_length]; omega), List.drop_eq_nil_of_le (by rw [lst_length]; omega), List.nil_append]
     have hsub : sub s i (i + t.s.size) = t.s := by
        apply lst_inj
        rw [lst_sub, hd, show i + t.s.size - i = t.s.size by omega, List.take_append_of_le_length (by rw [lst_length]; omega), List.take_of_length_le (by rw [lst_length]; omega)]
     have fin : ∀ k, st s i = .tok k (i + t.s.size) → k = t.k → i < s.size → ∃ m, scan s i acc = .ok (acc ++ m) ∧ m.map (fun t => (t.k, t.s)) = (t :: l).map fun t => (t.k, t.s) := by
        intro k hst hk hlt
        obtain ⟨m, h1, h2⟩ := scan_text (s := s) l (decide (t.k = 97)) (i + t.s.size) (acc ++ [⟨k, sub s i (i + t.s.size), (i : Int)⟩]) hrl (by omega) hnext
        refine ⟨⟨k, sub s i (i + t.s.size), (i : Int)⟩ :: m, ?_, ?_⟩
        ·rw [scan_tok acc hlt hst, h1]; simp
        ·rw [List.map_cons, List.map_cons, h2, hsub, hk]
     by_cases hk : t.k = 97
     ·have ht2 := ht
      rw [rightT_word hk] at ht2
      obtain ⟨h0, hall⟩ := right_bytes ht2
      have hrun : runE s i = i + t.s.size := by
       unfold runE
       rw [hd, takeWhile_all _ _ _ hall, zE hk, takeWhile_txt hrl, List.append_nil, lst_length]
      have hlt : i < s.size := by omega
      have hin : NM.innr (bt s i) = true := by
       obtain ⟨c, e, hc⟩ := drop_at hlt
       rw [← hc]
       have hm : c ∈ lst t.s := by
           have : (lst t.s ++ txt (decide (t.k = 97)) l)[0]? = some c := by rw [← hd, e]; rfl
           rw [List.getElem?_append_left (by rw [lst_length]; exact h0)] at this
           exact List.mem_of_getElem? this
       exact hall c hm
      exact fin 97 (by rw [st_word hin (by rw [hrun, hsub]; exact ht2), hrun]) hk.symm hlt
     ·have ht2 := ht
      rw [rightT_sign hk] at ht2
      simp only [Bool.and_eq_true, decide_eq_true_eq] at ht2
      obtain ⟨hg, h1, hb⟩ := ht2
      have hlt : i < s.size := by omega
      have hbt : bt s i = t.k := by
       rw [← hb, ← hsub, bt_sub (by omega), Nat.add_zero]
      exact fin t.k (by rw [st_sign (by rw [hbt]; exact hg), hbt, h1]) rfl hlt
   rw [txt] at hd
   by_cases hb : (b && decide (t.k = 97)) = true
   ·rw [if_pos hb] at hd
    have hlt : i < s.size := by
        have := congrArg List.length hd
        rw [List.length_drop, lst_length] at this
        simp at this
        omega
    obtain ⟨c, e, hc⟩ := drop_at hlt
    rw [e, List.cons_append, List.nil_append, List.cons.injEq] at hd
    obtain ⟨rfl, hd⟩ := hd
    obtain ⟨m, h1, h2⟩ := main (i + 1) (by omega) hd
    exact ⟨m, by rw [scan_skip acc hlt (st_skip (by rw [← hc]; decide))]; exact h1, h2⟩
   ·rw [if_neg hb, List.nil_append] at hd
    exact main i hi hd
end LX
end
section
open Go.RowKit LX
theorem running_any (c : Nat) (w : World) :
 Calls Tryz.prog 85 #[.int .u8 c] w fun e w' => e = .returned (.bool (NM.innr c)) ∧ w = w' := by
 go_enter Tryz.func85, Tryz.ntmps85
 go_wp2
 all_goals
  go_ret
  exact ⟨ret_eq (bool_eq (by unfold NM.innr NM.lett; rw [Bool.eq_iff_iff]; simp <;> omega)), rfl⟩
theorem refGoes_any (c : Nat) (w : World) :
 Calls Tryz.prog 80 #[.int .u8 c] w fun e w' => e = .returned (.bool (NM.innr c)) ∧ w = w' := by
 go_enter Tryz.func80, Tryz.ntmps80
 go_wp2
 all_goals
  go_ret
  exact ⟨ret_eq (bool_eq (by unfold NM.innr NM.lett; rw [Bool.eq_iff_iff]; simp <;> omega)), rfl⟩
theorem blank_any (c : Nat) (w : World) :
 Calls Tryz.prog 86 #[.int .u8 c] w fun e w' => e = .returned (.bool (blankB c)) ∧ w = w' := by
 go_enter Tryz.func86, Tryz.ntmps86
 go_wp2
 all_goals
  go_ret
  exact ⟨ret_eq (bool_eq (by unfold blankB; rw [Bool.eq_iff_iff]; simp <;> omega)), rfl⟩
theorem signB_index (c : Nat) (hc : c < 256) : decide (Lib.indexByte [35, 43, 38, 40, 41, 123, 125, 91, 93, 44, 58, 61, 124, 60] ((c : Int).toNat.toUInt8) ≥ 0) = signB c := by
 have : ∀ c : Fin 256, decide (Lib.indexByte [35, 43, 38, 40, 41, 123, 125, 91, 93, 44, 58, 61, 124, 60] ((c.val : Int).toNat.toUInt8) ≥ 0) = signB c.val := by decide
 exact this ⟨c, hc⟩
theorem sign_any (c : Nat) (hc : c < 256) (w : World) :
 Calls Tryz.prog 110 #[.int .u8 c] w fun e w' => e = .returned (.bool (signB c)) ∧ w = w' := by
 have HS := zh (signB_index c hc); clear hc
 go_enter Tryz.func110, Tryz.ntmps110
 go_wp2_with fail
 refine (Tryz.strings_IndexByte _ _ _).mono ?_
 rintro e w' ⟨rfl, rfl⟩
 go_wp2
 go_ret
 refine ⟨ret_eq (bool_eq ?_), rfl⟩
 rw [← HS.out]
 rw [Bool.eq_iff_iff]
 simp
def signCells : Array Value := #[.int .u8 35, .int .u8 43, .int .u8 38, .int .u8 40, .int .u8 41, .int .u8 123, .int .u8 125, .int .u8 91, .int .u8 93, .int .u8 44, .int .u8 58, .int .u8 61, .int .u8 124, .int .u8 60]
theorem signCells_at (j : Nat) (hj : j < 14) : signCells[j]? = some (.int .u8 ((signs.getD j 0 : Nat) : Int)) := by
 match j, hj with
 | 0, _ => rfl
 | 1, _ => rfl
 | 2, _ => rfl
 | 3, _ => rfl
 | 4, _ => rfl
 | 5, _ => rfl
 | 6, _ => rfl
 | 7, _ => rfl
 | 8, _ => rfl
 | 9, _ => rfl
 | 10, _ => rfl
 | 11, _ => rfl
 | 12, _ => rfl
 | 13, _ => rfl
 | n + 14, h => exact absurd h (by omega)
theorem sign_hit {c j : Nat} (hj : j < 14) (h : signs.getD j 0 = c) : signB c = true := by
 unfold signB
 rw [List.contains_iff_mem]
 have hl : j < signs.length := hj
 rw [List.getD_eq_getElem?_getD, List.getElem?_eq_getElem hl] at h
 rw [← h]; exact List.getElem_mem hl
theorem sign_miss {c : Nat} (h : ∀ j, j < 14 → signs.getD j 0 ≠ c) : signB c = false := by
 unfold signB
 rw [Bool.eq_false_iff]
 intro hm
 rw [List.contains_iff_mem] at hm
 obtain ⟨j, hj, e⟩ := List.mem_iff_getElem.1 hm
 refine h j hj ?_
 rw [List.getD_eq_getElem?_getD, List.getElem?_eq_getElem hj, Option.getD_some]; exact e
theorem refSign_any (c : Nat) (w : World) :
 Calls Tryz.prog 48 #[.int .u8 c] w fun e w' => e = .returned (.bool (signB c)) ∧ Below w.heap.size w w' := by
 have HCELL : Hid (∀ j, j < 14 → (w.alloc (.cells signCells 5)).cell? ⟨w.heap.size, j, none⟩ = some (.int .u8 ((signs.getD j 0 : Nat) : Int))) :=
  fun j hj => (cell_of_row _ w.heap.size j signCells 5 (0, 0) (heap_alloc_new w _)).trans (signCells_at j hj)
 have HB : Hid (Below w.heap.size w (w.alloc (.cells signCells 5))) := (zB _ _).alloc (zL _) _
 have HR : Hid (signB c = signB c) := rfl
 have HIT := zh (fun j => @sign_hit c j)
 have MISS := zh (@sign_miss c)
 generalize signB c = r at *
 generalize hG : signs = G at *
 clear hG
 go_enter Tryz.func48, Tryz.ntmps48
 go_wp2_with fail
 rw [show w.alloc (Obj.cells #[.int .u8 35, .int .u8 43, .int .u8 38, .int .u8 40, .int .u8 41, .int .u8 123, .int .u8 125, .int .u8 91, .int .u8 93, .int .u8 44, .int .u8 58, .int .u8 61, .int .u8 124, .int .u8 60] 5) = w.alloc (.cells signCells 5) from rfl]
 generalize w.alloc (.cells signCells 5) = wa at *
 go_loop [4] (fun iv => ∃ j : Nat, j ≤ 14 ∧ iv = .int .i64 j ∧ Hid (∀ i, i < j → G.getD i 0 ≠ c)) (fun iv => 14 - (intOf iv).toNat)
 case atStart => exact ⟨0, by omega, rfl, fun i hi => by omega⟩
 case round =>
  obtain ⟨j, hj, rfl, HN⟩ := hrel
  by_cases hlt : j < 14
  ·have hcj := HCELL.out j hlt
   by_cases he : G.getD j 0 = c
   ·have HR1 := zh (HIT.out j hlt he)
    rw [he] at hcj
    clear he
    go_wp2
    go_ret
    exact ⟨ret_eq (bool_eq HR1.out.symm), HB.out⟩
   ·have HN1 := zh he; clear he
    generalize hx : G.getD j 0 = x at *
    have HX := zh hx; clear hx
    have hne : ((x : Int) == (c : Int)) = false := by
     rw [beq_eq_false_iff_ne]
     intro h
     exact HN1.out (by omega)
    go_wp2
    go_round
    case rel =>
     refine ⟨j + 1, by omega, by go_num, ?_⟩
     show ∀ i, i < j + 1 → G.getD i 0 ≠ c
     intro i hi
     by_cases e : i = j
     ·rw [e, HX.out]; exact HN1.out
     ·exact HN.out i (by omega)
    case measure => simp [intOf]; omega
  ·obtain rfl : j = 14 := by omega
   have HR1 := zh (MISS.out HN.out)
   go_wp2
   go_ret
   exact ⟨ret_eq (bool_eq HR1.out.symm), HB.out⟩
theorem runEnd_any (s : ByteArray) (g : Nat) (w : World) (hs : w.cell? ⟨g, 0, none⟩ = some (.string s)) (i : Nat) (hi : i ≤ s.size) (hl : s.size ≤ 4294967296) :
 Calls Tryz.prog 84 #[.int .i64 i, .pointer (some ⟨g, 0, none⟩)] w fun e w' => e = .returned (.int .i64 (runE s i)) ∧ w = w' := by
 go_enter Tryz.func84, Tryz.ntmps84
 go_wp2
 go_loop [0] (fun iv => ∃ j : Nat, j ≤ s.size ∧ iv = .int .i64 j ∧ Hid (runE s j = runE s i)) (fun iv => s.size - (intOf iv).toNat)
 case atStart => exact ⟨i, hi, rfl, rfl⟩
 case round =>
  obtain ⟨j, hj, rfl, HR⟩ := hrel
  by_cases hlt : j < s.size
  ·have hb : bt s j = s[j].toNat := by unfold bt lst; rw [NM.byte_at hlt]
   cases hc : NM.innr s[j].toNat
   ·have HE : Hid (runE s j = j) := runE_stop hlt (by rw [hb]; exact hc)
    have HC := zh hc; clear hc hb
    go_wp2_with (go_at_call 85; refine (running_any _ _).mono ?_; rintro e w' ⟨rfl, rfl⟩; rw [HC.out])
    go_ret
    exact ⟨ret_eq (int_eq (by rw [← HR.out, HE.out])), rfl⟩
   ·have HE : Hid (runE s j = runE s (j + 1)) := runE_step hlt (by rw [hb]; exact hc)
    have HC := zh hc; clear hc hb
    go_wp2_with (go_at_call 85; refine (running_any _ _).mono ?_; rintro e w' ⟨rfl, rfl⟩; rw [HC.out])
    go_round
    case rel =>
     refine ⟨j + 1, by omega, by go_num, ?_⟩
     show _ = _
     rw [← HE.out]; exact HR.out
    case measure => simp [intOf]; omega
  ·have HE : Hid (runE s j = j) := runE_end hlt
   go_wp2
   go_ret
   exact ⟨ret_eq (int_eq (by rw [← HR.out, HE.out])), rfl⟩
theorem refRun_any (s : ByteArray) (w : World) (i : Nat) (hi : i ≤ s.size) (hl : s.size ≤ 4294967296) :
 Calls Tryz.prog 47 #[.string s, .int .i64 i] w fun e w' => e = .returned (.int .i64 ((runE s i : Int) - i)) ∧ w = w' := by
 have HG := zh (runE_ge s i)
 go_enter Tryz.func47, Tryz.ntmps47
 go_wp2
 go_loop [5] (fun iv => ∃ j : Nat, i + j ≤ s.size ∧ iv = .int .i64 j ∧ Hid (runE s (i + j) = runE s i)) (fun iv => s.size - (intOf iv).toNat)
 case atStart => exact ⟨0, by omega, rfl, rfl⟩
 case round =>
  obtain ⟨j, hj, rfl, HR⟩ := hrel
  have htn : ((i : Int) + (j : Int)).toNat = i + j := by omega
  by_cases hlt : i + j < s.size
  ·have hb : bt s (i + j) = s[i + j].toNat := by unfold bt lst; rw [NM.byte_at hlt]
   cases hc : NM.innr s[i + j].toNat
   ·have HE : Hid (runE s (i + j) = i + j) := runE_stop hlt (by rw [hb]; exact hc)
    have HC := zh hc; clear hc hb
    go_wp2_with (go_at_call 80; refine (refGoes_any _ _).mono ?_; rintro e w' ⟨rfl, rfl⟩; rw [HC.out])
    go_ret
    exact ⟨ret_eq (int_eq (by rw [← HR.out, HE.out]; omega)), rfl⟩
   ·have HE : Hid (runE s (i + j) = runE s (i + (j + 1))) := runE_step hlt (by rw [hb]; exact hc)
    have HC := zh hc; clear hc hb
    go_wp2_with (go_at_call 80; refine (refGoes_any _ _).mono ?_; rintro e w' ⟨rfl, rfl⟩; rw [HC.out])
    go_round
    case rel =>
     refine ⟨j + 1, by omega, by go_num, ?_⟩
     show _ = _
     rw [← HE.out]; exact HR.out
    case measure => simp [intOf]; omega
  ·have HE : Hid (runE s (i + j) = i + j) := runE_end hlt
   go_wp2
   go_ret
   exact ⟨ret_eq (int_eq (by rw [← HR.out, HE.out]; omega)), rfl⟩
end
section
open Go.RowKit LX
def tcells (t : Tk) : List Value := [.int .u8 (t.k : Int), .string t.s, .int .i64 t.p]
def tv (t : Tk) : Array Value := #[.int .u8 (t.k : Int), .string t.s, .int .i64 t.p]
theorem tcells_length (t : Tk) : (tcells t).length = 3 := rfl
def tkcells (l : List Tk) : List Value := l.flatMap tcells
theorem tkcells_append (a b : List Tk) : tkcells (a ++ b) = tkcells a ++ tkcells b := by simp [tkcells]
theorem tkcells_one (t : Tk) : tkcells [t] = tcells t := by simp [tkcells]
theorem tkcells_length : ∀ l : List Tk, (tkcells l).length = l.length * 3
 | [] => rfl
 | t :: l => by
   have := tkcells_length l
   unfold tkcells at this ⊢
   rw [List.flatMap_cons, zA7, this, tcells_length, zA8]; omega
theorem tkcells_at : ∀ (l : List Tk) (i j : Nat), i < l.length → j < 3 → (tkcells l)[i * 3 + j]? = (tcells (l.getD i t0))[j]?
 | [], i, j, hi, _ => by simp at hi
 | t :: l, 0, j, _, hj => by
   unfold tkcells
   rw [List.flatMap_cons, List.getElem?_append_left (by rw [tcells_length]; omega)]
   simp
 | t :: l, i + 1, j, hi, hj => by
   have := tkcells_at l i j (by simpa using hi) hj
   unfold tkcells at this ⊢
   rw [List.flatMap_cons, List.getElem?_append_right (by rw [tcells_length]; omega), tcells_length, show (i + 1) * 3 + j - 3 = i * 3 + j by omega, this]
   simp
def Toks (w : World) (A : Option Addr) (l : List Tk) : Prop := Sl w w.heap.size A (tkcells l)
section
variable {w w' : World} {A : Option Addr} {l : List Tk}
theorem Toks.below (h : Toks w A l) (hb : Below w.heap.size w w') : Toks w' A l := (Sl.below h hb).mono hb.size
theorem Toks.dr (h : Toks w A l) (hb : Dr w w') : Toks w' A l := h.below hb.below
theorem Toks.alloc (h : Toks w A l) (o : Obj) : Toks (w.alloc o) A l := h.below ((zB _ _).alloc (zL _) _)
theorem Toks.nil (w : World) (A : Option Addr) : Toks w A [] := Sl.nil _ _ _
theorem Toks.at (h : Toks w A l) {k : Nat} (hk : k < l.length) : ∃ b o, A = some ⟨b, o, none⟩ ∧ b < w.heap.size ∧ ∀ i, i < l.length →
 w.cell? ⟨b, o + i * 3, none⟩ = some (.int .u8 ((l.getD i t0).k : Int)) ∧ w.cell? ⟨b, o + i * 3 + 1, none⟩ = some (.string (l.getD i t0).s) ∧ w.cell? ⟨b, o + i * 3 + 2, none⟩ = some (.int .i64 (l.getD i t0).p) := by
 obtain ⟨b, o, hA, hb, hc⟩ := Sl.at_ h (fun e => by
  have := congrArg List.length e
  rw [tkcells_length] at this
  simp only [zA9] at this
  omega)
 refine ⟨b, o, hA, hb, fun i hi => ⟨?_, ?_, ?_⟩⟩
 ·exact hc (i * 3) _ (by have := tkcells_at l i 0 hi (by omega); rw [Nat.add_zero] at this; rw [this]; rfl)
 ·rw [Nat.add_assoc]; exact hc (i * 3 + 1) _ (by rw [tkcells_at l i 1 hi (by omega)]; rfl)
 ·rw [Nat.add_assoc]; exact hc (i * 3 + 2) _ (by rw [tkcells_at l i 2 hi (by omega)]; rfl)
end
theorem byte_lt (s : ByteArray) (i : Nat) : bt s i < 256 := by unfold bt; exact UInt8.toNat_lt _
theorem bt_at {s : ByteArray} {i : Nat} (h : i < s.size) : bt s i = s[i].toNat := by unfold bt lst; rw [NM.byte_at h]
theorem lexRight_word (s : ByteArray) (p : Int) (w : World) :
 Calls Tryz.prog 88 #[.agg #[.int .u8 ((97 : Nat) : Int), .string s, .int .i64 p]] w fun e w' => e = .returned (.bool (NM.right s)) ∧ Below w.heap.size w w' := by
 generalize hR : NM.right s = r at *
 have HR := zh hR; clear hR
 go_enter Tryz.func88, Tryz.ntmps88
 go_wp2_with fail
 refine (right_any _ _).mono ?_
 rintro e w' ⟨rfl, hb⟩
 have HB := zh hb; clear hb
 go_wp2
 go_ret
 exact ⟨ret_eq (bool_eq HR.out), ((zB _ _).alloc (zL _) _).trans (HB.out.mono (by simp))⟩
theorem lexRight_sign (k : Nat) (s : ByteArray) (p : Int) (w : World) (hk : k < 256) (h97 : ¬ k = 97) :
 Calls Tryz.prog 88 #[.agg #[.int .u8 (k : Int), .string s, .int .i64 p]] w fun e w' => e = .returned (.bool (signB k && (decide (s.size = 1) && decide (bt s 0 = k)))) ∧ Below w.heap.size w w' := by
 have hne : ((k : Int) == 97) = false := by rw [beq_eq_false_iff_ne]; omega
 cases hs : signB k
 ·have HS := zh hs; clear hs
  go_enter Tryz.func88, Tryz.ntmps88
  go_wp2_with fail
  go_quiet ((go_at_call 110; exact quiet_same ((sign_any k hk _).mono fun e w' h => by rw [HS.out] at h; exact h)))
  go_wp2
  go_ret
  exact ⟨rfl, bdrewN ((zB _ _).alloc (zL _) _) _⟩
 ·have HS := zh hs; clear hs
  by_cases h1 : s.size = 1
  ·have h0 : 0 < s.size := by omega
   have hb := bt_at (s := s) (i := 0) h0
   rw [hb, zE h1]
   have h1' : ((s.size : Int) == 1) = true := by rw [beq_iff_eq]; omega
   clear h1 hb
   go_enter Tryz.func88, Tryz.ntmps88
   go_wp2_with fail
   go_quiet ((go_at_call 110; exact quiet_same ((sign_any k hk _).mono fun e w' h => by rw [HS.out] at h; exact h)))
   go_wp2
   go_ret
   exact ⟨ret_eq (bool_eq (by rw [Bool.eq_iff_iff]; simp <;> omega)), bdrewN ((zB _ _).alloc (zL _) _) _⟩
  ·rw [zF h1]
   have h1' : ((s.size : Int) == 1) = false := by rw [beq_eq_false_iff_ne]; omega
   clear h1
   go_enter Tryz.func88, Tryz.ntmps88
   go_wp2_with fail
   go_quiet ((go_at_call 110; exact quiet_same ((sign_any k hk _).mono fun e w' h => by rw [HS.out] at h; exact h)))
   go_wp2
   go_ret
   exact ⟨rfl, bdrewN ((zB _ _).alloc (zL _) _) _⟩
theorem lexRight_any (t : Tk) (w : World) (hk : t.k < 256) :
 Calls Tryz.prog 88 #[.agg (tv t)] w fun e w' => e = .returned (.bool (rightT t)) ∧ Below w.heap.size w w' := by
 obtain ⟨k, s, p⟩ := t
 by_cases h97 : k = 97
 ·subst h97
  exact lexRight_word s p w
 ·rw [rightT_sign (t := ⟨k, s, p⟩) h97]
  exact lexRight_sign k s p w hk h97
end
section
open Go.RowKit LX
end
section
open Go.RowKit LX
end
end Go.Proofs.YtmffnkfohmbbeaaGreatDoor
