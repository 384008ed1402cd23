/- Texts that all the claims need. Conditions: those that each states. -/

import Derived.Test.YtmobcncgfbfmcaaGreatDoorCa1
import Derived.Test.YtmobcncgfbfmcaaGreatDoorCa2
import Derived.Test.YtmobcncgfbfmcaaGreatDoorCa3
set_option linter.unusedSimpArgs false
set_option linter.unusedVariables false
set_option maxRecDepth 100000
set_option maxHeartbeats 40000000
namespace Go.Proofs.YtmobcncgfbfmcaaGreatDoor
section
namespace LX
structure Tk where
 k : Nat
 s : ByteArray
 p : Int
deriving DecidableEq
def t0 : Tk := ⟨0, ⟨#[]⟩, 0⟩
def lst (s : ByteArray) : List UInt8 := s.data.toList
def bt (s : ByteArray) (i : Nat) : Nat := ((lst s).getD i 0).toNat
def goes (c : UInt8) : Bool := NM.innr c.toNat
def Q0V (c : Nat) : Bool := decide (c = 32) || decide (c = 9)
def signs : List Nat := [35, 43, 38, 40, 41, 123, 125, 91, 93, 44, 58, 61, 124, 60]
def Q0J (c : Nat) : Bool := signs.contains c
def runE (s : ByteArray) (i : Nat) : Nat := i + (((lst s).drop i).takeWhile goes).length
def sub (s : ByteArray) (i e : Nat) : ByteArray := s.extract i e
inductive St where
 | skip
 | stop
 | bad
 | tok (k e : Nat)
deriving DecidableEq
def dash (s : ByteArray) (i : Nat) : Bool := decide (bt s i = 45) && (decide (i + 1 < s.size) && decide (bt s (i + 1) = 45))
def st (s : ByteArray) (i : Nat) : St :=
 if Q0V (bt s i) = true then .skip
 else if dash s i = true then .stop
 else if NM.innr (bt s i) = true then (if NM.right (sub s i (runE s i)) = true then .tok 97 (runE s i) else .bad)
 else if Q0J (bt s i) = true then .tok (bt s i) (i + 1) else .bad
def Q1r (s : ByteArray) : Nat → Nat → List Tk → Except Nat (List Tk)
 | 0, _, acc => .ok acc
 | n + 1, i, acc =>
   if i < s.size then
     match st s i with
     | .skip => Q1r s n (i + 1) acc
     | .stop => .ok acc
     | .bad => .error i
     | .tok k e => Q1r s n e (acc ++ [⟨k, sub s i e, (i : Int)⟩])
   else .ok acc
def scan (s : ByteArray) (i : Nat) (acc : List Tk) : Except Nat (List Tk) := Q1r s (s.size - i) i acc
theorem Q0r (s : ByteArray) : (lst s).length = s.size := by unfold lst; rw [Array.length_toList]; rfl
theorem Q5K (p : UInt8 → Bool) : ∀ l : List UInt8, (l.takeWhile p).length ≤ l.length
 | [] => zL _
 | a :: l => by
   rw [List.takeWhile_cons]
   split
   ·have := Q5K p l
    simp only [zA8]; omega
   ·simp
theorem drop_at {s : ByteArray} {i : Nat} (h : i < s.size) : ∃ c : UInt8, (lst s).drop i = c :: (lst s).drop (i + 1) ∧ c.toNat = bt s i := by
 have h1 : i < (lst s).length := by rw [Q0r]; exact h
 refine ⟨(lst s)[i], List.drop_eq_getElem_cons h1, ?_⟩
 unfold bt
 rw [List.getD_eq_getElem?_getD, List.getElem?_eq_getElem h1]; rfl
theorem Q4A {s : ByteArray} {i : Nat} (h : i < s.size) (hc : NM.innr (bt s i) = true) : runE s i = runE s (i + 1) := by
 obtain ⟨c, e, hb⟩ := drop_at h
 unfold runE
 rw [e, List.takeWhile_cons]
 have : goes c = true := by unfold goes; rw [hb]; exact hc
 rw [if_pos this, zA8]; omega
theorem Q2x {s : ByteArray} {i : Nat} (h : i < s.size) (hc : NM.innr (bt s i) = false) : runE s i = i := by
 obtain ⟨c, e, hb⟩ := drop_at h
 unfold runE
 rw [e, List.takeWhile_cons]
 have : ¬ goes c = true := by unfold goes; rw [hb, hc]; simp
 rw [if_neg this]; simp
theorem Q5L {s : ByteArray} {i : Nat} (h : ¬ i < s.size) : runE s i = i := by
 unfold runE
 rw [List.drop_eq_nil_of_le (by rw [Q0r]; omega)]; simp
theorem Q3z (s : ByteArray) (i : Nat) : i ≤ runE s i := by unfold runE; omega
theorem Q36 {s : ByteArray} {i : Nat} (h : i ≤ s.size) : runE s i ≤ s.size := by
 unfold runE
 have := Q5K goes ((lst s).drop i)
 rw [List.length_drop, Q0r] at this
 omega
theorem Q2y {s : ByteArray} {i : Nat} (h : i < s.size) (hc : NM.innr (bt s i) = true) : i < runE s i := by
 rw [Q4A h hc]; have := Q3z s (i + 1); omega
theorem Q37 {s : ByteArray} {i k e : Nat} (h : i < s.size) (hs : st s i = .tok k e) : i < e ∧ e ≤ s.size := by
 unfold st at hs
 split at hs
 ·cases hs
 ·split at hs
  ·cases hs
  ·split at hs
   ·rename_i hc
    split at hs
    ·injection hs with _ he
     subst he
     exact ⟨Q2y h hc, Q36 (by omega)⟩
    ·cases hs
   ·split at hs
    ·injection hs with _ he
     omega
    ·cases hs
theorem Q3A (s : ByteArray) : ∀ (n : Nat) (m i : Nat) (acc : List Tk), s.size - i ≤ n → s.size - i ≤ m → Q1r s n i acc = Q1r s m i acc
 | 0, m, i, acc, hn, _ => by
   have h : ¬ i < s.size := by omega
   cases m with
   | zero => rfl
   | succ m =>
     show Except.ok acc = Q1r s (m + 1) i acc
     rw [Q1r, if_neg h]
 | n + 1, 0, i, acc, _, hm => by
   have h : ¬ i < s.size := by omega
   show Q1r s (n + 1) i acc = Except.ok acc
   rw [Q1r, if_neg h]
 | n + 1, m + 1, i, acc, hn, hm => by
   rw [Q1r, Q1r]
   by_cases h : i < s.size
   ·rw [if_pos h, if_pos h]
    cases hs : st s i with
    | skip => exact Q3A s n m (i + 1) acc (by omega) (by omega)
    | stop => rfl
    | bad => rfl
    | tok k e =>
      have := Q37 h hs
      exact Q3A s n m e _ (by omega) (by omega)
   ·rw [if_neg h, if_neg h]
theorem Q23 {s : ByteArray} {i : Nat} (acc : List Tk) (h : ¬ i < s.size) : scan s i acc = .ok acc := by
 unfold scan
 rw [show s.size - i = 0 by omega]; rfl
theorem Q3B {s : ByteArray} {i : Nat} (acc : List Tk) (h : i < s.size) : scan s i acc = match st s i with
 | .skip => scan s (i + 1) acc
 | .stop => .ok acc
 | .bad => .error i
 | .tok k e => scan s e (acc ++ [⟨k, sub s i e, (i : Int)⟩]) := by
 unfold scan
 obtain ⟨n, hn⟩ : ∃ n, s.size - i = n + 1 := ⟨s.size - i - 1, by omega⟩
 rw [hn, Q1r, if_pos h]
 cases hs : st s i with
 | skip => exact Q3A s _ _ _ _ (by omega) (by omega)
 | stop => rfl
 | bad => rfl
 | tok k e =>
   have := Q37 h hs
   exact Q3A s _ _ _ _ (by omega) (by omega)
theorem Q38 {s : ByteArray} {i : Nat} (acc : List Tk) (h : i < s.size) (hs : st s i = .skip) : scan s i acc = scan s (i + 1) acc := by rw [Q3B acc h, hs]
theorem Q39 {s : ByteArray} {i : Nat} (acc : List Tk) (h : i < s.size) (hs : st s i = .stop) : scan s i acc = .ok acc := by rw [Q3B acc h, hs]
theorem Q2i {s : ByteArray} {i : Nat} (acc : List Tk) (h : i < s.size) (hs : st s i = .bad) : scan s i acc = .error i := by rw [Q3B acc h, hs]
theorem Q2j {s : ByteArray} {i k e : Nat} (acc : List Tk) (h : i < s.size) (hs : st s i = .tok k e) : scan s i acc = scan s e (acc ++ [⟨k, sub s i e, (i : Int)⟩]) := by rw [Q3B acc h, hs]
theorem Q2z {c : Nat} (h : NM.innr c = true) : Q0V c = false ∧ c ≠ 45 ∧ Q0J c = false := by
 have hc : c ≤ 122 := by
  unfold NM.innr NM.lett at h
  simp only [Bool.or_eq_true, Bool.and_eq_true, decide_eq_true_eq] at h
  omega
 have : ∀ c : Fin 123, NM.innr c.val = true → Q0V c.val = false ∧ c.val ≠ 45 ∧ Q0J c.val = false := by decide
 exact this ⟨c, by omega⟩ h
theorem Q4B {c : Nat} (h : Q0J c = true) : Q0V c = false ∧ c ≠ 45 ∧ NM.innr c = false ∧ c ≠ 97 := by
 have hc : c ∈ signs := by unfold Q0J at h; exact List.contains_iff_mem.1 h
 have : ∀ c ∈ signs, Q0V c = false ∧ c ≠ 45 ∧ NM.innr c = false ∧ c ≠ 97 := by decide
 exact this c hc
theorem Q4C {c : Nat} (h : Q0V c = true) : c ≠ 45 ∧ NM.innr c = false ∧ Q0J c = false := by
 unfold Q0V at h
 simp only [Bool.or_eq_true, decide_eq_true_eq] at h
 rcases h with rfl | rfl <;> decide
theorem Q5M {s : ByteArray} {i : Nat} (h : Q0V (bt s i) = true) : st s i = .skip := by unfold st; rw [if_pos h]
theorem Q5N {s : ByteArray} {i : Nat} (h : dash s i = true) : st s i = .stop := by
 have : bt s i = 45 := by
  unfold dash at h
  simp only [Bool.and_eq_true, decide_eq_true_eq] at h
  exact h.1
 unfold st
 rw [if_neg (by rw [this]; decide), if_pos h]
theorem Q5O {s : ByteArray} {i : Nat} (h : NM.innr (bt s i) = true) (hr : NM.right (sub s i (runE s i)) = true) : st s i = .tok 97 (runE s i) := by
 obtain ⟨h1, h2, _⟩ := Q2z h
 unfold st
 rw [if_neg (by rw [h1]; simp), if_neg (by unfold dash; rw [zF h2]; simp), if_pos h, if_pos hr]
theorem Q5P {s : ByteArray} {i : Nat} (h : NM.innr (bt s i) = true) (hr : NM.right (sub s i (runE s i)) = false) : st s i = .bad := by
 obtain ⟨h1, h2, _⟩ := Q2z h
 unfold st
 rw [if_neg (by rw [h1]; simp), if_neg (by unfold dash; rw [zF h2]; simp), if_pos h, if_neg (by rw [hr]; simp)]
theorem Q4D {s : ByteArray} {i : Nat} (h : Q0J (bt s i) = true) : st s i = .tok (bt s i) (i + 1) := by
 obtain ⟨h1, h2, h3, _⟩ := Q4B h
 unfold st
 rw [if_neg (by rw [h1]; simp), if_neg (by unfold dash; rw [zF h2]; simp), if_neg (by rw [h3]; simp), if_pos h]
theorem Q5Q {s : ByteArray} {i : Nat} (h1 : Q0V (bt s i) = false) (h2 : dash s i = false) (h3 : NM.innr (bt s i) = false) (h4 : Q0J (bt s i) = false) : st s i = .bad := by
 unfold st
 rw [if_neg (by rw [h1]; simp), if_neg (by rw [h2]; simp), if_neg (by rw [h3]; simp), if_neg (by rw [h4]; simp)]
theorem Q4E (s : ByteArray) (i e : Nat) : lst (sub s i e) = ((lst s).drop i).take (e - i) := by
 unfold lst sub
 rw [ByteArray.data_extract, Array.toList_extract, List.extract_eq_take_drop]
theorem Q3C {s : ByteArray} {i e : Nat} (h1 : i ≤ e) (h2 : e ≤ s.size) : (sub s i e).size = e - i := by
 rw [← Q0r, Q4E, List.length_take, List.length_drop, Q0r]; omega
theorem Q8d {s : ByteArray} {i e j : Nat} (hj : j < e - i) : bt (sub s i e) j = bt s (i + j) := by
 unfold bt
 rw [Q4E, List.getD_eq_getElem?_getD, List.getElem?_take, if_pos hj, List.getElem?_drop, ← List.getD_eq_getElem?_getD]
def Q1s (t : Tk) : Bool := if t.k = 97 then NM.right t.s else Q0J t.k && (decide (t.s.size = 1) && decide (bt t.s 0 = t.k))
theorem Q4F {t : Tk} (h : t.k = 97) : Q1s t = NM.right t.s := by unfold Q1s; rw [if_pos h]
theorem Q3D {t : Tk} (h : ¬ t.k = 97) : Q1s t = (Q0J t.k && (decide (t.s.size = 1) && decide (bt t.s 0 = t.k))) := by unfold Q1s; rw [if_neg h]
theorem Q5R {s : ByteArray} {i k e : Nat} (h : i < s.size) (hs : st s i = .tok k e) : Q1s ⟨k, sub s i e, (i : Int)⟩ = true := by
 unfold st at hs
 split at hs
 ·cases hs
 ·split at hs
  ·cases hs
  ·split at hs
   ·split at hs
    ·rename_i hr
     injection hs with h1 h2
     subst h1 h2
     rw [Q4F rfl]; exact hr
    ·cases hs
   ·split at hs
    ·rename_i hg
     injection hs with h1 h2
     subst h1 h2
     obtain ⟨_, _, _, h97⟩ := Q4B hg
     rw [Q3D h97, hg, Q3C (by omega) (by omega), Q8d (by omega), Nat.add_zero]
     simp
    ·cases hs
inductive Placed (s : ByteArray) : Nat → List Tk → Prop where
 | nil (a : Nat) : Placed s a []
 | cons (a p : Nat) (t : Tk) (l : List Tk) (hp : t.p = (p : Int)) (ha : a ≤ p) (hl : p + t.s.size ≤ s.size) (hs : t.s = sub s p (p + t.s.size)) (hr : Q1s t = true)
  (hb : ∀ j, a ≤ j → j < p → Q0V (bt s j) = true) (h : Placed s (p + t.s.size) l) : Placed s a (t :: l)
theorem Placed.down {s : ByteArray} {i : Nat} {l : List Tk} (h : Placed s (i + 1) l) (hb : Q0V (bt s i) = true) : Placed s i l := by
 cases h with
 | nil => exact .nil _
 | cons _ p t l hp ha hl hs hr hbs h =>
   refine .cons i p t l hp (by omega) hl hs hr (fun j h1 h2 => ?_) h
   by_cases e : j = i
   ·rw [e]; exact hb
   ·exact hbs j (by omega) h2
theorem Q4G {s : ByteArray} {C : Nat → Prop} (h : ∀ i, (∀ j, i < j → C j) → C i) (hend : ∀ i, ¬ i < s.size → C i) (i : Nat) : C i := by
 have : ∀ n i, s.size - i ≤ n → C i := by
  intro n
  induction n with
  | zero => intro i hi; exact hend i (by omega)
  | succ n ih =>
    intro i hi
    by_cases hlt : i < s.size
    ·exact h i fun j hj => ih j (by omega)
    ·exact hend i hlt
 exact this _ i (zL _)
theorem Q5S {s : ByteArray} (i : Nat) : ∀ (acc R : List Tk), scan s i acc = .ok R → ∃ l, R = acc ++ l ∧ Placed s i l := by
 refine Q4G (s := s) (C := fun i => ∀ (acc R : List Tk), scan s i acc = .ok R → ∃ l, R = acc ++ l ∧ Placed s i l) ?_ ?_ i
 ·intro i ih acc R h
  by_cases hlt : i < s.size
  ·cases hs : st s i with
   | skip =>
     rw [Q38 acc hlt hs] at h
     obtain ⟨l, h1, h2⟩ := ih (i + 1) (by omega) acc R h
     refine ⟨l, h1, h2.down ?_⟩
     unfold st at hs
     split at hs
     ·assumption
     ·split at hs
      ·cases hs
      ·split at hs
       ·split at hs <;> cases hs
       ·split at hs <;> cases hs
   | stop =>
     rw [Q39 acc hlt hs] at h
     injection h with h
     exact ⟨[], by rw [← h]; simp, .nil _⟩
   | bad => rw [Q2i acc hlt hs] at h; cases h
   | tok k e =>
     rw [Q2j acc hlt hs] at h
     have he := Q37 hlt hs
     obtain ⟨l, h1, h2⟩ := ih e (by omega) _ R h
     have hz : i + (sub s i e).size = e := by rw [Q3C (by omega) he.2]; omega
     refine ⟨⟨k, sub s i e, (i : Int)⟩ :: l, by rw [h1]; simp, ?_⟩
     refine .cons i i _ l rfl (zL _) ?_ ?_ (Q5R hlt hs) (fun j h1 h2 => by omega) ?_
     ·show i + (sub s i e).size ≤ s.size
      omega
     ·show sub s i e = sub s i (i + (sub s i e).size)
      rw [hz]
     ·show Placed s (i + (sub s i e).size) l
      rw [hz]; exact h2
  ·rw [Q23 acc hlt] at h
   injection h with h
   exact ⟨[], by rw [← h]; simp, .nil _⟩
 ·intro i hlt acc R h
  rw [Q23 acc hlt] at h
  injection h with h
  exact ⟨[], by rw [← h]; simp, .nil _⟩
theorem Q8e {s : ByteArray} (i : Nat) : ∀ (acc : List Tk) (f : Nat), scan s i acc = .error f → i ≤ f ∧ f < s.size := by
 refine Q4G (s := s) (C := fun i => ∀ (acc : List Tk) (f : Nat), scan s i acc = .error f → i ≤ f ∧ f < s.size) ?_ ?_ i
 ·intro i ih acc f h
  by_cases hlt : i < s.size
  ·cases hs : st s i with
   | skip =>
     rw [Q38 acc hlt hs] at h
     have := ih (i + 1) (by omega) acc f h
     omega
   | stop => rw [Q39 acc hlt hs] at h; cases h
   | bad =>
     rw [Q2i acc hlt hs] at h
     injection h with h
     omega
   | tok k e =>
     rw [Q2j acc hlt hs] at h
     have he := Q37 hlt hs
     have := ih e (by omega) _ f h
     omega
  ·rw [Q23 acc hlt] at h; cases h
 ·intro i hlt acc f h
  rw [Q23 acc hlt] at h; cases h
end LX
end
section
open Go.RowKit LX
theorem Q2A (c : Nat) (w : World) :
 Calls Tryz.prog 61 #[.int .u8 c] w fun e w' => e = .returned (.bool (NM.innr c)) ∧ w = w' := by
 go_enter Tryz.func61, Tryz.ntmps61
 go_wp2
 all_goals
  go_ret
  exact ⟨Q0o (Q0Q (by unfold NM.innr NM.lett; rw [Bool.eq_iff_iff]; simp <;> omega)), rfl⟩
theorem Q5T (c : Nat) (w : World) :
 Calls Tryz.prog 104 #[.int .u8 c] w fun e w' => e = .returned (.bool (NM.innr c)) ∧ w = w' := by
 go_enter Tryz.func104, Tryz.ntmps104
 go_wp2
 all_goals
  go_ret
  exact ⟨Q0o (Q0Q (by unfold NM.innr NM.lett; rw [Bool.eq_iff_iff]; simp <;> omega)), rfl⟩
theorem Q2B (c : Nat) (w : World) :
 Calls Tryz.prog 62 #[.int .u8 c] w fun e w' => e = .returned (.bool (Q0V c)) ∧ w = w' := by
 go_enter Tryz.func62, Tryz.ntmps62
 go_wp2
 all_goals
  go_ret
  exact ⟨Q0o (Q0Q (by unfold Q0V; rw [Bool.eq_iff_iff]; simp <;> omega)), rfl⟩
theorem Q8f (c : Nat) (hc : c < 256) : decide (Lib.indexByte [35, 43, 38, 40, 41, 123, 125, 91, 93, 44, 58, 61, 124, 60] ((c : Int).toNat.toUInt8) ≥ 0) = Q0J c := by
 have : ∀ c : Fin 256, decide (Lib.indexByte [35, 43, 38, 40, 41, 123, 125, 91, 93, 44, 58, 61, 124, 60] ((c.val : Int).toNat.toUInt8) ≥ 0) = Q0J c.val := by decide
 exact this ⟨c, hc⟩
theorem Q4H (c : Nat) (hc : c < 256) (w : World) :
 Calls Tryz.prog 109 #[.int .u8 c] w fun e w' => e = .returned (.bool (Q0J c)) ∧ w = w' := by
 have HS := zh (Q8f c hc); clear hc
 go_enter Tryz.func109, Tryz.ntmps109
 go_wp2_with fail
 refine (Tryz.strings_IndexByte _ _ _).mono ?_
 rintro e w' ⟨rfl, rfl⟩
 go_wp2
 go_ret
 refine ⟨Q0o (Q0Q ?_), rfl⟩
 rw [← HS.out]
 rw [Bool.eq_iff_iff]
 simp
def Q2C : Array Value := #[.int .u8 35, .int .u8 43, .int .u8 38, .int .u8 40, .int .u8 41, .int .u8 123, .int .u8 125, .int .u8 91, .int .u8 93, .int .u8 44, .int .u8 58, .int .u8 61, .int .u8 124, .int .u8 60]
theorem Q8g (j : Nat) (hj : j < 14) : Q2C[j]? = some (.int .u8 ((signs.getD j 0 : Nat) : Int)) := by
 match j, hj with
 | 0, _ => rfl
 | 1, _ => rfl
 | 2, _ => rfl
 | 3, _ => rfl
 | 4, _ => rfl
 | 5, _ => rfl
 | 6, _ => rfl
 | 7, _ => rfl
 | 8, _ => rfl
 | 9, _ => rfl
 | 10, _ => rfl
 | 11, _ => rfl
 | 12, _ => rfl
 | 13, _ => rfl
 | n + 14, h => exact absurd h (by omega)
theorem Q8h {c j : Nat} (hj : j < 14) (h : signs.getD j 0 = c) : Q0J c = true := by
 unfold Q0J
 rw [List.contains_iff_mem]
 have hl : j < signs.length := hj
 rw [List.getD_eq_getElem?_getD, List.getElem?_eq_getElem hl] at h
 rw [← h]; exact List.getElem_mem hl
theorem Q8i {c : Nat} (h : ∀ j, j < 14 → signs.getD j 0 ≠ c) : Q0J c = false := by
 unfold Q0J
 rw [Bool.eq_false_iff]
 intro hm
 rw [List.contains_iff_mem] at hm
 obtain ⟨j, hj, e⟩ := List.mem_iff_getElem.1 hm
 refine h j hj ?_
 rw [List.getD_eq_getElem?_getD, List.getElem?_eq_getElem hj, Option.getD_some]; exact e
theorem Q2D (c : Nat) (w : World) :
 Calls Tryz.prog 57 #[.int .u8 c] w fun e w' => e = .returned (.bool (Q0J c)) ∧ Below w.heap.size w w' := by
 have HCELL : Hid (∀ j, j < 14 → (w.alloc (.cells Q2C 5)).cell? ⟨w.heap.size, j, none⟩ = some (.int .u8 ((signs.getD j 0 : Nat) : Int))) :=
  fun j hj => (cell_of_row _ w.heap.size j Q2C 5 (0, 0) (heap_alloc_new w _)).trans (Q8g j hj)
 have HB : Hid (Below w.heap.size w (w.alloc (.cells Q2C 5))) := (zB _ _).alloc (zL _) _
 have HR : Hid (Q0J c = Q0J c) := rfl
 have HIT := zh (fun j => @Q8h c j)
 have MISS := zh (@Q8i c)
 generalize Q0J c = r at *
 generalize hG : signs = G at *
 clear hG
 go_enter Tryz.func57, Tryz.ntmps57
 go_wp2_with fail
 rw [show w.alloc (Obj.cells #[.int .u8 35, .int .u8 43, .int .u8 38, .int .u8 40, .int .u8 41, .int .u8 123, .int .u8 125, .int .u8 91, .int .u8 93, .int .u8 44, .int .u8 58, .int .u8 61, .int .u8 124, .int .u8 60] 5) = w.alloc (.cells Q2C 5) from rfl]
 generalize w.alloc (.cells Q2C 5) = wa at *
 go_loop [4] (fun iv => ∃ j : Nat, j ≤ 14 ∧ iv = .int .i64 j ∧ Hid (∀ i, i < j → G.getD i 0 ≠ c)) (fun iv => 14 - (intOf iv).toNat)
 case atStart => exact ⟨0, by omega, rfl, fun i hi => by omega⟩
 case round =>
  obtain ⟨j, hj, rfl, HN⟩ := hrel
  by_cases hlt : j < 14
  ·have hcj := HCELL.out j hlt
   by_cases he : G.getD j 0 = c
   ·have HR1 := zh (HIT.out j hlt he)
    rw [he] at hcj
    clear he
    go_wp2
    go_ret
    exact ⟨Q0o (Q0Q HR1.out.symm), HB.out⟩
   ·have HN1 := zh he; clear he
    generalize hx : G.getD j 0 = x at *
    have HX := zh hx; clear hx
    have hne : ((x : Int) == (c : Int)) = false := by
     rw [beq_eq_false_iff_ne]
     intro h
     exact HN1.out (by omega)
    go_wp2
    go_round
    case rel =>
     refine ⟨j + 1, by omega, by go_num, ?_⟩
     show ∀ i, i < j + 1 → G.getD i 0 ≠ c
     intro i hi
     by_cases e : i = j
     ·rw [e, HX.out]; exact HN1.out
     ·exact HN.out i (by omega)
    case measure => simp [intOf]; omega
  ·obtain rfl : j = 14 := by omega
   have HR1 := zh (MISS.out HN.out)
   go_wp2
   go_ret
   exact ⟨Q0o (Q0Q HR1.out.symm), HB.out⟩
theorem Q5U (s : ByteArray) (g : Nat) (w : World) (hs : w.cell? ⟨g, 0, none⟩ = some (.string s)) (i : Nat) (hi : i ≤ s.size) (hl : s.size ≤ 4294967296) :
 Calls Tryz.prog 60 #[.int .i64 i, .pointer (some ⟨g, 0, none⟩)] w fun e w' => e = .returned (.int .i64 (runE s i)) ∧ w = w' := by
 go_enter Tryz.func60, Tryz.ntmps60
 go_wp2
 go_loop [0] (fun iv => ∃ j : Nat, j ≤ s.size ∧ iv = .int .i64 j ∧ Hid (runE s j = runE s i)) (fun iv => s.size - (intOf iv).toNat)
 case atStart => exact ⟨i, hi, rfl, rfl⟩
 case round =>
  obtain ⟨j, hj, rfl, HR⟩ := hrel
  by_cases hlt : j < s.size
  ·have hb : bt s j = s[j].toNat := by unfold bt lst; rw [NM.byte_at hlt]
   cases hc : NM.innr s[j].toNat
   ·have HE : Hid (runE s j = j) := Q2x hlt (by rw [hb]; exact hc)
    have HC := zh hc; clear hc hb
    go_wp2_with (go_at_call 61; refine (Q2A _ _).mono ?_; rintro e w' ⟨rfl, rfl⟩; rw [HC.out])
    go_ret
    exact ⟨Q0o (int_eq (by rw [← HR.out, HE.out])), rfl⟩
   ·have HE : Hid (runE s j = runE s (j + 1)) := Q4A hlt (by rw [hb]; exact hc)
    have HC := zh hc; clear hc hb
    go_wp2_with (go_at_call 61; refine (Q2A _ _).mono ?_; rintro e w' ⟨rfl, rfl⟩; rw [HC.out])
    go_round
    case rel =>
     refine ⟨j + 1, by omega, by go_num, ?_⟩
     show _ = _
     rw [← HE.out]; exact HR.out
    case measure => simp [intOf]; omega
  ·have HE : Hid (runE s j = j) := Q5L hlt
   go_wp2
   go_ret
   exact ⟨Q0o (int_eq (by rw [← HR.out, HE.out])), rfl⟩
theorem Q2E (s : ByteArray) (w : World) (i : Nat) (hi : i ≤ s.size) (hl : s.size ≤ 4294967296) :
 Calls Tryz.prog 56 #[.string s, .int .i64 i] w fun e w' => e = .returned (.int .i64 ((runE s i : Int) - i)) ∧ w = w' := by
 have HG := zh (Q3z s i)
 go_enter Tryz.func56, Tryz.ntmps56
 go_wp2
 go_loop [5] (fun iv => ∃ j : Nat, i + j ≤ s.size ∧ iv = .int .i64 j ∧ Hid (runE s (i + j) = runE s i)) (fun iv => s.size - (intOf iv).toNat)
 case atStart => exact ⟨0, by omega, rfl, rfl⟩
 case round =>
  obtain ⟨j, hj, rfl, HR⟩ := hrel
  have htn : ((i : Int) + (j : Int)).toNat = i + j := by omega
  by_cases hlt : i + j < s.size
  ·have hb : bt s (i + j) = s[i + j].toNat := by unfold bt lst; rw [NM.byte_at hlt]
   cases hc : NM.innr s[i + j].toNat
   ·have HE : Hid (runE s (i + j) = i + j) := Q2x hlt (by rw [hb]; exact hc)
    have HC := zh hc; clear hc hb
    go_wp2_with (go_at_call 104; refine (Q5T _ _).mono ?_; rintro e w' ⟨rfl, rfl⟩; rw [HC.out])
    go_ret
    exact ⟨Q0o (int_eq (by rw [← HR.out, HE.out]; omega)), rfl⟩
   ·have HE : Hid (runE s (i + j) = runE s (i + (j + 1))) := Q4A hlt (by rw [hb]; exact hc)
    have HC := zh hc; clear hc hb
    go_wp2_with (go_at_call 104; refine (Q5T _ _).mono ?_; rintro e w' ⟨rfl, rfl⟩; rw [HC.out])
    go_round
    case rel =>
     refine ⟨j + 1, by omega, by go_num, ?_⟩
     show _ = _
     rw [← HE.out]; exact HR.out
    case measure => simp [intOf]; omega
  ·have HE : Hid (runE s (i + j) = i + j) := Q5L hlt
   go_wp2
   go_ret
   exact ⟨Q0o (int_eq (by rw [← HR.out, HE.out]; omega)), rfl⟩
end
section
open Go.RowKit LX
def Q3E (t : Tk) : List Value := [.int .u8 (t.k : Int), .string t.s, .int .i64 t.p]
def tv (t : Tk) : Array Value := #[.int .u8 (t.k : Int), .string t.s, .int .i64 t.p]
theorem Q3F (t : Tk) : (Q3E t).length = 3 := rfl
def Q0N (l : List Tk) : List Value := l.flatMap Q3E
theorem Q3G (a b : List Tk) : Q0N (a ++ b) = Q0N a ++ Q0N b := by simp [Q0N]
theorem Q3H (t : Tk) : Q0N [t] = Q3E t := by simp [Q0N]
theorem Q5V : ∀ l : List Tk, (Q0N l).length = l.length * 3
 | [] => rfl
 | t :: l => by
   have := Q5V l
   unfold Q0N at this ⊢
   rw [List.flatMap_cons, zA7, this, Q3F, zA8]; omega
theorem Q3I : ∀ (l : List Tk) (i j : Nat), i < l.length → j < 3 → (Q0N l)[i * 3 + j]? = (Q3E (l.getD i t0))[j]?
 | [], i, j, hi, _ => by simp at hi
 | t :: l, 0, j, _, hj => by
   unfold Q0N
   rw [List.flatMap_cons, List.getElem?_append_left (by rw [Q3F]; omega)]
   simp
 | t :: l, i + 1, j, hi, hj => by
   have := Q3I l i j (by simpa using hi) hj
   unfold Q0N at this ⊢
   rw [List.flatMap_cons, List.getElem?_append_right (by rw [Q3F]; omega), Q3F, show (i + 1) * 3 + j - 3 = i * 3 + j by omega, this]
   simp
def Toks (w : World) (A : Option Addr) (l : List Tk) : Prop := Sl w w.heap.size A (Q0N l)
section
variable {w w' : World} {A : Option Addr} {l : List Tk}
theorem Toks.below (h : Toks w A l) (hb : Below w.heap.size w w') : Toks w' A l := (Sl.below h hb).mono hb.size
theorem Toks.alloc (h : Toks w A l) (o : Obj) : Toks (w.alloc o) A l := h.below ((zB _ _).alloc (zL _) _)
theorem Toks.at (h : Toks w A l) {k : Nat} (hk : k < l.length) : ∃ b o, A = some ⟨b, o, none⟩ ∧ b < w.heap.size ∧ ∀ i, i < l.length →
 w.cell? ⟨b, o + i * 3, none⟩ = some (.int .u8 ((l.getD i t0).k : Int)) ∧ w.cell? ⟨b, o + i * 3 + 1, none⟩ = some (.string (l.getD i t0).s) ∧ w.cell? ⟨b, o + i * 3 + 2, none⟩ = some (.int .i64 (l.getD i t0).p) := by
 obtain ⟨b, o, hA, hb, hc⟩ := Sl.at_ h (fun e => by
  have := congrArg List.length e
  rw [Q5V] at this
  simp only [zA9] at this
  omega)
 refine ⟨b, o, hA, hb, fun i hi => ⟨?_, ?_, ?_⟩⟩
 ·exact hc (i * 3) _ (by have := Q3I l i 0 hi (by omega); rw [Nat.add_zero] at this; rw [this]; rfl)
 ·rw [Nat.add_assoc]; exact hc (i * 3 + 1) _ (by rw [Q3I l i 1 hi (by omega)]; rfl)
 ·rw [Nat.add_assoc]; exact hc (i * 3 + 2) _ (by rw [Q3I l i 2 hi (by omega)]; rfl)
end
theorem Q5W (s : ByteArray) (i : Nat) : bt s i < 256 := by unfold bt; exact UInt8.toNat_lt _
theorem Q3a {s : ByteArray} {i : Nat} (h : i < s.size) : bt s i = s[i].toNat := by unfold bt lst; rw [NM.byte_at h]
theorem Q4I (s : ByteArray) (p : Int) (w : World) :
 Calls Tryz.prog 64 #[.agg #[.int .u8 ((97 : Nat) : Int), .string s, .int .i64 p]] w fun e w' => e = .returned (.bool (NM.right s)) ∧ Below w.heap.size w w' := by
 generalize hR : NM.right s = r at *
 have HR := zh hR; clear hR
 go_enter Tryz.func64, Tryz.ntmps64
 go_wp2_with fail
 refine (Q92 _ _).mono ?_
 rintro e w' ⟨rfl, hb⟩
 have HB := zh hb; clear hb
 go_wp2
 go_ret
 exact ⟨Q0o (Q0Q HR.out), ((zB _ _).alloc (zL _) _).trans (HB.out.mono (by simp))⟩
theorem Q8j (k : Nat) (s : ByteArray) (p : Int) (w : World) (hk : k < 256) (h97 : ¬ k = 97) :
 Calls Tryz.prog 64 #[.agg #[.int .u8 (k : Int), .string s, .int .i64 p]] w fun e w' => e = .returned (.bool (Q0J k && (decide (s.size = 1) && decide (bt s 0 = k)))) ∧ Below w.heap.size w w' := by
 have hne : ((k : Int) == 97) = false := by rw [beq_eq_false_iff_ne]; omega
 cases hs : Q0J k
 ·have HS := zh hs; clear hs
  go_enter Tryz.func64, Tryz.ntmps64
  go_wp2_with fail
  go_quiet ((go_at_call 109; exact Q1S ((Q4H k hk _).mono fun e w' h => by rw [HS.out] at h; exact h)))
  go_wp2
  go_ret
  exact ⟨rfl, Q0D ((zB _ _).alloc (zL _) _) _⟩
 ·have HS := zh hs; clear hs
  by_cases h1 : s.size = 1
  ·have h0 : 0 < s.size := by omega
   have hb := Q3a (s := s) (i := 0) h0
   rw [hb, zE h1]
   have h1' : ((s.size : Int) == 1) = true := by rw [beq_iff_eq]; omega
   clear h1 hb
   go_enter Tryz.func64, Tryz.ntmps64
   go_wp2_with fail
   go_quiet ((go_at_call 109; exact Q1S ((Q4H k hk _).mono fun e w' h => by rw [HS.out] at h; exact h)))
   go_wp2
   go_ret
   exact ⟨Q0o (Q0Q (by rw [Bool.eq_iff_iff]; simp <;> omega)), Q0D ((zB _ _).alloc (zL _) _) _⟩
  ·rw [zF h1]
   have h1' : ((s.size : Int) == 1) = false := by rw [beq_eq_false_iff_ne]; omega
   clear h1
   go_enter Tryz.func64, Tryz.ntmps64
   go_wp2_with fail
   go_quiet ((go_at_call 109; exact Q1S ((Q4H k hk _).mono fun e w' h => by rw [HS.out] at h; exact h)))
   go_wp2
   go_ret
   exact ⟨rfl, Q0D ((zB _ _).alloc (zL _) _) _⟩
theorem Q5X (t : Tk) (w : World) (hk : t.k < 256) :
 Calls Tryz.prog 64 #[.agg (tv t)] w fun e w' => e = .returned (.bool (Q1s t)) ∧ Below w.heap.size w w' := by
 obtain ⟨k, s, p⟩ := t
 by_cases h97 : k = 97
 ·subst h97
  exact Q4I s p w
 ·rw [Q3D (t := ⟨k, s, p⟩) h97]
  exact Q8j k s p w hk h97
end
section
open Go.RowKit LX
end
section
open Go.RowKit LX
theorem Q5Y (a b : Nat) : ((a : Int) == (b : Int)) = decide (a = b) := by rw [Bool.eq_iff_iff]; simp; omega
end
end Go.Proofs.YtmobcncgfbfmcaaGreatDoor
