/- Texts that all the claims need. Conditions: those that each states. -/

import Derived.Test.YtmffnkfohmbbeaaGreatDoorCi1
import Derived.Test.YtmffnkfohmbbeaaGreatDoorCi2
import Derived.Test.YtmffnkfohmbbeaaGreatDoorCi3
set_option linter.unusedSimpArgs false
set_option linter.unusedVariables false
set_option maxRecDepth 100000
set_option maxHeartbeats 40000000
namespace Go.Proofs.YtmffnkfohmbbeaaGreatDoor
section
namespace LX
structure Tk where
 k : Nat
 s : ByteArray
 p : Int
deriving DecidableEq
def t0 : Tk := ⟨0, ⟨#[]⟩, 0⟩
def lst (s : ByteArray) : List UInt8 := s.data.toList
def bt (s : ByteArray) (i : Nat) : Nat := ((lst s).getD i 0).toNat
def goes (c : UInt8) : Bool := NM.innr c.toNat
def blankB (c : Nat) : Bool := decide (c = 32) || decide (c = 9)
def signs : List Nat := [35, 43, 38, 40, 41, 123, 125, 91, 93, 44, 58, 61, 124, 60]
def signB (c : Nat) : Bool := signs.contains c
def runE (s : ByteArray) (i : Nat) : Nat := i + (((lst s).drop i).takeWhile goes).length
def sub (s : ByteArray) (i e : Nat) : ByteArray := s.extract i e
inductive St where
 | skip
 | stop
 | bad
 | tok (k e : Nat)
deriving DecidableEq
def dash (s : ByteArray) (i : Nat) : Bool := decide (bt s i = 45) && (decide (i + 1 < s.size) && decide (bt s (i + 1) = 45))
def st (s : ByteArray) (i : Nat) : St :=
 if blankB (bt s i) = true then .skip
 else if dash s i = true then .stop
 else if NM.innr (bt s i) = true then (if NM.right (sub s i (runE s i)) = true then .tok 97 (runE s i) else .bad)
 else if signB (bt s i) = true then .tok (bt s i) (i + 1) else .bad
def scanF (s : ByteArray) : Nat → Nat → List Tk → Except Nat (List Tk)
 | 0, _, acc => .ok acc
 | n + 1, i, acc =>
   if i < s.size then
     match st s i with
     | .skip => scanF s n (i + 1) acc
     | .stop => .ok acc
     | .bad => .error i
     | .tok k e => scanF s n e (acc ++ [⟨k, sub s i e, (i : Int)⟩])
   else .ok acc
def scan (s : ByteArray) (i : Nat) (acc : List Tk) : Except Nat (List Tk) := scanF s (s.size - i) i acc
theorem lst_length (s : ByteArray) : (lst s).length = s.size := by unfold lst; rw [Array.length_toList]; rfl
theorem takeWhile_le (p : UInt8 → Bool) : ∀ l : List UInt8, (l.takeWhile p).length ≤ l.length
 | [] => zL _
 | a :: l => by
   rw [List.takeWhile_cons]
   split
   ·have := takeWhile_le p l
    simp only [zA8]; omega
   ·simp
theorem drop_at {s : ByteArray} {i : Nat} (h : i < s.size) : ∃ c : UInt8, (lst s).drop i = c :: (lst s).drop (i + 1) ∧ c.toNat = bt s i := by
 have h1 : i < (lst s).length := by rw [lst_length]; exact h
 refine ⟨(lst s)[i], List.drop_eq_getElem_cons h1, ?_⟩
 unfold bt
 rw [List.getD_eq_getElem?_getD, List.getElem?_eq_getElem h1]; rfl
theorem runE_step {s : ByteArray} {i : Nat} (h : i < s.size) (hc : NM.innr (bt s i) = true) : runE s i = runE s (i + 1) := by
 obtain ⟨c, e, hb⟩ := drop_at h
 unfold runE
 rw [e, List.takeWhile_cons]
 have : goes c = true := by unfold goes; rw [hb]; exact hc
 rw [if_pos this, zA8]; omega
theorem runE_stop {s : ByteArray} {i : Nat} (h : i < s.size) (hc : NM.innr (bt s i) = false) : runE s i = i := by
 obtain ⟨c, e, hb⟩ := drop_at h
 unfold runE
 rw [e, List.takeWhile_cons]
 have : ¬ goes c = true := by unfold goes; rw [hb, hc]; simp
 rw [if_neg this]; simp
theorem runE_end {s : ByteArray} {i : Nat} (h : ¬ i < s.size) : runE s i = i := by
 unfold runE
 rw [List.drop_eq_nil_of_le (by rw [lst_length]; omega)]; simp
theorem runE_ge (s : ByteArray) (i : Nat) : i ≤ runE s i := by unfold runE; omega
theorem runE_le {s : ByteArray} {i : Nat} (h : i ≤ s.size) : runE s i ≤ s.size := by
 unfold runE
 have := takeWhile_le goes ((lst s).drop i)
 rw [List.length_drop, lst_length] at this
 omega
theorem runE_gt {s : ByteArray} {i : Nat} (h : i < s.size) (hc : NM.innr (bt s i) = true) : i < runE s i := by
 rw [runE_step h hc]; have := runE_ge s (i + 1); omega
theorem st_tok {s : ByteArray} {i k e : Nat} (h : i < s.size) (hs : st s i = .tok k e) : i < e ∧ e ≤ s.size := by
 unfold st at hs
 split at hs
 ·cases hs
 ·split at hs
  ·cases hs
  ·split at hs
   ·rename_i hc
    split at hs
    ·injection hs with _ he
     subst he
     exact ⟨runE_gt h hc, runE_le (by omega)⟩
    ·cases hs
   ·split at hs
    ·injection hs with _ he
     omega
    ·cases hs
theorem scanF_more (s : ByteArray) : ∀ (n : Nat) (m i : Nat) (acc : List Tk), s.size - i ≤ n → s.size - i ≤ m → scanF s n i acc = scanF s m i acc
 | 0, m, i, acc, hn, _ => by
   have h : ¬ i < s.size := by omega
   cases m with
   | zero => rfl
   | succ m =>
     show Except.ok acc = scanF s (m + 1) i acc
     rw [scanF, if_neg h]
 | n + 1, 0, i, acc, _, hm => by
   have h : ¬ i < s.size := by omega
   show scanF s (n + 1) i acc = Except.ok acc
   rw [scanF, if_neg h]
 | n + 1, m + 1, i, acc, hn, hm => by
   rw [scanF, scanF]
   by_cases h : i < s.size
   ·rw [if_pos h, if_pos h]
    cases hs : st s i with
    | skip => exact scanF_more s n m (i + 1) acc (by omega) (by omega)
    | stop => rfl
    | bad => rfl
    | tok k e =>
      have := st_tok h hs
      exact scanF_more s n m e _ (by omega) (by omega)
   ·rw [if_neg h, if_neg h]
theorem scan_end {s : ByteArray} {i : Nat} (acc : List Tk) (h : ¬ i < s.size) : scan s i acc = .ok acc := by
 unfold scan
 rw [show s.size - i = 0 by omega]; rfl
theorem scan_at {s : ByteArray} {i : Nat} (acc : List Tk) (h : i < s.size) : scan s i acc = match st s i with
 | .skip => scan s (i + 1) acc
 | .stop => .ok acc
 | .bad => .error i
 | .tok k e => scan s e (acc ++ [⟨k, sub s i e, (i : Int)⟩]) := by
 unfold scan
 obtain ⟨n, hn⟩ : ∃ n, s.size - i = n + 1 := ⟨s.size - i - 1, by omega⟩
 rw [hn, scanF, if_pos h]
 cases hs : st s i with
 | skip => exact scanF_more s _ _ _ _ (by omega) (by omega)
 | stop => rfl
 | bad => rfl
 | tok k e =>
   have := st_tok h hs
   exact scanF_more s _ _ _ _ (by omega) (by omega)
theorem scan_skip {s : ByteArray} {i : Nat} (acc : List Tk) (h : i < s.size) (hs : st s i = .skip) : scan s i acc = scan s (i + 1) acc := by rw [scan_at acc h, hs]
theorem scan_stop {s : ByteArray} {i : Nat} (acc : List Tk) (h : i < s.size) (hs : st s i = .stop) : scan s i acc = .ok acc := by rw [scan_at acc h, hs]
theorem scan_bad {s : ByteArray} {i : Nat} (acc : List Tk) (h : i < s.size) (hs : st s i = .bad) : scan s i acc = .error i := by rw [scan_at acc h, hs]
theorem scan_tok {s : ByteArray} {i k e : Nat} (acc : List Tk) (h : i < s.size) (hs : st s i = .tok k e) : scan s i acc = scan s e (acc ++ [⟨k, sub s i e, (i : Int)⟩]) := by rw [scan_at acc h, hs]
theorem innr_not {c : Nat} (h : NM.innr c = true) : blankB c = false ∧ c ≠ 45 ∧ signB c = false := by
 have hc : c ≤ 122 := by
  unfold NM.innr NM.lett at h
  simp only [Bool.or_eq_true, Bool.and_eq_true, decide_eq_true_eq] at h
  omega
 have : ∀ c : Fin 123, NM.innr c.val = true → blankB c.val = false ∧ c.val ≠ 45 ∧ signB c.val = false := by decide
 exact this ⟨c, by omega⟩ h
theorem sign_not {c : Nat} (h : signB c = true) : blankB c = false ∧ c ≠ 45 ∧ NM.innr c = false ∧ c ≠ 97 := by
 have hc : c ∈ signs := by unfold signB at h; exact List.contains_iff_mem.1 h
 have : ∀ c ∈ signs, blankB c = false ∧ c ≠ 45 ∧ NM.innr c = false ∧ c ≠ 97 := by decide
 exact this c hc
theorem st_skip {s : ByteArray} {i : Nat} (h : blankB (bt s i) = true) : st s i = .skip := by unfold st; rw [if_pos h]
theorem st_stop {s : ByteArray} {i : Nat} (h : dash s i = true) : st s i = .stop := by
 have : bt s i = 45 := by
  unfold dash at h
  simp only [Bool.and_eq_true, decide_eq_true_eq] at h
  exact h.1
 unfold st
 rw [if_neg (by rw [this]; decide), if_pos h]
theorem st_word {s : ByteArray} {i : Nat} (h : NM.innr (bt s i) = true) (hr : NM.right (sub s i (runE s i)) = true) : st s i = .tok 97 (runE s i) := by
 obtain ⟨h1, h2, _⟩ := innr_not h
 unfold st
 rw [if_neg (by rw [h1]; simp), if_neg (by unfold dash; rw [zF h2]; simp), if_pos h, if_pos hr]
theorem st_wrong {s : ByteArray} {i : Nat} (h : NM.innr (bt s i) = true) (hr : NM.right (sub s i (runE s i)) = false) : st s i = .bad := by
 obtain ⟨h1, h2, _⟩ := innr_not h
 unfold st
 rw [if_neg (by rw [h1]; simp), if_neg (by unfold dash; rw [zF h2]; simp), if_pos h, if_neg (by rw [hr]; simp)]
theorem st_sign {s : ByteArray} {i : Nat} (h : signB (bt s i) = true) : st s i = .tok (bt s i) (i + 1) := by
 obtain ⟨h1, h2, h3, _⟩ := sign_not h
 unfold st
 rw [if_neg (by rw [h1]; simp), if_neg (by unfold dash; rw [zF h2]; simp), if_neg (by rw [h3]; simp), if_pos h]
theorem st_else {s : ByteArray} {i : Nat} (h1 : blankB (bt s i) = false) (h2 : dash s i = false) (h3 : NM.innr (bt s i) = false) (h4 : signB (bt s i) = false) : st s i = .bad := by
 unfold st
 rw [if_neg (by rw [h1]; simp), if_neg (by rw [h2]; simp), if_neg (by rw [h3]; simp), if_neg (by rw [h4]; simp)]
theorem lst_sub (s : ByteArray) (i e : Nat) : lst (sub s i e) = ((lst s).drop i).take (e - i) := by
 unfold lst sub
 rw [ByteArray.data_extract, Array.toList_extract, List.extract_eq_take_drop]
theorem sub_size {s : ByteArray} {i e : Nat} (h1 : i ≤ e) (h2 : e ≤ s.size) : (sub s i e).size = e - i := by
 rw [← lst_length, lst_sub, List.length_take, List.length_drop, lst_length]; omega
theorem bt_sub {s : ByteArray} {i e j : Nat} (hj : j < e - i) : bt (sub s i e) j = bt s (i + j) := by
 unfold bt
 rw [lst_sub, List.getD_eq_getElem?_getD, List.getElem?_take, if_pos hj, List.getElem?_drop, ← List.getD_eq_getElem?_getD]
theorem lst_inj {a b : ByteArray} (h : lst a = lst b) : a = b := by
 cases a; cases b
 simp only [lst] at h
 simp only [ByteArray.mk.injEq]
 exact Array.toList_inj.1 h
def rightT (t : Tk) : Bool := if t.k = 97 then NM.right t.s else signB t.k && (decide (t.s.size = 1) && decide (bt t.s 0 = t.k))
theorem rightT_word {t : Tk} (h : t.k = 97) : rightT t = NM.right t.s := by unfold rightT; rw [if_pos h]
theorem rightT_sign {t : Tk} (h : ¬ t.k = 97) : rightT t = (signB t.k && (decide (t.s.size = 1) && decide (bt t.s 0 = t.k))) := by unfold rightT; rw [if_neg h]
theorem right_tok {s : ByteArray} {i k e : Nat} (h : i < s.size) (hs : st s i = .tok k e) : rightT ⟨k, sub s i e, (i : Int)⟩ = true := by
 unfold st at hs
 split at hs
 ·cases hs
 ·split at hs
  ·cases hs
  ·split at hs
   ·split at hs
    ·rename_i hr
     injection hs with h1 h2
     subst h1 h2
     rw [rightT_word rfl]; exact hr
    ·cases hs
   ·split at hs
    ·rename_i hg
     injection hs with h1 h2
     subst h1 h2
     obtain ⟨_, _, _, h97⟩ := sign_not hg
     rw [rightT_sign h97, hg, sub_size (by omega) (by omega), bt_sub (by omega), Nat.add_zero]
     simp
    ·cases hs
theorem scan_induct {s : ByteArray} {C : Nat → Prop} (h : ∀ i, (∀ j, i < j → C j) → C i) (hend : ∀ i, ¬ i < s.size → C i) (i : Nat) : C i := by
 have : ∀ n i, s.size - i ≤ n → C i := by
  intro n
  induction n with
  | zero => intro i hi; exact hend i (by omega)
  | succ n ih =>
    intro i hi
    by_cases hlt : i < s.size
    ·exact h i fun j hj => ih j (by omega)
    ·exact hend i hlt
 exact this _ i (zL _)
end LX
end
section
open Go.RowKit LX
theorem running_any (c : Nat) (w : World) :
 Calls Tryz.prog 85 #[.int .u8 c] w fun e w' => e = .returned (.bool (NM.innr c)) ∧ w = w' := by
 go_enter Tryz.func85, Tryz.ntmps85
 go_wp2
 all_goals
  go_ret
  exact ⟨ret_eq (bool_eq (by unfold NM.innr NM.lett; rw [Bool.eq_iff_iff]; simp <;> omega)), rfl⟩
theorem blank_any (c : Nat) (w : World) :
 Calls Tryz.prog 86 #[.int .u8 c] w fun e w' => e = .returned (.bool (blankB c)) ∧ w = w' := by
 go_enter Tryz.func86, Tryz.ntmps86
 go_wp2
 all_goals
  go_ret
  exact ⟨ret_eq (bool_eq (by unfold blankB; rw [Bool.eq_iff_iff]; simp <;> omega)), rfl⟩
theorem signB_index (c : Nat) (hc : c < 256) : decide (Lib.indexByte [35, 43, 38, 40, 41, 123, 125, 91, 93, 44, 58, 61, 124, 60] ((c : Int).toNat.toUInt8) ≥ 0) = signB c := by
 have : ∀ c : Fin 256, decide (Lib.indexByte [35, 43, 38, 40, 41, 123, 125, 91, 93, 44, 58, 61, 124, 60] ((c.val : Int).toNat.toUInt8) ≥ 0) = signB c.val := by decide
 exact this ⟨c, hc⟩
theorem sign_any (c : Nat) (hc : c < 256) (w : World) :
 Calls Tryz.prog 110 #[.int .u8 c] w fun e w' => e = .returned (.bool (signB c)) ∧ w = w' := by
 have HS := zh (signB_index c hc); clear hc
 go_enter Tryz.func110, Tryz.ntmps110
 go_wp2_with fail
 refine (Tryz.strings_IndexByte _ _ _).mono ?_
 rintro e w' ⟨rfl, rfl⟩
 go_wp2
 go_ret
 refine ⟨ret_eq (bool_eq ?_), rfl⟩
 rw [← HS.out]
 rw [Bool.eq_iff_iff]
 simp
theorem runEnd_any (s : ByteArray) (g : Nat) (w : World) (hs : w.cell? ⟨g, 0, none⟩ = some (.string s)) (i : Nat) (hi : i ≤ s.size) (hl : s.size ≤ 4294967296) :
 Calls Tryz.prog 84 #[.int .i64 i, .pointer (some ⟨g, 0, none⟩)] w fun e w' => e = .returned (.int .i64 (runE s i)) ∧ w = w' := by
 go_enter Tryz.func84, Tryz.ntmps84
 go_wp2
 go_loop [0] (fun iv => ∃ j : Nat, j ≤ s.size ∧ iv = .int .i64 j ∧ Hid (runE s j = runE s i)) (fun iv => s.size - (intOf iv).toNat)
 case atStart => exact ⟨i, hi, rfl, rfl⟩
 case round =>
  obtain ⟨j, hj, rfl, HR⟩ := hrel
  by_cases hlt : j < s.size
  ·have hb : bt s j = s[j].toNat := by unfold bt lst; rw [NM.byte_at hlt]
   cases hc : NM.innr s[j].toNat
   ·have HE : Hid (runE s j = j) := runE_stop hlt (by rw [hb]; exact hc)
    have HC := zh hc; clear hc hb
    go_wp2_with (go_at_call 85; refine (running_any _ _).mono ?_; rintro e w' ⟨rfl, rfl⟩; rw [HC.out])
    go_ret
    exact ⟨ret_eq (int_eq (by rw [← HR.out, HE.out])), rfl⟩
   ·have HE : Hid (runE s j = runE s (j + 1)) := runE_step hlt (by rw [hb]; exact hc)
    have HC := zh hc; clear hc hb
    go_wp2_with (go_at_call 85; refine (running_any _ _).mono ?_; rintro e w' ⟨rfl, rfl⟩; rw [HC.out])
    go_round
    case rel =>
     refine ⟨j + 1, by omega, by go_num, ?_⟩
     show _ = _
     rw [← HE.out]; exact HR.out
    case measure => simp [intOf]; omega
  ·have HE : Hid (runE s j = j) := runE_end hlt
   go_wp2
   go_ret
   exact ⟨ret_eq (int_eq (by rw [← HR.out, HE.out])), rfl⟩
end
section
open Go.RowKit LX
def tcells (t : Tk) : List Value := [.int .u8 (t.k : Int), .string t.s, .int .i64 t.p]
def tv (t : Tk) : Array Value := #[.int .u8 (t.k : Int), .string t.s, .int .i64 t.p]
theorem tcells_length (t : Tk) : (tcells t).length = 3 := rfl
def tkcells (l : List Tk) : List Value := l.flatMap tcells
theorem tkcells_append (a b : List Tk) : tkcells (a ++ b) = tkcells a ++ tkcells b := by simp [tkcells]
theorem tkcells_one (t : Tk) : tkcells [t] = tcells t := by simp [tkcells]
theorem tkcells_length : ∀ l : List Tk, (tkcells l).length = l.length * 3
 | [] => rfl
 | t :: l => by
   have := tkcells_length l
   unfold tkcells at this ⊢
   rw [List.flatMap_cons, zA7, this, tcells_length, zA8]; omega
theorem tkcells_at : ∀ (l : List Tk) (i j : Nat), i < l.length → j < 3 → (tkcells l)[i * 3 + j]? = (tcells (l.getD i t0))[j]?
 | [], i, j, hi, _ => by simp at hi
 | t :: l, 0, j, _, hj => by
   unfold tkcells
   rw [List.flatMap_cons, List.getElem?_append_left (by rw [tcells_length]; omega)]
   simp
 | t :: l, i + 1, j, hi, hj => by
   have := tkcells_at l i j (by simpa using hi) hj
   unfold tkcells at this ⊢
   rw [List.flatMap_cons, List.getElem?_append_right (by rw [tcells_length]; omega), tcells_length, show (i + 1) * 3 + j - 3 = i * 3 + j by omega, this]
   simp
def Toks (w : World) (A : Option Addr) (l : List Tk) : Prop := Sl w w.heap.size A (tkcells l)
section
variable {w w' : World} {A : Option Addr} {l : List Tk}
theorem Toks.below (h : Toks w A l) (hb : Below w.heap.size w w') : Toks w' A l := (Sl.below h hb).mono hb.size
theorem Toks.dr (h : Toks w A l) (hb : Dr w w') : Toks w' A l := h.below hb.below
theorem Toks.alloc (h : Toks w A l) (o : Obj) : Toks (w.alloc o) A l := h.below ((zB _ _).alloc (zL _) _)
theorem Toks.nil (w : World) (A : Option Addr) : Toks w A [] := Sl.nil _ _ _
theorem Toks.at (h : Toks w A l) {k : Nat} (hk : k < l.length) : ∃ b o, A = some ⟨b, o, none⟩ ∧ b < w.heap.size ∧ ∀ i, i < l.length →
 w.cell? ⟨b, o + i * 3, none⟩ = some (.int .u8 ((l.getD i t0).k : Int)) ∧ w.cell? ⟨b, o + i * 3 + 1, none⟩ = some (.string (l.getD i t0).s) ∧ w.cell? ⟨b, o + i * 3 + 2, none⟩ = some (.int .i64 (l.getD i t0).p) := by
 obtain ⟨b, o, hA, hb, hc⟩ := Sl.at_ h (fun e => by
  have := congrArg List.length e
  rw [tkcells_length] at this
  simp only [zA9] at this
  omega)
 refine ⟨b, o, hA, hb, fun i hi => ⟨?_, ?_, ?_⟩⟩
 ·exact hc (i * 3) _ (by have := tkcells_at l i 0 hi (by omega); rw [Nat.add_zero] at this; rw [this]; rfl)
 ·rw [Nat.add_assoc]; exact hc (i * 3 + 1) _ (by rw [tkcells_at l i 1 hi (by omega)]; rfl)
 ·rw [Nat.add_assoc]; exact hc (i * 3 + 2) _ (by rw [tkcells_at l i 2 hi (by omega)]; rfl)
end
theorem byte_lt (s : ByteArray) (i : Nat) : bt s i < 256 := by unfold bt; exact UInt8.toNat_lt _
theorem bt_at {s : ByteArray} {i : Nat} (h : i < s.size) : bt s i = s[i].toNat := by unfold bt lst; rw [NM.byte_at h]
theorem lexRight_word (s : ByteArray) (p : Int) (w : World) :
 Calls Tryz.prog 88 #[.agg #[.int .u8 ((97 : Nat) : Int), .string s, .int .i64 p]] w fun e w' => e = .returned (.bool (NM.right s)) ∧ Below w.heap.size w w' := by
 generalize hR : NM.right s = r at *
 have HR := zh hR; clear hR
 go_enter Tryz.func88, Tryz.ntmps88
 go_wp2_with fail
 refine (right_any _ _).mono ?_
 rintro e w' ⟨rfl, hb⟩
 have HB := zh hb; clear hb
 go_wp2
 go_ret
 exact ⟨ret_eq (bool_eq HR.out), ((zB _ _).alloc (zL _) _).trans (HB.out.mono (by simp))⟩
theorem lexRight_sign (k : Nat) (s : ByteArray) (p : Int) (w : World) (hk : k < 256) (h97 : ¬ k = 97) :
 Calls Tryz.prog 88 #[.agg #[.int .u8 (k : Int), .string s, .int .i64 p]] w fun e w' => e = .returned (.bool (signB k && (decide (s.size = 1) && decide (bt s 0 = k)))) ∧ Below w.heap.size w w' := by
 have hne : ((k : Int) == 97) = false := by rw [beq_eq_false_iff_ne]; omega
 cases hs : signB k
 ·have HS := zh hs; clear hs
  go_enter Tryz.func88, Tryz.ntmps88
  go_wp2_with fail
  go_quiet ((go_at_call 110; exact quiet_same ((sign_any k hk _).mono fun e w' h => by rw [HS.out] at h; exact h)))
  go_wp2
  go_ret
  exact ⟨rfl, bdrewN ((zB _ _).alloc (zL _) _) _⟩
 ·have HS := zh hs; clear hs
  by_cases h1 : s.size = 1
  ·have h0 : 0 < s.size := by omega
   have hb := bt_at (s := s) (i := 0) h0
   rw [hb, zE h1]
   have h1' : ((s.size : Int) == 1) = true := by rw [beq_iff_eq]; omega
   clear h1 hb
   go_enter Tryz.func88, Tryz.ntmps88
   go_wp2_with fail
   go_quiet ((go_at_call 110; exact quiet_same ((sign_any k hk _).mono fun e w' h => by rw [HS.out] at h; exact h)))
   go_wp2
   go_ret
   exact ⟨ret_eq (bool_eq (by rw [Bool.eq_iff_iff]; simp <;> omega)), bdrewN ((zB _ _).alloc (zL _) _) _⟩
  ·rw [zF h1]
   have h1' : ((s.size : Int) == 1) = false := by rw [beq_eq_false_iff_ne]; omega
   clear h1
   go_enter Tryz.func88, Tryz.ntmps88
   go_wp2_with fail
   go_quiet ((go_at_call 110; exact quiet_same ((sign_any k hk _).mono fun e w' h => by rw [HS.out] at h; exact h)))
   go_wp2
   go_ret
   exact ⟨rfl, bdrewN ((zB _ _).alloc (zL _) _) _⟩
theorem lexRight_any (t : Tk) (w : World) (hk : t.k < 256) :
 Calls Tryz.prog 88 #[.agg (tv t)] w fun e w' => e = .returned (.bool (rightT t)) ∧ Below w.heap.size w w' := by
 obtain ⟨k, s, p⟩ := t
 by_cases h97 : k = 97
 ·subst h97
  exact lexRight_word s p w
 ·rw [rightT_sign (t := ⟨k, s, p⟩) h97]
  exact lexRight_sign k s p w hk h97
end
section
open Go.RowKit LX
end
section
open Go.RowKit LX
end
end Go.Proofs.YtmffnkfohmbbeaaGreatDoor
