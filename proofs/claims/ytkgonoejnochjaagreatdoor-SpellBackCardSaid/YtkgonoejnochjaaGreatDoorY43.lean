/- Texts that SpellBackCard need. Conditions: those that each states. -/

import Derived.Test.YtkgonoejnochjaaGreatDoorY38
import Derived.Test.YtkgonoejnochjaaGreatDoorY42
set_option linter.unusedSimpArgs false
set_option linter.unusedVariables false
set_option maxRecDepth 8000
namespace Go.Proofs.YtkgonoejnochjaaGreatDoor
open Go.RowKit RM
section
variable {a b c : Nat}
end
section
variable {t : Bool} {fs : List Fac} {a b c : List Nat}
end
section
variable {t : Bool} {fs : List Fac} {a b : List Nat}
end
end Go.Proofs.YtkgonoejnochjaaGreatDoor
namespace Go.Proofs.YtkgonoejnochjaaGreatDoor
open Go.RowKit RM
section
variable {w w' : World} {A : Option Addr} {fs : List Fac}
end
section
variable {ops : Array Oper} {rest : List Oper} {o : Oper} {a : Act} {w : World} {Q : Exit → Act → World → Prop}
end
section
variable {o : Oper} {a : Act} {S : World → Prop}
theorem take_eqlElem (x y : Operand) (t : TypeId) (ho : o.op = .binOp .eql 34 x y t) (l k : List Nat) (hx : a.eval x = .agg (uv l)) (hy : a.eval y = .agg (uv k)) (hl : EW l) (hk : EW k) :
 ∀ w, S w → (execOp a.eval o).run Tryz.prog w = .ok (.value (.bool (decide (l = k)))) w := by
 intro w _
 unfold execOp
 simp only [ho, hx, hy, Sem.run_bind, Sem.run_pure, run_eqGuard_agg w _ _ _ _ _ _ Tryz.eqGuardType34, Result.andThen_ok, run_eql_elem hl hk w]
end
end Go.Proofs.YtkgonoejnochjaaGreatDoor
namespace Go.Proofs.YtkgonoejnochjaaGreatDoor
open Go.RowKit RM
end Go.Proofs.YtkgonoejnochjaaGreatDoor
namespace Go.Proofs.YtkgonoejnochjaaGreatDoor
open Go.RowKit RM
end Go.Proofs.YtkgonoejnochjaaGreatDoor
namespace Go.Proofs.YtkgonoejnochjaaGreatDoor
open Go.RowKit RM
end Go.Proofs.YtkgonoejnochjaaGreatDoor
namespace Go.Proofs.YtkgonoejnochjaaGreatDoor
open Go.RowKit RM
end Go.Proofs.YtkgonoejnochjaaGreatDoor
namespace Go.Proofs.YtkgonoejnochjaaGreatDoor
open Go.RowKit RM
end Go.Proofs.YtkgonoejnochjaaGreatDoor
namespace Go.Proofs.YtkgonoejnochjaaGreatDoor
open Go.RowKit RM
end Go.Proofs.YtkgonoejnochjaaGreatDoor
namespace Go.Proofs.YtkgonoejnochjaaGreatDoor
namespace LX
def scanF (s : ByteArray) : Nat → Nat → List Tk → Except Nat (List Tk)
 | 0, _, acc => .ok acc
 | n + 1, i, acc =>
   if i < s.size then
     match st s i with
     | .skip => scanF s n (i + 1) acc
     | .stop => .ok acc
     | .bad => .error i
     | .tok k e => scanF s n e (acc ++ [⟨k, sub s i e, (i : Int)⟩])
   else .ok acc
def scan (s : ByteArray) (i : Nat) (acc : List Tk) : Except Nat (List Tk) := scanF s (s.size - i) i acc
theorem takeWhile_le (p : UInt8 → Bool) : ∀ l : List UInt8, (l.takeWhile p).length ≤ l.length
 | [] => Nat.le_refl _
 | a :: l => by
   rw [List.takeWhile_cons]
   split
   ·have := takeWhile_le p l
    simp only [List.length_cons]; omega
   ·simp
theorem drop_at {s : ByteArray} {i : Nat} (h : i < s.size) : ∃ c : UInt8, (lst s).drop i = c :: (lst s).drop (i + 1) ∧ c.toNat = bt s i := by
 have h1 : i < (lst s).length := by rw [lst_length]; exact h
 refine ⟨(lst s)[i], List.drop_eq_getElem_cons h1, ?_⟩
 unfold bt
 rw [List.getD_eq_getElem?_getD, List.getElem?_eq_getElem h1]; rfl
theorem runE_step {s : ByteArray} {i : Nat} (h : i < s.size) (hc : NM.innr (bt s i) = true) : runE s i = runE s (i + 1) := by
 obtain ⟨c, e, hb⟩ := drop_at h
 unfold runE
 rw [e, List.takeWhile_cons]
 have : goes c = true := by unfold goes; rw [hb]; exact hc
 rw [if_pos this, List.length_cons]; omega
theorem runE_ge (s : ByteArray) (i : Nat) : i ≤ runE s i := by unfold runE; omega
theorem runE_le {s : ByteArray} {i : Nat} (h : i ≤ s.size) : runE s i ≤ s.size := by
 unfold runE
 have := takeWhile_le goes ((lst s).drop i)
 rw [List.length_drop, lst_length] at this
 omega
theorem runE_gt {s : ByteArray} {i : Nat} (h : i < s.size) (hc : NM.innr (bt s i) = true) : i < runE s i := by
 rw [runE_step h hc]; have := runE_ge s (i + 1); omega
theorem st_tok {s : ByteArray} {i k e : Nat} (h : i < s.size) (hs : st s i = .tok k e) : i < e ∧ e ≤ s.size := by
 unfold st at hs
 split at hs
 ·cases hs
 ·split at hs
  ·cases hs
  ·split at hs
   ·rename_i hc
    split at hs
    ·injection hs with _ he
     subst he
     exact ⟨runE_gt h hc, runE_le (by omega)⟩
    ·cases hs
   ·split at hs
    ·injection hs with _ he
     omega
    ·cases hs
theorem scanF_more (s : ByteArray) : ∀ (n : Nat) (m i : Nat) (acc : List Tk), s.size - i ≤ n → s.size - i ≤ m → scanF s n i acc = scanF s m i acc
 | 0, m, i, acc, hn, _ => by
   have h : ¬ i < s.size := by omega
   cases m with
   | zero => rfl
   | succ m =>
     show Except.ok acc = scanF s (m + 1) i acc
     rw [scanF, if_neg h]
 | n + 1, 0, i, acc, _, hm => by
   have h : ¬ i < s.size := by omega
   show scanF s (n + 1) i acc = Except.ok acc
   rw [scanF, if_neg h]
 | n + 1, m + 1, i, acc, hn, hm => by
   rw [scanF, scanF]
   by_cases h : i < s.size
   ·rw [if_pos h, if_pos h]
    cases hs : st s i with
    | skip => exact scanF_more s n m (i + 1) acc (by omega) (by omega)
    | stop => rfl
    | bad => rfl
    | tok k e =>
      have := st_tok h hs
      exact scanF_more s n m e _ (by omega) (by omega)
   ·rw [if_neg h, if_neg h]
theorem scan_end {s : ByteArray} {i : Nat} (acc : List Tk) (h : ¬ i < s.size) : scan s i acc = .ok acc := by
 unfold scan
 rw [show s.size - i = 0 by omega]; rfl
theorem scan_at {s : ByteArray} {i : Nat} (acc : List Tk) (h : i < s.size) : scan s i acc = match st s i with
 | .skip => scan s (i + 1) acc
 | .stop => .ok acc
 | .bad => .error i
 | .tok k e => scan s e (acc ++ [⟨k, sub s i e, (i : Int)⟩]) := by
 unfold scan
 obtain ⟨n, hn⟩ : ∃ n, s.size - i = n + 1 := ⟨s.size - i - 1, by omega⟩
 rw [hn, scanF, if_pos h]
 cases hs : st s i with
 | skip => exact scanF_more s _ _ _ _ (by omega) (by omega)
 | stop => rfl
 | bad => rfl
 | tok k e =>
   have := st_tok h hs
   exact scanF_more s _ _ _ _ (by omega) (by omega)
theorem scan_skip {s : ByteArray} {i : Nat} (acc : List Tk) (h : i < s.size) (hs : st s i = .skip) : scan s i acc = scan s (i + 1) acc := by rw [scan_at acc h, hs]
theorem scan_tok {s : ByteArray} {i k e : Nat} (acc : List Tk) (h : i < s.size) (hs : st s i = .tok k e) : scan s i acc = scan s e (acc ++ [⟨k, sub s i e, (i : Int)⟩]) := by rw [scan_at acc h, hs]
theorem innr_not {c : Nat} (h : NM.innr c = true) : blankB c = false ∧ c ≠ 45 ∧ signB c = false := by
 have hc : c ≤ 122 := by
  unfold NM.innr NM.lett at h
  simp only [Bool.or_eq_true, Bool.and_eq_true, decide_eq_true_eq] at h
  omega
 have : ∀ c : Fin 123, NM.innr c.val = true → blankB c.val = false ∧ c.val ≠ 45 ∧ signB c.val = false := by decide
 exact this ⟨c, by omega⟩ h
theorem sign_not {c : Nat} (h : signB c = true) : blankB c = false ∧ c ≠ 45 ∧ NM.innr c = false ∧ c ≠ 97 := by
 have hc : c ∈ signs := by unfold signB at h; exact List.contains_iff_mem.1 h
 have : ∀ c ∈ signs, blankB c = false ∧ c ≠ 45 ∧ NM.innr c = false ∧ c ≠ 97 := by decide
 exact this c hc
theorem st_skip {s : ByteArray} {i : Nat} (h : blankB (bt s i) = true) : st s i = .skip := by unfold st; rw [if_pos h]
theorem st_word {s : ByteArray} {i : Nat} (h : NM.innr (bt s i) = true) (hr : NM.right (sub s i (runE s i)) = true) : st s i = .tok 97 (runE s i) := by
 obtain ⟨h1, h2, _⟩ := innr_not h
 unfold st
 rw [if_neg (by rw [h1]; simp), if_neg (by unfold dash; rw [decide_eq_false h2]; simp), if_pos h, if_pos hr]
theorem st_sign {s : ByteArray} {i : Nat} (h : signB (bt s i) = true) : st s i = .tok (bt s i) (i + 1) := by
 obtain ⟨h1, h2, h3, _⟩ := sign_not h
 unfold st
 rw [if_neg (by rw [h1]; simp), if_neg (by unfold dash; rw [decide_eq_false h2]; simp), if_neg (by rw [h3]; simp), if_pos h]
theorem lst_sub (s : ByteArray) (i e : Nat) : lst (sub s i e) = ((lst s).drop i).take (e - i) := by
 unfold lst sub
 rw [ByteArray.data_extract, Array.toList_extract, List.extract_eq_take_drop]
theorem bt_sub {s : ByteArray} {i e j : Nat} (hj : j < e - i) : bt (sub s i e) j = bt s (i + j) := by
 unfold bt
 rw [lst_sub, List.getD_eq_getElem?_getD, List.getElem?_take, if_pos hj, List.getElem?_drop, ← List.getD_eq_getElem?_getD]
theorem rightT_word {t : Tk} (h : t.k = 97) : rightT t = NM.right t.s := by unfold rightT; rw [if_pos h]
theorem rightT_sign {t : Tk} (h : ¬ t.k = 97) : rightT t = (signB t.k && (decide (t.s.size = 1) && decide (bt t.s 0 = t.k))) := by unfold rightT; rw [if_neg h]
def txt : Bool → List Tk → List UInt8
 | _, [] => []
 | b, t :: l => (if b && decide (t.k = 97) then [32] else []) ++ (lst t.s ++ txt (decide (t.k = 97)) l)
def text (l : List Tk) : ByteArray := ⟨(txt false l).toArray⟩
def like (a b : List Tk) : Bool := decide (a.map (fun t => (t.k, t.s)) = b.map fun t => (t.k, t.s))
theorem txt_like : ∀ (a b : List Tk), a.map (fun t => (t.k, t.s)) = b.map (fun t => (t.k, t.s)) → ∀ p, txt p a = txt p b
 | [], [], _, _ => rfl
 | [], _ :: _, h, _ => by cases h
 | _ :: _, [], h, _ => by cases h
 | t :: a, u :: b, h, p => by
   simp only [List.map_cons, List.cons.injEq, Prod.mk.injEq] at h
   obtain ⟨⟨h1, h2⟩, h3⟩ := h
   rw [txt, txt, h1, h2, txt_like a b h3]
theorem innr_lett {c : Nat} (h : NM.lett c = true) : NM.innr c = true := by unfold NM.innr; rw [h]; rfl
theorem right_bytes {x : ByteArray} (h : NM.right x = true) : 0 < x.size ∧ ∀ c ∈ lst x, goes c = true := by
 unfold NM.right NM.tailOk at h
 simp only [Bool.and_eq_true, decide_eq_true_eq] at h
 obtain ⟨⟨⟨h1, h2⟩, h3⟩, h4⟩ := h
 refine ⟨h1, fun c hc => ?_⟩
 obtain ⟨j, hj, rfl⟩ := List.mem_iff_getElem.1 hc
 have hjs : j < x.size := by rw [lst_length] at hj; exact hj
 have hg : (x.data.toList.getD j 0) = (lst x)[j] := by
  unfold lst at hj ⊢
  rw [List.getD_eq_getElem?_getD, List.getElem?_eq_getElem hj]; rfl
 unfold goes
 by_cases h0 : 1 ≤ j
 ·have := h4 j hjs h0
  rw [hg] at this; exact this
 ·have e : j = 0 := by omega
  subst e
  rw [hg] at h3
  exact innr_lett h3
theorem takeWhile_txt {l : List Tk} (h : ∀ t ∈ l, rightT t = true) : (txt true l).takeWhile goes = [] := by
 cases l with
 | nil => rfl
 | cons t l =>
   have ht := h t (by simp)
   rw [txt]
   by_cases hk : t.k = 97
   ·rw [decide_eq_true hk]
    simp only [Bool.and_self, if_true, List.cons_append, List.nil_append]
    rw [List.takeWhile_cons, if_neg (by decide)]
   ·rw [decide_eq_false hk, Bool.and_false, if_neg (by simp), List.nil_append]
    rw [rightT_sign hk] at ht
    simp only [Bool.and_eq_true, decide_eq_true_eq] at ht
    obtain ⟨hg, h1, hb⟩ := ht
    obtain ⟨c, e, hc⟩ := drop_at (s := t.s) (i := 0) (by omega)
    rw [List.drop_zero] at e
    rw [e, List.cons_append, List.takeWhile_cons, if_neg]
    unfold goes
    rw [hc, hb, (sign_not hg).2.2.1]
    simp
theorem takeWhile_all (p : UInt8 → Bool) : ∀ (a b : List UInt8), (∀ c ∈ a, p c = true) → (a ++ b).takeWhile p = a ++ b.takeWhile p
 | [], _, _ => rfl
 | x :: a, b, h => by
   rw [List.cons_append, List.takeWhile_cons, if_pos (h x (by simp)), takeWhile_all p a b fun c hc => h c (by simp [hc])]; rfl
theorem scan_text {s : ByteArray} : ∀ (l : List Tk) (b : Bool) (i : Nat) (acc : List Tk), (∀ t ∈ l, rightT t = true) → i ≤ s.size → (lst s).drop i = txt b l →
 ∃ m, scan s i acc = .ok (acc ++ m) ∧ m.map (fun t => (t.k, t.s)) = l.map fun t => (t.k, t.s)
 | [], b, i, acc, _, hi, hd => by
   have : s.size ≤ i := by
    have := congrArg List.length hd
    rw [List.length_drop, lst_length] at this
    simp [txt] at this
    omega
   exact ⟨[], by rw [scan_end acc (by omega)]; simp, rfl⟩
 | t :: l, b, i, acc, hr, hi, hd => by
   have ht := hr t (by simp)
   have hrl : ∀ u ∈ l, rightT u = true := fun u hu => hr u (by simp [hu])
   have main : ∀ (i : Nat), i ≤ s.size → (lst s).drop i = lst t.s ++ txt (decide (t.k = 97)) l → ∃ m, scan s i acc = .ok (acc ++ m) ∧ m.map (fun t => (t.k, t.s)) = (t :: l).map fun t => (t.k, t.s) := by
     intro i hi hd
     have hlen : s.size - i = t.s.size + (txt (decide (t.k = 97)) l).length := by
        have := congrArg List.length hd
        rw [List.length_drop, lst_length, List.length_append, lst_length] at this
        exact this
     have hnext : (lst s).drop (i + t.s.size) = txt (decide (t.k = 97)) l := by
        rw [← List.drop_drop, hd, List.drop_append_of_le_length (by rw [lst_length]; omega), List.drop_eq_nil_of_le (by rw [lst_length]; omega), List.nil_append]
     have hsub : sub s i (i + t.s.size) = t.s := by
        apply lst_inj
        rw [lst_sub, hd, show i + t.s.size - i = t.s.size by omega, List.take_append_of_le_length (by rw [lst_length]; omega), List.take_of_length_le (by rw [lst_length]; omega)]
     have fin : ∀ k, st s i = .tok k (i + t.s.size) → k = t.k → i < s.size → ∃ m, scan s i acc = .ok (acc ++ m) ∧ m.map (fun t => (t.k, t.s)) = (t :: l).map fun t => (t.k, t.s) := by
        intro k hst hk hlt
        obtain ⟨m, h1, h2⟩ := scan_text (s := s) l (decide (t.k = 97)) (i + t.s.size) (acc ++ [⟨k, sub s i (i + t.s.size), (i : Int)⟩]) hrl (by omega) hnext
        refine ⟨⟨k, sub s i (i + t.s.size), (i : Int)⟩ :: m, ?_, ?_⟩
        ·rw [scan_tok acc hlt hst, h1]; simp
        ·rw [List.map_cons, List.map_cons, h2, hsub, hk]
     by_cases hk : t.k = 97
     ·have ht2 := ht
      rw [rightT_word hk] at ht2
      obtain ⟨h0, hall⟩ := right_bytes ht2
      have hrun : runE s i = i + t.s.size := by
       unfold runE
       rw [hd, takeWhile_all _ _ _ hall, decide_eq_true hk, takeWhile_txt hrl, List.append_nil, lst_length]
      have hlt : i < s.size := by omega
      have hin : NM.innr (bt s i) = true := by
       obtain ⟨c, e, hc⟩ := drop_at hlt
       rw [← hc]
       have hm : c ∈ lst t.s := by
           have : (lst t.s ++ txt (decide (t.k = 97)) l)[0]? = some c := by rw [← hd, e]; rfl
           rw [List.getElem?_append_left (by rw [lst_length]; exact h0)] at this
           exact List.mem_of_getElem? this
       exact hall c hm
      exact fin 97 (by rw [st_word hin (by rw [hrun, hsub]; exact ht2), hrun]) hk.symm hlt
     ·have ht2 := ht
      rw [rightT_sign hk] at ht2
      simp only [Bool.and_eq_true, decide_eq_true_eq] at ht2
      obtain ⟨hg, h1, hb⟩ := ht2
      have hlt : i < s.size := by omega
      have hbt : bt s i = t.k := by
       rw [← hb, ← hsub, bt_sub (by omega), Nat.add_zero]
      exact fin t.k (by rw [st_sign (by rw [hbt]; exact hg), hbt, h1]) rfl hlt
   rw [txt] at hd
   by_cases hb : (b && decide (t.k = 97)) = true
   ·rw [if_pos hb] at hd
    have hlt : i < s.size := by
        have := congrArg List.length hd
        rw [List.length_drop, lst_length] at this
        simp at this
        omega
    obtain ⟨c, e, hc⟩ := drop_at hlt
    rw [e, List.cons_append, List.nil_append, List.cons.injEq] at hd
    obtain ⟨rfl, hd⟩ := hd
    obtain ⟨m, h1, h2⟩ := main (i + 1) (by omega) hd
    exact ⟨m, by rw [scan_skip acc hlt (st_skip (by rw [← hc]; decide))]; exact h1, h2⟩
   ·rw [if_neg hb, List.nil_append] at hd
    exact main i hi hd
theorem back {l : List Tk} (h : ∀ t ∈ l, rightT t = true) : ∃ m, scan (text l) 0 [] = .ok m ∧ like l m = true ∧ text m = text l := by
 obtain ⟨m, h1, h2⟩ := scan_text (s := text l) l false 0 [] h (by omega) (by rw [List.drop_zero]; rfl)
 refine ⟨m, by rw [h1]; rfl, decide_eq_true h2.symm, ?_⟩
 unfold text
 rw [txt_like m l h2]
end LX
end Go.Proofs.YtkgonoejnochjaaGreatDoor
namespace Go.Proofs.YtkgonoejnochjaaGreatDoor
open Go.RowKit LX
end Go.Proofs.YtkgonoejnochjaaGreatDoor
namespace Go.Proofs.YtkgonoejnochjaaGreatDoor
open Go.RowKit LX
section
variable {w w' : World} {A : Option Addr} {l : List Tk}
end
end Go.Proofs.YtkgonoejnochjaaGreatDoor
namespace Go.Proofs.YtkgonoejnochjaaGreatDoor
open Go.RowKit LX
end Go.Proofs.YtkgonoejnochjaaGreatDoor
namespace Go.Proofs.YtkgonoejnochjaaGreatDoor
open Go.RowKit LX
end Go.Proofs.YtkgonoejnochjaaGreatDoor
namespace Go.Proofs.YtkgonoejnochjaaGreatDoor
namespace TR
open LX
def chr (k : Nat) : ByteArray := ⟨#[k.toUInt8]⟩
end TR
end Go.Proofs.YtkgonoejnochjaaGreatDoor
namespace Go.Proofs.YtkgonoejnochjaaGreatDoor
open Go.RowKit LX TR
section
variable {α : Type} {f : α → List Value} {m : Nat}
end
section
variable {w w' : World} {B B' : Nat} {A : Option Addr} {l : List Tr}
end
section
variable {w w' : World} {ok ok' : Nat → Prop} {A : Option Addr} {cs : List Value}
end
section
variable {w w' : World} {ok ok' : Nat → Prop} {A : Option Addr} {l m : List Tr}
end
end Go.Proofs.YtkgonoejnochjaaGreatDoor
namespace Go.Proofs.YtkgonoejnochjaaGreatDoor
open Go.RowKit LX TR
end Go.Proofs.YtkgonoejnochjaaGreatDoor
namespace Go.Proofs.YtkgonoejnochjaaGreatDoor
namespace TR
open LX
end TR
open Go.RowKit LX TR
end Go.Proofs.YtkgonoejnochjaaGreatDoor
namespace Go.Proofs.YtkgonoejnochjaaGreatDoor
open Go.RowKit LX TR
end Go.Proofs.YtkgonoejnochjaaGreatDoor
namespace Go.Proofs.YtkgonoejnochjaaGreatDoor
open Go.RowKit LX TR
end Go.Proofs.YtkgonoejnochjaaGreatDoor
namespace Go.Proofs.YtkgonoejnochjaaGreatDoor
open Go.RowKit LX TR
end Go.Proofs.YtkgonoejnochjaaGreatDoor
namespace Go.Proofs.YtkgonoejnochjaaGreatDoor
namespace TM
open LX TR
def optR {α : Type} (el : Rdr α) : Rdr (List α) := fun ts e => match ts with
 | [] => .ok ([], [])
 | x :: r => if x.t.k = 124 then .ok ([], x :: r) else someR el (x :: r) e
def setR : Rdr (List Wd) := withinR 123 (optR nameR)
def ruleR : Rdr Nd := fun ts e => bnd (nameR ts e) fun w r => bnd (takeR 58 r e) fun _ r2 => bnd (setR r2 e) fun ws r3 => .ok (nd 6 w.p w.s ws [], r3)
def constR : Nat → Rdr Nd
 | 0 => fun _ _ => .error 0
 | d + 1 => fun ts e => match ts with
   | [] => .error e
   | x :: r =>
     if x.t.k = 97 then .ok (nd 2 x.t.p x.t.s [] [], r)
     else if x.t.k = 123 then bnd (setR (x :: r) e) fun ws r2 => .ok (nd 3 x.t.p e0 ws [], r2)
     else if x.t.k = 40 then bnd (withinR 40 (someR (constR d)) (x :: r) e) fun ks r2 => .ok (nd 4 x.t.p e0 [] ks, r2)
     else if x.t.k = 91 then bnd (withinR 91 (optR ruleR) (x :: r) e) fun ks r2 => .ok (nd 5 x.t.p e0 [] ks, r2)
     else .error x.t.p
def varR : Rdr Nd := fun ts e => bnd (nameR ts e) fun w r => .ok (nd 1 w.p w.s [] [], r)
def atomR (d : Nat) : Rdr Nd := fun ts e => match ts with
 | [] => .error e
 | x :: r => if x.t.k = 35 then bnd (constR d r e) fun n r2 => .ok (nd 7 x.t.p e0 [] [n], r2) else varR (x :: r) e
def labelR : Nat → Rdr Nd
 | 0 => fun _ _ => .error 0
 | d + 1 => fun ts e => match ts with
   | [] => .error e
   | x :: r =>
     if x.t.k = 43 then bnd (withinR 40 (someR (labelR d)) r e) fun ks r2 => .ok (nd 8 x.t.p e0 [] ks, r2)
     else if x.t.k = 38 then bnd (withinR 40 (someR (labelR d)) r e) fun ks r2 => .ok (nd 9 x.t.p e0 [] ks, r2)
     else atomR (d + 1) (x :: r) e
def fieldR (d : Nat) : Rdr Nd := fun ts e => bnd (nameR ts e) fun w r => bnd (takeR 61 r e) fun _ r2 => bnd (atomR d r2 e) fun n r3 => .ok (nd 11 w.p w.s [] [n], r3)
def tailR (ks : List Nd) : Rdr (List Nd × List Wd) := fun ts e => match ts with
 | [] => .ok ((ks, []), [])
 | y :: r => if y.t.k = 124 then bnd (nameR r e) fun w r2 => .ok ((ks, [w]), r2) else .ok ((ks, []), y :: r)
def inrowR (d : Nat) : Rdr (List Nd × List Wd) := fun ts e => bnd (optR (fieldR d) ts e) fun ks r => tailR ks r e
def rowR (d : Nat) : Rdr Nd := fun ts e => match ts with
 | [] => .error e
 | x :: r => if x.t.k = 91 then bnd (withinR 91 (inrowR d) (x :: r) e) fun kw r2 => .ok (nd 10 x.t.p e0 kw.2 kw.1, r2) else varR (x :: r) e
def kindOf (ts : List Tr) (f : Option Int) : Nat := match f, ts with
 | none, x :: _ => x.t.k
 | _, _ => 0
theorem takeR_hit {k : Nat} {x : Tr} {r : List Tr} {e : Int} (h : x.t.k = k) : takeR k (x :: r) e = .ok (x.t, r) := by simp only [takeR]; rw [if_pos h]
section
variable {α β γ : Type} {rd : Rdr α} {l : List Tr} {i e : Int} {f : Option Int} {x : α} {i2 : Int} {f2 : Option Int}
end
section
variable {α : Type} {rd : Rdr α} {l : List Tr} {i e : Int} {f : Option Int} {x : α} {xs : List α} {i2 i3 i4 : Int} {f2 f3 f4 : Option Int} {t : Tk}
end
end TM
end Go.Proofs.YtkgonoejnochjaaGreatDoor
namespace Go.Proofs.YtkgonoejnochjaaGreatDoor
open Go.RowKit LX TR TM
section
variable {b B : Nat} {w w' w2 : World}
end
section
variable {w : World} {b : Nat} {A : Option Addr} {n c : Nat} {i e x y : Int}
end
end Go.Proofs.YtkgonoejnochjaaGreatDoor
namespace Go.Proofs.YtkgonoejnochjaaGreatDoor
open Go.RowKit LX TR TM
end Go.Proofs.YtkgonoejnochjaaGreatDoor
namespace Go.Proofs.YtkgonoejnochjaaGreatDoor
open Go.RowKit LX TR TM
end Go.Proofs.YtkgonoejnochjaaGreatDoor
namespace Go.Proofs.YtkgonoejnochjaaGreatDoor
open Go.RowKit LX TR TM
section
variable {w w' : World} {ok ok' : Nat → Prop} {l m : List Nd} {x : Nd}
end
end Go.Proofs.YtkgonoejnochjaaGreatDoor
namespace Go.Proofs.YtkgonoejnochjaaGreatDoor
open Go.RowKit LX TR TM
end Go.Proofs.YtkgonoejnochjaaGreatDoor
namespace Go.Proofs.YtkgonoejnochjaaGreatDoor
open Go.RowKit LX TR TM
end Go.Proofs.YtkgonoejnochjaaGreatDoor
namespace Go.Proofs.YtkgonoejnochjaaGreatDoor
open Go.RowKit LX TR TM
end Go.Proofs.YtkgonoejnochjaaGreatDoor
namespace Go.Proofs.YtkgonoejnochjaaGreatDoor
namespace TM
open LX TR
def gF (n : Nat) (f : Fl) : Bool := match n with
 | 1 => f.c
 | 2 => f.ru
 | 3 => f.l
 | 4 => f.fi
 | 5 => f.at'
 | 6 => f.r
 | _ => false
theorem fl_mk {k p s A c ws B d ks} : fl (.mk k p s A c ws B d ks) = fl1 k s ws (fls ks) := rfl
theorem of_wrB {ws : List Wd} (h : wrB ws = true) : ∀ w ∈ ws, NM.right w.s = true := by
 unfold wrB at h; rw [List.all_eq_true] at h; exact h
theorem of_flsall {ks : List Nd} {g : Fl → Bool} (h : (fls ks).all g = true) : ∀ y ∈ ks, g (fl y) = true := by
 rw [fls_map, List.all_map, List.all_eq_true] at h; exact h
theorem leaf_of {s : ByteArray} {ws : List Wd} {n : Nat} (h : leafB s ws n = true) : NM.right s = true ∧ ws = [] ∧ n = 0 := by
 simpa [leafB] using h
theorem br_of {s : ByteArray} {ws : List Wd} (h : brB s ws = true) : s = e0 ∧ ws = [] := by
 simpa [brB, e0] using h
theorem fls_none {ks : List Nd} (h : (fls ks).length = 0) : ks = [] := by rw [fls_length] at h; exact List.length_eq_zero_iff.1 h
theorem at_of {k : Int} {p s A c ws B d ks} (ih : ∀ y ∈ ks, (fl y).c = true → W 1 y) (h : atB k s ws (fls ks) = true) : W 5 (.mk k p s A c ws B d ks) := by
 unfold atB at h
 split at h
 ·rename_i hk
  obtain ⟨h1, rfl, h3⟩ := leaf_of h
  obtain rfl := fls_none h3
  subst hk; exact .var h1
 ·split at h
  ·rename_i hk
   simp only [Bool.and_eq_true, decide_eq_true_eq] at h
   obtain ⟨h1, h2, h3⟩ := h
   obtain ⟨rfl, rfl⟩ := br_of h1
   rw [fls_length] at h2
   obtain ⟨y, rfl⟩ := List.length_eq_one_iff.1 h2
   subst hk
   refine .const (ih y (by simp) ?_)
   rw [fls_cons] at h3
   exact h3
  ·cases h
theorem of_fl : ∀ l : List Nd, ∀ x ∈ l, ((fl x).c = true → W 1 x) ∧ ((fl x).ru = true → W 2 x) ∧ ((fl x).l = true → W 3 x) ∧ ((fl x).fi = true → W 4 x) ∧ ((fl x).at' = true → W 5 x) ∧ ((fl x).r = true → W 6 x) := by
 refine ind (by simp) fun k p s A c ws B d ks r h1 h2 x hx => ?_
 rcases List.mem_cons.1 hx with rfl | hx
 ·rw [fl_mk]
  have hat := fun h => at_of (p := p) (A := A) (c := c) (B := B) (d := d) (k := k) (s := s) (ws := ws) (fun y hy => (h1 y hy).1) h
  refine ⟨fun h => ?_, fun h => ?_, fun h => ?_, fun h => ?_, fun h => hat h, fun h => ?_⟩
  ·have h : cB k s ws (fls ks) = true := h
   unfold cB at h
   split at h
   ·rename_i hk
    obtain ⟨h3, rfl, h4⟩ := leaf_of h
    obtain rfl := fls_none h4
    subst hk; exact .point h3
   ·split at h
    ·rename_i hk
     simp only [Bool.and_eq_true, decide_eq_true_eq] at h
     obtain ⟨rfl, h3, h4⟩ := h
     obtain rfl := fls_none h3
     subst hk; exact .set (of_wrB h4)
    ·split at h
     ·rename_i hk
      simp only [Bool.and_eq_true, decide_eq_true_eq] at h
      obtain ⟨h3, h4, h5⟩ := h
      obtain ⟨rfl, rfl⟩ := br_of h3
      subst hk
      rw [fls_length] at h4
      exact .tuple (List.length_pos_iff.1 h4) fun y hy => (h1 y hy).1 (of_flsall h5 y hy)
     ·split at h
      ·rename_i hk
       simp only [Bool.and_eq_true] at h
       obtain ⟨h3, h5⟩ := h
       obtain ⟨rfl, rfl⟩ := br_of h3
       subst hk
       exact .grid fun y hy => (h1 y hy).2.1 (of_flsall h5 y hy)
      ·cases h
  ·have h : ruB k s ws (fls ks).length = true := h
   unfold ruB at h
   simp only [Bool.and_eq_true, decide_eq_true_eq] at h
   obtain ⟨rfl, h3, h4, h5⟩ := h
   obtain rfl := fls_none h4
   exact .rule h3 (of_wrB h5)
  ·have h : lB k s ws (fls ks) = true := h
   unfold lB at h
   split at h
   ·rename_i hk
    simp only [Bool.and_eq_true, decide_eq_true_eq] at h
    obtain ⟨h3, h4, h5⟩ := h
    obtain ⟨rfl, rfl⟩ := br_of h3
    rw [fls_length] at h4
    have h6 : ∀ y ∈ ks, W 3 y := fun y hy => (h1 y hy).2.2.1 (of_flsall h5 y hy)
    rcases hk with rfl | rfl
    ·exact .join (List.length_pos_iff.1 h4) h6
    ·exact .meet (List.length_pos_iff.1 h4) h6
   ·exact .atom (hat h)
  ·have h : fiB k s ws (fls ks) = true := h
   unfold fiB at h
   simp only [Bool.and_eq_true, decide_eq_true_eq] at h
   obtain ⟨rfl, h3, h4, h5, h6⟩ := h
   obtain rfl := List.length_eq_zero_iff.1 h4
   rw [fls_length] at h5
   obtain ⟨y, rfl⟩ := List.length_eq_one_iff.1 h5
   rw [fls_cons] at h6
   exact .field h3 ((h1 y (by simp)).2.2.2.2.1 h6)
  ·have h : rB k s ws (fls ks) = true := h
   unfold rB at h
   split at h
   ·rename_i hk
    obtain ⟨h3, rfl, h4⟩ := leaf_of h
    obtain rfl := fls_none h4
    subst hk; exact .rvar h3
   ·split at h
    ·rename_i hk
     simp only [Bool.and_eq_true, decide_eq_true_eq] at h
     obtain ⟨rfl, h3, h4, h5⟩ := h
     subst hk
     exact .row h3 (of_wrB h4) fun y hy => (h1 y hy).2.2.2.1 (of_flsall h5 y hy)
    ·cases h
 ·exact h2 x hx
theorem w_of {n : Nat} {x : Nd} (h : gF n (fl x) = true) : W n x := by
 have h1 := of_fl [x] x (by simp)
 unfold gF at h
 split at h
 ·exact h1.1 h
 ·exact h1.2.1 h
 ·exact h1.2.2.1 h
 ·exact h1.2.2.2.1 h
 ·exact h1.2.2.2.2.1 h
 ·exact h1.2.2.2.2.2 h
 ·cases h
def kyT (t : Tk) : Ky := (t.k, t.s)
def sg (c : Nat) : Ky := (c, chr c)
def jkt : List (List Ky) → List Ky
 | [] => []
 | x :: r => sg 44 :: (x ++ jkt r)
def jkc : List (List Ky) → List Ky
 | [] => []
 | x :: r => x ++ jkt r
def ky1 (k : Int) (s : ByteArray) (ws ks : List (List Ky)) : List Ky :=
 if k = 1 ∨ k = 2 then [(97, s)]
 else if k = 7 then sg 35 :: ks.headD []
 else if k = 11 then (97, s) :: sg 61 :: ks.headD []
 else if k = 4 then sg 40 :: (jkc ks ++ [sg 41])
 else if k = 8 then sg 43 :: sg 40 :: (jkc ks ++ [sg 41])
 else if k = 9 then sg 38 :: sg 40 :: (jkc ks ++ [sg 41])
 else if k = 5 then sg 91 :: (jkc ks ++ [sg 93])
 else if k = 3 then sg 123 :: (jkc ws ++ [sg 125])
 else if k = 6 then (97, s) :: sg 58 :: sg 123 :: (jkc ws ++ [sg 125])
 else if k = 10 then sg 91 :: ((jkc ks ++ (if ws = [] then [] else sg 124 :: jkc ws)) ++ [sg 93])
 else []
def kw (w : Wd) : List Ky := [(97, w.s)]
def kyn : List Nd → List (List Ky)
 | [] => []
 | .mk k _ s _ _ ws _ _ ks :: r => ky1 k s (ws.map kw) (kyn ks) :: kyn r
def ky (x : Nd) : List Ky := ky1 x.k x.s (x.ws.map kw) (kyn x.ks)
theorem kyn_map (l : List Nd) : kyn l = l.map ky := by
 induction l with
 | nil => simp [kyn]
 | cons x r ih => obtain ⟨k, p, s, A, c, ws, B, d, ks⟩ := x; rw [kyn, ih]; rfl
theorem ky_mk {k p s A c ws B d ks} : ky (.mk k p s A c ws B d ks) = ky1 k s (ws.map kw) (ks.map ky) := by rw [← kyn_map]; rfl
def txk : Bool → List Ky → List UInt8
 | _, [] => []
 | b, t :: l => (if b && decide (t.1 = 97) then [32] else []) ++ (lst t.2 ++ txk (decide (t.1 = 97)) l)
theorem txk_txt : ∀ (l : List Tk) (b : Bool), txt b l = txk b (l.map kyT)
 | [], _ => rfl
 | t :: l, b => by rw [txt, List.map_cons, txk, txk_txt l]; rfl
def nn : List Ky → Prop
 | [] => True
 | u :: _ => u.1 ≠ 97
theorem txk_nn {l : List Ky} (h : nn l) (b : Bool) : txk b l = txk false l := by
 cases l with
 | nil => rfl
 | cons u l =>
   have h' : u.1 ≠ 97 := h
   rw [txk, txk, decide_eq_false h']
   simp
def Ts (a : List Ky) (s : List UInt8) : Prop := ∀ l, txk false (a ++ l) = s ++ txk false l
def Tx (a : List Ky) (s : List UInt8) : Prop := ∀ l, nn l → txk false (a ++ l) = s ++ txk false l
theorem Ts.tx {a s} (h : Ts a s) : Tx a s := fun l _ => h l
theorem Ts.app {a b s t} (h : Ts a s) (h2 : Ts b t) : Ts (a ++ b) (s ++ t) := fun l => by rw [List.append_assoc, h, h2, List.append_assoc]
theorem Ts.appx {a b s t} (h : Ts a s) (h2 : Tx b t) : Tx (a ++ b) (s ++ t) := fun l hl => by rw [List.append_assoc, h, h2 l hl, List.append_assoc]
theorem Tx.apps {a s u b t} (h : Tx a s) (h2 : Ts (u :: b) t) (hu : u.1 ≠ 97) : Ts (a ++ u :: b) (s ++ t) := fun l => by rw [List.append_assoc, h _ (by exact hu), h2, List.append_assoc]
theorem Tx.appx {a s u b t} (h : Tx a s) (h2 : Tx (u :: b) t) (hu : u.1 ≠ 97) : Tx (a ++ u :: b) (s ++ t) := fun l hl => by rw [List.append_assoc, h _ (by exact hu), h2 l hl, List.append_assoc]
theorem ts_sg {c : Nat} (h : c ≠ 97) : Ts [sg c] [c.toUInt8] := fun l => by
 show txk false (sg c :: l) = _
 rw [txk, decide_eq_false (by exact h)]
 rfl
theorem tx_name (s : ByteArray) : Tx [(97, s)] (lst s) := fun l hl => by
 show txk false ((97, s) :: l) = _
 rw [txk, txk_nn hl]
 rfl
theorem ts_nil : Ts [] [] := fun _ => rfl
theorem tx_jkt {α : Type} {g : α → List Ky} {t : α → List UInt8} : ∀ xs : List α, (∀ x ∈ xs, Tx (g x) (t x)) → Tx (jkt (xs.map g)) (jt (xs.map t))
 | [], _ => ts_nil.tx
 | x :: r, h => by
   have h1 := h x (by simp)
   have h2 := tx_jkt r fun y hy => h y (by simp [hy])
   have h3 : Tx (g x ++ jkt (r.map g)) (t x ++ jt (r.map t)) := by
     cases r with
     | nil => simpa [jkt, jt] using h1
     | cons y r => exact h1.appx h2 (by decide)
   exact (ts_sg (c := 44) (by decide)).appx h3
theorem tx_jkc {α : Type} {g : α → List Ky} {t : α → List UInt8} (xs : List α) (h : ∀ x ∈ xs, Tx (g x) (t x)) : Tx (jkc (xs.map g)) (jc (xs.map t)) := by
 cases xs with
 | nil => exact ts_nil.tx
 | cons x r =>
   have h1 := h x (by simp)
   have h2 := tx_jkt r fun y hy => h y (by simp [hy])
   cases r with
   | nil => simpa [jkc, jc, jkt, jt] using h1
   | cons y r => exact h1.appx h2 (by decide)
theorem ts_br {a : List Ky} {s : List UInt8} {c d : Nat} (hc : c ≠ 97) (hd : d ≠ 97) (h : Tx a s) : Ts (sg c :: (a ++ [sg d])) (c.toUInt8 :: (s ++ [d.toUInt8])) :=
 (ts_sg hc).app (h.apps (ts_sg hd) hd)
theorem txs_mk {k p s A c ws B d ks} : tx (.mk k p s A c ws B d ks) = tx1 k (lst s) (ws.map fun x => lst x.s) (ks.map tx) := by rw [← txs_map]; rfl
theorem tx_ws (ws : List Wd) : Tx (jkc (ws.map kw)) (jc (ws.map fun x => lst x.s)) := tx_jkc ws fun x _ => tx_name x.s
theorem w_tx {n : Nat} {x : Nd} (h : W n x) : Tx (ky x) (tx x) := by
 induction h with
 | @point p s A c B d hs => rw [ky_mk, txs_mk]; simp only [ky1, tx1, or_true, if_true]; exact tx_name s
 | @set p A c ws B d hw =>
   rw [ky_mk, txs_mk]
   exact (ts_br (c := 123) (d := 125) (by decide) (by decide) (tx_ws ws)).tx
 | @tuple p A c B d ks hne h ih =>
   rw [ky_mk, txs_mk]
   exact (ts_br (c := 40) (d := 41) (by decide) (by decide) (tx_jkc ks ih)).tx
 | @grid p A c B d ks h ih =>
   rw [ky_mk, txs_mk]
   exact (ts_br (c := 91) (d := 93) (by decide) (by decide) (tx_jkc ks ih)).tx
 | @rule p s A c ws B d hs hw =>
   rw [ky_mk, txs_mk]
   have h1 := (ts_sg (c := 58) (by decide)).app (ts_br (c := 123) (d := 125) (by decide) (by decide) (tx_ws ws))
   exact ((tx_name s).apps h1 (by decide)).tx
 | @var p s A c B d hs => rw [ky_mk, txs_mk]; simp only [ky1, tx1, true_or, if_true]; exact tx_name s
 | @const p A c B d y h ih =>
   rw [ky_mk, txs_mk]
   exact (ts_sg (c := 35) (by decide)).appx ih
 | atom h ih => exact ih
 | @join p A c B d ks hne h ih =>
   rw [ky_mk, txs_mk]
   exact ((ts_sg (c := 43) (by decide)).app (ts_br (c := 40) (d := 41) (by decide) (by decide) (tx_jkc ks ih))).tx
 | @meet p A c B d ks hne h ih =>
   rw [ky_mk, txs_mk]
   exact ((ts_sg (c := 38) (by decide)).app (ts_br (c := 40) (d := 41) (by decide) (by decide) (tx_jkc ks ih))).tx
 | @field p s A c B d y hs h ih =>
   rw [ky_mk, txs_mk]
   exact (tx_name s).appx ((ts_sg (c := 61) (by decide)).appx ih) (by decide)
 | @rvar p s A c B d hs => rw [ky_mk, txs_mk]; simp only [ky1, tx1, true_or, if_true]; exact tx_name s
 | @row p A c ws B d ks h1 hw h ih =>
   rw [ky_mk, txs_mk]
   have h2 := tx_jkc ks ih
   cases ws with
   | nil =>
     have h3 := ts_br (c := 91) (d := 93) (by decide) (by decide) h2
     have e : ky1 10 e0 (List.map kw []) (ks.map ky) = sg 91 :: (jkc (ks.map ky) ++ [sg 93]) := by simp [ky1]
     rw [e]
     exact h3.tx
   | cons w ws =>
     have h3 : Tx (jkc (ks.map ky) ++ sg 124 :: jkc ((w :: ws).map kw)) (jc (ks.map tx) ++ 124 :: jc ((w :: ws).map fun x => lst x.s)) :=
        h2.appx ((ts_sg (c := 124) (by decide)).appx (tx_ws (w :: ws))) (by decide)
     have h4 := (ts_br (c := 91) (d := 93) (by decide) (by decide) h3).tx
     have e : tx1 10 (lst e0) ((w :: ws).map fun x => lst x.s) (ks.map tx) = 91 :: ((jc (ks.map tx) ++ 124 :: jc ((w :: ws).map fun x => lst x.s)) ++ [93]) := by simp [tx1]
     rw [e]
     exact h4
theorem txt_w {n : Nat} {x : Nd} (h : W n x) {m : List Tk} (hm : m.map kyT = ky x) : txt false m = tx x := by
 have h1 := w_tx h [] trivial
 rw [List.append_nil] at h1
 rw [txk_txt, hm, h1]
 simp [txk]
end TM
end Go.Proofs.YtkgonoejnochjaaGreatDoor
namespace Go.Proofs.YtkgonoejnochjaaGreatDoor
namespace TM
open LX TR
def Cmp {α : Type} (rd : Nat → Rdr α) (g : List Ky) (q : α → Prop) : Prop :=
 ∀ m : List Tk, m.map kyT = g → ∃ ts, Spells m ts ∧ ∀ d e r, (nodes ts).length ≤ d → ∃ y, rd d (ts ++ r) e = .ok (y, r) ∧ q y
theorem kcons {m : List Tk} {u : Ky} {g : List Ky} (h : m.map kyT = u :: g) : ∃ t m', m = t :: m' ∧ t.k = u.1 ∧ t.s = u.2 ∧ m'.map kyT = g := by
 cases m with
 | nil => cases h
 | cons t m' =>
   rw [List.map_cons] at h
   injection h with h1 h2
   exact ⟨t, m', rfl, congrArg Prod.fst h1, congrArg Prod.snd h1, h2⟩
theorem knil {m : List Tk} (h : m.map kyT = []) : m = [] := by simpa using h
theorem kapp {m : List Tk} {a b : List Ky} (h : m.map kyT = a ++ b) : ∃ m1 m2, m = m1 ++ m2 ∧ m1.map kyT = a ∧ m2.map kyT = b := by
 obtain ⟨m1, m2, h1, h2, h3⟩ := List.map_eq_append_iff.1 h
 exact ⟨m1, m2, h1, h2, h3⟩
def leafT (t : Tk) : Tr := .mk t none 0 [] t.p
theorem sp_leaf {t : Tk} (h0 : cl t.k = 0) (h1 : cls t.k = false) : Spells [t] [leafT t] := .leaf h0 h1 .nil
theorem sp_cons {t : Tk} {m : List Tk} {ts : List Tr} (h0 : cl t.k = 0) (h1 : cls t.k = false) (h : Spells m ts) : Spells (t :: m) (leafT t :: ts) := .leaf h0 h1 h
theorem sp_head {t : Tk} {m : List Tk} {ts : List Tr} (h : Spells (t :: m) ts) : ∃ x r, ts = x :: r ∧ x.t = t := by
 cases h with
 | leaf h0 h1 h2 => exact ⟨_, _, rfl, rfl⟩
 | node h0 h1 h2 h3 => exact ⟨_, _, rfl, rfl⟩
theorem nodes_app (a b : List Tr) : (nodes (a ++ b)).length = (nodes a).length + (nodes b).length := by rw [nodes_append, List.length_append]
theorem nodes_len (x : Tr) (r : List Tr) : (nodes (x :: r)).length = 1 + (nodes x.ks).length + (nodes r).length := by
 rw [nodes_cons, List.length_cons, List.length_append]; omega
theorem cmp_name (w : Wd) : Cmp (fun _ => nameR) (kw w) (fun v => sw v w = true) := fun m hm => by
 obtain ⟨t, m', rfl, hk, hs, h0⟩ := kcons hm
 obtain rfl := knil h0
 have hk : t.k = 97 := hk
 have hs : t.s = w.s := hs
 refine ⟨[leafT t], sp_leaf (by rw [hk]; rfl) (by rw [hk]; rfl), fun d e r _ => ⟨⟨t.s, t.p⟩, ?_, ?_⟩⟩
 ·show bnd (takeR 97 (leafT t :: r) e) _ = _
  rw [takeR_hit (x := leafT t) hk]; rfl
 ·show decide (t.s = w.s) = true
  exact decide_eq_true hs
theorem moreR_stop0 {α : Type} {el : Rdr α} (n : Nat) {ts : List Tr} {e : Int} (hk : kindOf ts none ≠ 44) : moreR el n ts e = .ok ([], ts) := by
 cases n with
 | zero => rfl
 | succ n =>
   cases ts with
   | nil => rfl
   | cons c r =>
     have h' : ¬ c.t.k = 44 := hk
     simp only [moreR]; rw [if_neg h']
section
variable {α : Type} {rd : Nat → Rdr α} {g : α → List Ky} {f : α → α → Bool}
theorem cmp_more : ∀ xs : List α, (∀ x ∈ xs, Cmp rd (g x) (fun y => f y x = true)) → ∀ m : List Tk, m.map kyT = jkt (xs.map g) →
 ∃ ts, Spells m ts ∧ xs.length ≤ ts.length ∧ ∀ n d e r, xs.length ≤ n → (nodes ts).length ≤ d → kindOf r none ≠ 44 → ∃ ys, moreR (rd d) n (ts ++ r) e = .ok (ys, r) ∧ eqL f ys xs = true
 | [], _, m, hm => by
   obtain rfl := knil hm
   exact ⟨[], .nil, Nat.le_refl _, fun n d e r _ _ hk => ⟨[], moreR_stop0 n hk, rfl⟩⟩
 | x :: xs, h, m, hm => by
   rw [List.map_cons, jkt] at hm
   obtain ⟨c, m0, rfl, hk, _, hm⟩ := kcons hm
   obtain ⟨m1, m2, rfl, h1, h2⟩ := kapp hm
   have hk : c.k = 44 := hk
   obtain ⟨ts1, hs1, hr1⟩ := h x (by simp) m1 h1
   obtain ⟨ts2, hs2, hl2, hr2⟩ := cmp_more xs (fun y hy => h y (by simp [hy])) m2 h2
   have hcl : cl c.k = 0 := by rw [hk]; rfl
   refine ⟨leafT c :: (ts1 ++ ts2), sp_cons hcl (by rw [hk]; rfl) (hs1.append hs2), by simp only [List.length_cons, List.length_append]; omega, fun n d e r hn hd hkr => ?_⟩
   rw [nodes_len, nodes_app] at hd
   obtain ⟨n, rfl⟩ : ∃ k, n = k + 1 := ⟨n - 1, by simp only [List.length_cons] at hn; omega⟩
   obtain ⟨y, hy, hq⟩ := hr1 d e (ts2 ++ r) (by omega)
   obtain ⟨ys, hys, hqs⟩ := hr2 n d e r (by simp only [List.length_cons] at hn; omega) (by omega) hkr
   refine ⟨y :: ys, ?_, by rw [eqL, hq, hqs]; rfl⟩
   rw [List.cons_append, List.append_assoc]
   simp only [moreR]
   rw [if_pos (show (leafT c).t.k = 44 from hk), hy]
   show bnd (moreR (rd d) n (ts2 ++ r) e) _ = _
   rw [hys]; rfl
theorem cmp_some {xs : List α} (hne : xs ≠ []) (h : ∀ x ∈ xs, Cmp rd (g x) (fun y => f y x = true)) (m : List Tk) (hm : m.map kyT = jkc (xs.map g)) :
 ∃ ts, Spells m ts ∧ ∀ d e r, (nodes ts).length ≤ d → kindOf r none ≠ 44 → ∃ ys, someR (rd d) (ts ++ r) e = .ok (ys, r) ∧ eqL f ys xs = true := by
 cases xs with
 | nil => exact absurd rfl hne
 | cons x xs =>
   rw [List.map_cons, jkc] at hm
   obtain ⟨m1, m2, rfl, h1, h2⟩ := kapp hm
   obtain ⟨ts1, hs1, hr1⟩ := h x (by simp) m1 h1
   obtain ⟨ts2, hs2, hl2, hr2⟩ := cmp_more xs (fun y hy => h y (by simp [hy])) m2 h2
   refine ⟨ts1 ++ ts2, hs1.append hs2, fun d e r hd hkr => ?_⟩
   rw [nodes_app] at hd
   obtain ⟨y, hy, hq⟩ := hr1 d e (ts2 ++ r) (by omega)
   obtain ⟨ys, hys, hqs⟩ := hr2 (ts1 ++ ts2 ++ r).length d e r (by simp only [List.length_append]; omega) (by omega) hkr
   refine ⟨y :: ys, ?_, by rw [eqL, hq, hqs]; rfl⟩
   unfold someR
   rw [List.append_assoc] at hys ⊢
   rw [hy]
   show bnd (moreR (rd d) _ (ts2 ++ r) e) _ = _
   rw [hys]; rfl
theorem cmp_opt {xs : List α} (h : ∀ x ∈ xs, Cmp rd (g x) (fun y => f y x = true)) (hh : ∀ x ∈ xs, ∃ u b, g x = u :: b ∧ u.1 ≠ 124) (m : List Tk) (hm : m.map kyT = jkc (xs.map g)) :
 ∃ ts, Spells m ts ∧ ∀ d e r, (nodes ts).length ≤ d → (r = [] ∨ kindOf r none = 124) → ∃ ys, optR (rd d) (ts ++ r) e = .ok (ys, r) ∧ eqL f ys xs = true := by
 cases xs with
 | nil =>
   obtain rfl := knil hm
   refine ⟨[], .nil, fun d e r _ hr => ⟨[], ?_, rfl⟩⟩
   rw [List.nil_append]
   cases r with
   | nil => rfl
   | cons y q =>
     have hk : y.t.k = 124 := hr.elim (fun h => by cases h) (fun h => h)
     simp only [optR]
     rw [if_pos hk]
 | cons x xs =>
   obtain ⟨ts, hs, hr⟩ := cmp_some (by simp) h m hm
   obtain ⟨u, b, hu, h124⟩ := hh x (by simp)
   rw [List.map_cons, jkc, hu, List.cons_append] at hm
   obtain ⟨t, m0, rfl, hk, _, _⟩ := kcons hm
   obtain ⟨z, q, rfl, rfl⟩ := sp_head hs
   refine ⟨z :: q, hs, fun d e r hd hrr => ?_⟩
   have hk44 : kindOf r none ≠ 44 := by
    rcases hrr with rfl | h
    ·decide
    ·rw [h]; decide
   obtain ⟨ys, hys, hq⟩ := hr d e r hd hk44
   refine ⟨ys, ?_, hq⟩
   rw [← hys, List.cons_append]
   simp only [optR]
   rw [if_neg (by rw [hk]; exact h124)]
end
theorem cmp_within {β : Type} {rd : Nat → Rdr β} {a : List Ky} {q : β → Prop} {k : Nat} (hk0 : ¬ cl k = 0)
 (h : ∀ m : List Tk, m.map kyT = a → ∃ ts, Spells m ts ∧ ∀ d e, (nodes ts).length ≤ d → ∃ y, rd d ts e = .ok (y, []) ∧ q y) (m : List Tk) (hm : m.map kyT = sg k :: (a ++ [sg (cl k)])) :
 ∃ x, Spells m [x] ∧ x.t.k = k ∧ ∀ d e r, (nodes x.ks).length ≤ d → ∃ y, withinR k (rd d) (x :: r) e = .ok (y, r) ∧ q y := by
 obtain ⟨t, m0, rfl, hk, _, hm⟩ := kcons hm
 obtain ⟨m1, m2, rfl, h1, h2⟩ := kapp hm
 obtain ⟨c, m3, rfl, hc, _, h3⟩ := kcons h2
 obtain rfl := knil h3
 have hk : t.k = k := hk
 have hc : c.k = cl k := hc
 obtain ⟨ts, hs, hr⟩ := h m1 h1
 refine ⟨.mk t none 0 ts c.p, .node (by rw [hk]; exact hk0) (by rw [hc, hk]) hs .nil, hk, fun d e r hd => ?_⟩
 obtain ⟨y, hy, hq⟩ := hr d c.p hd
 refine ⟨y, ?_, hq⟩
 simp only [withinR]
 rw [if_pos (show (Tr.mk t none 0 ts c.p).t.k = k from hk)]
 show bnd (rd d ts c.p) _ = _
 rw [hy]; rfl
theorem cmp_set {ws : List Wd} (m : List Tk) (hm : m.map kyT = sg 123 :: (jkc (ws.map kw) ++ [sg 125])) :
 ∃ x, Spells m [x] ∧ x.t.k = 123 ∧ ∀ e r, ∃ vs, setR (x :: r) e = .ok (vs, r) ∧ eqL sw vs ws = true := by
 obtain ⟨x, h1, h2, h3⟩ := cmp_within (rd := fun _ => optR nameR) (k := 123) (q := fun vs => eqL sw vs ws = true) (by decide) (fun m hm => by
  obtain ⟨ts, hs, hr⟩ := cmp_opt (rd := fun _ => nameR) (g := kw) (f := sw) (xs := ws) (fun x _ => cmp_name x) (fun x _ => ⟨(97, x.s), [], rfl, show (97 : Nat) ≠ 124 by decide⟩) m hm
  exact ⟨ts, hs, fun d e hd => by have h := hr d e [] hd (.inl rfl); rw [List.append_nil] at h; exact h⟩) m hm
 exact ⟨x, h1, h2, fun e r => h3 _ e r (Nat.le_refl _)⟩
def rdN : Nat → Nat → Rdr Nd
 | 1 => constR
 | 2 => fun _ => ruleR
 | 3 => labelR
 | 4 => fieldR
 | 5 => atomR
 | 6 => rowR
 | _ => fun _ _ _ => .error 0
theorem cmp_var {p : Int} {s : ByteArray} {A c B d0} (m : List Tk) (hm : m.map kyT = [(97, s)]) :
 ∃ x, Spells m [x] ∧ x.t.k = 97 ∧ ∀ e r, ∃ y, varR (x :: r) e = .ok (y, r) ∧ sm y (.mk 1 p s A c [] B d0 []) = true := by
 obtain ⟨t, m', rfl, hk, hs, h0⟩ := kcons hm
 obtain rfl := knil h0
 have hk : t.k = 97 := hk
 have hs : t.s = s := hs
 refine ⟨leafT t, sp_leaf (by rw [hk]; rfl) (by rw [hk]; rfl), hk, fun e r => ⟨nd 1 t.p t.s [] [], ?_, ?_⟩⟩
 ·unfold varR nameR
  rw [takeR_hit (x := leafT t) hk]; rfl
 ·unfold nd; show sm _ _ = true; rw [sm_mk, hs]; simp [eqL]
theorem head_rule {y : Nd} (h : W 2 y) : ∃ u b, ky y = u :: b ∧ u.1 ≠ 124 := by
 cases h; exact ⟨(97, _), _, ky_mk, show (97 : Nat) ≠ 124 by decide⟩
theorem head_field {y : Nd} (h : W 4 y) : ∃ u b, ky y = u :: b ∧ u.1 ≠ 124 := by
 cases h; exact ⟨(97, _), _, ky_mk, show (97 : Nat) ≠ 124 by decide⟩
theorem head_atom {n : Nat} {y : Nd} (h : W n y) (hn : n = 5) : ∃ u b, ky y = u :: b ∧ u.1 ≠ 43 ∧ u.1 ≠ 38 := by
 subst hn
 cases h with
 | var hs => exact ⟨(97, _), [], ky_mk, show (97 : Nat) ≠ 43 by decide, show (97 : Nat) ≠ 38 by decide⟩
 | const h => exact ⟨sg 35, _, ky_mk, show (35 : Nat) ≠ 43 by decide, show (35 : Nat) ≠ 38 by decide⟩
theorem w_cmp {n : Nat} {x : Nd} (h : W n x) : Cmp (rdN n) (ky x) (fun y => sm y x = true) := by
 induction h with
 | @point p s A c B d0 hs =>
   intro m hm
   rw [ky_mk] at hm
   obtain ⟨t, m', rfl, hk, hs, h0⟩ := kcons (u := (97, s)) (g := []) hm
   obtain rfl := knil h0
   have hk : t.k = 97 := hk
   have hs : t.s = s := hs
   refine ⟨[leafT t], sp_leaf (by rw [hk]; rfl) (by rw [hk]; rfl), fun d e r hd => ?_⟩
   rw [nodes_len] at hd
   obtain ⟨d, rfl⟩ : ∃ k, d = k + 1 := ⟨d - 1, by omega⟩
   refine ⟨nd 2 t.p t.s [] [], ?_, ?_⟩
   ·simp only [rdN, List.cons_append, List.nil_append, constR]
    rw [if_pos (show (leafT t).t.k = 97 from hk)]; rfl
   ·unfold nd; show sm _ _ = true; rw [sm_mk, hs]; simp [eqL]
 | @set p A c ws B d0 hw =>
   intro m hm
   rw [ky_mk] at hm
   obtain ⟨x, h1, h2, h3⟩ := cmp_set (ws := ws) m hm
   refine ⟨[x], h1, fun d e r hd => ?_⟩
   rw [nodes_len] at hd
   obtain ⟨d, rfl⟩ : ∃ k, d = k + 1 := ⟨d - 1, by omega⟩
   obtain ⟨vs, hv, hq⟩ := h3 e r
   refine ⟨nd 3 x.t.p e0 vs [], ?_, ?_⟩
   ·simp only [rdN, List.cons_append, List.nil_append, constR]
    rw [if_neg (by rw [h2]; decide), if_pos h2, hv]; rfl
   ·unfold nd; show sm _ _ = true; rw [sm_mk, hq]; simp [eqL]
 | @tuple p A c B d0 ks hne h ih =>
   intro m hm
   rw [ky_mk] at hm
   obtain ⟨x, h1, h2, h3⟩ := cmp_within (rd := fun d => someR (constR d)) (k := 40) (a := jkc (ks.map ky)) (q := fun ys => eqL sm ys ks = true) (by decide) (fun m hm => by
    obtain ⟨ts, hs, hr⟩ := cmp_some (rd := constR) (g := ky) (f := sm) hne ih m hm
    exact ⟨ts, hs, fun d e hd => by have h := hr d e [] hd (by decide); rw [List.append_nil] at h; exact h⟩) m hm
   refine ⟨[x], h1, fun d e r hd => ?_⟩
   rw [nodes_len] at hd
   obtain ⟨d, rfl⟩ : ∃ k, d = k + 1 := ⟨d - 1, by omega⟩
   obtain ⟨ys, hv, hq⟩ := h3 d e r (by omega)
   refine ⟨nd 4 x.t.p e0 [] ys, ?_, ?_⟩
   ·simp only [rdN, List.cons_append, List.nil_append, constR]
    rw [if_neg (by rw [h2]; decide), if_neg (by rw [h2]; decide), if_pos h2, hv]; rfl
   ·unfold nd; show sm _ _ = true; rw [sm_mk, hq]; simp [eqL]
 | @grid p A c B d0 ks h ih =>
   intro m hm
   rw [ky_mk] at hm
   obtain ⟨x, h1, h2, h3⟩ := cmp_within (rd := fun _ => optR ruleR) (k := 91) (a := jkc (ks.map ky)) (q := fun ys => eqL sm ys ks = true) (by decide) (fun m hm => by
    obtain ⟨ts, hs, hr⟩ := cmp_opt (rd := fun _ => ruleR) (g := ky) (f := sm) ih (fun y hy => head_rule (h y hy)) m hm
    exact ⟨ts, hs, fun d e hd => by have h := hr d e [] hd (.inl rfl); rw [List.append_nil] at h; exact h⟩) m hm
   refine ⟨[x], h1, fun d e r hd => ?_⟩
   rw [nodes_len] at hd
   obtain ⟨d, rfl⟩ : ∃ k, d = k + 1 := ⟨d - 1, by omega⟩
   obtain ⟨ys, hv, hq⟩ := h3 d e r (by omega)
   refine ⟨nd 5 x.t.p e0 [] ys, ?_, ?_⟩
   ·simp only [rdN, List.cons_append, List.nil_append, constR]
    rw [if_neg (by rw [h2]; decide), if_neg (by rw [h2]; decide), if_neg (by rw [h2]; decide), if_pos h2, hv]; rfl
   ·unfold nd; show sm _ _ = true; rw [sm_mk, hq]; simp [eqL]
 | @rule p s A c ws B d0 hs hw =>
   intro m hm
   rw [ky_mk] at hm
   obtain ⟨t, m0, rfl, hk, hts, hm⟩ := kcons (u := (97, s)) (g := sg 58 :: sg 123 :: (jkc (ws.map kw) ++ [sg 125])) hm
   obtain ⟨c2, m1, rfl, hk2, _, hm⟩ := kcons hm
   obtain ⟨x, h1, h2, h3⟩ := cmp_set (ws := ws) m1 hm
   have hk : t.k = 97 := hk
   have hts : t.s = s := hts
   have hk2 : c2.k = 58 := hk2
   refine ⟨leafT t :: leafT c2 :: [x], sp_cons (by rw [hk]; rfl) (by rw [hk]; rfl) (sp_cons (by rw [hk2]; rfl) (by rw [hk2]; rfl) h1), fun d e r hd => ?_⟩
   obtain ⟨vs, hv, hq⟩ := h3 e r
   refine ⟨nd 6 t.p t.s vs [], ?_, ?_⟩
   ·simp only [rdN, List.cons_append, List.nil_append]
    unfold ruleR nameR
    rw [takeR_hit (x := leafT t) hk]
    show bnd (takeR 58 (leafT c2 :: x :: r) e) _ = _
    rw [takeR_hit (x := leafT c2) hk2]
    show bnd (setR (x :: r) e) _ = _
    rw [hv]; rfl
   ·unfold nd; show sm _ _ = true; rw [sm_mk, hq, hts]; simp [eqL]
 | @var p s A c B d0 hs =>
   intro m hm
   rw [ky_mk] at hm
   obtain ⟨x, h1, h2, h3⟩ := cmp_var (p := p) (s := s) (A := A) (c := c) (B := B) (d0 := d0) m hm
   refine ⟨[x], h1, fun d e r hd => ?_⟩
   obtain ⟨y, hy, hq⟩ := h3 e r
   refine ⟨y, ?_, hq⟩
   simp only [rdN, List.cons_append, List.nil_append, atomR]
   rw [if_neg (by rw [h2]; decide)]; exact hy
 | @const p A c B d0 z h ih =>
   intro m hm
   rw [ky_mk] at hm
   obtain ⟨t, m0, rfl, hk, _, hm⟩ := kcons (u := sg 35) (g := ky z) hm
   have hk : t.k = 35 := hk
   obtain ⟨ts, hs, hr⟩ := ih m0 hm
   refine ⟨leafT t :: ts, sp_cons (by rw [hk]; rfl) (by rw [hk]; rfl) hs, fun d e r hd => ?_⟩
   rw [nodes_len] at hd
   obtain ⟨y, hy, hq⟩ := hr d e r (by omega)
   have hy : constR d (ts ++ r) e = .ok (y, r) := hy
   refine ⟨nd 7 t.p e0 [] [y], ?_, ?_⟩
   ·simp only [rdN, List.cons_append, atomR]
    rw [if_pos (show (leafT t).t.k = 35 from hk), hy]; rfl
   ·unfold nd; show sm _ _ = true; rw [sm_mk]; simp [eqL, hq]
 | @atom x h ih =>
   intro m hm
   obtain ⟨ts, hs, hr⟩ := ih m hm
   obtain ⟨u, b, hu, h43, h38⟩ := head_atom h rfl
   rw [hu] at hm
   obtain ⟨t, m0, rfl, hk, _, _⟩ := kcons hm
   obtain ⟨z, q, rfl, rfl⟩ := sp_head hs
   refine ⟨z :: q, hs, fun d e r hd => ?_⟩
   have hd' := hd
   rw [nodes_len] at hd'
   obtain ⟨d, rfl⟩ : ∃ k, d = k + 1 := ⟨d - 1, by omega⟩
   obtain ⟨y, hy, hq⟩ := hr (d + 1) e r hd
   refine ⟨y, ?_, hq⟩
   have hy : atomR (d + 1) (z :: q ++ r) e = .ok (y, r) := hy
   rw [← hy]
   simp only [rdN, List.cons_append, labelR]
   rw [if_neg (by rw [hk]; exact h43), if_neg (by rw [hk]; exact h38)]
 | @join p A c B d0 ks hne h ih =>
   intro m hm
   rw [ky_mk] at hm
   obtain ⟨t, m0, rfl, hk, _, hm⟩ := kcons (u := sg 43) (g := sg 40 :: (jkc (ks.map ky) ++ [sg 41])) hm
   have hk : t.k = 43 := hk
   obtain ⟨x, h1, h2, h3⟩ := cmp_within (rd := fun d => someR (labelR d)) (k := 40) (a := jkc (ks.map ky)) (q := fun ys => eqL sm ys ks = true) (by decide) (fun m hm => by
    obtain ⟨ts, hs, hr⟩ := cmp_some (rd := labelR) (g := ky) (f := sm) hne ih m hm
    exact ⟨ts, hs, fun d e hd => by have h := hr d e [] hd (by decide); rw [List.append_nil] at h; exact h⟩) m0 hm
   refine ⟨leafT t :: [x], sp_cons (by rw [hk]; rfl) (by rw [hk]; rfl) h1, fun d e r hd => ?_⟩
   rw [nodes_len, nodes_len] at hd
   obtain ⟨d, rfl⟩ : ∃ k, d = k + 1 := ⟨d - 1, by omega⟩
   obtain ⟨ys, hv, hq⟩ := h3 d e r (by omega)
   refine ⟨nd 8 t.p e0 [] ys, ?_, ?_⟩
   ·simp only [rdN, List.cons_append, List.nil_append, labelR]
    rw [if_pos (show (leafT t).t.k = 43 from hk), hv]; rfl
   ·unfold nd; show sm _ _ = true; rw [sm_mk, hq]; simp [eqL]
 | @meet p A c B d0 ks hne h ih =>
   intro m hm
   rw [ky_mk] at hm
   obtain ⟨t, m0, rfl, hk, _, hm⟩ := kcons (u := sg 38) (g := sg 40 :: (jkc (ks.map ky) ++ [sg 41])) hm
   have hk : t.k = 38 := hk
   obtain ⟨x, h1, h2, h3⟩ := cmp_within (rd := fun d => someR (labelR d)) (k := 40) (a := jkc (ks.map ky)) (q := fun ys => eqL sm ys ks = true) (by decide) (fun m hm => by
    obtain ⟨ts, hs, hr⟩ := cmp_some (rd := labelR) (g := ky) (f := sm) hne ih m hm
    exact ⟨ts, hs, fun d e hd => by have h := hr d e [] hd (by decide); rw [List.append_nil] at h; exact h⟩) m0 hm
   refine ⟨leafT t :: [x], sp_cons (by rw [hk]; rfl) (by rw [hk]; rfl) h1, fun d e r hd => ?_⟩
   rw [nodes_len, nodes_len] at hd
   obtain ⟨d, rfl⟩ : ∃ k, d = k + 1 := ⟨d - 1, by omega⟩
   obtain ⟨ys, hv, hq⟩ := h3 d e r (by omega)
   refine ⟨nd 9 t.p e0 [] ys, ?_, ?_⟩
   ·simp only [rdN, List.cons_append, List.nil_append, labelR]
    rw [if_neg (show ¬ (leafT t).t.k = 43 from by rw [show (leafT t).t.k = 38 from hk]; decide), if_pos (show (leafT t).t.k = 38 from hk), hv]; rfl
   ·unfold nd; show sm _ _ = true; rw [sm_mk, hq]; simp [eqL]
 | @field p s A c B d0 z hs h ih =>
   intro m hm
   rw [ky_mk] at hm
   obtain ⟨t, m0, rfl, hk, hts, hm⟩ := kcons (u := (97, s)) (g := sg 61 :: ky z) hm
   obtain ⟨c2, m1, rfl, hk2, _, hm⟩ := kcons hm
   have hk : t.k = 97 := hk
   have hts : t.s = s := hts
   have hk2 : c2.k = 61 := hk2
   obtain ⟨ts, hsp, hr⟩ := ih m1 hm
   refine ⟨leafT t :: leafT c2 :: ts, sp_cons (by rw [hk]; rfl) (by rw [hk]; rfl) (sp_cons (by rw [hk2]; rfl) (by rw [hk2]; rfl) hsp), fun d e r hd => ?_⟩
   rw [nodes_len, nodes_len] at hd
   obtain ⟨y, hy, hq⟩ := hr d e r (by omega)
   have hy : atomR d (ts ++ r) e = .ok (y, r) := hy
   refine ⟨nd 11 t.p t.s [] [y], ?_, ?_⟩
   ·simp only [rdN, List.cons_append]
    unfold fieldR nameR
    rw [takeR_hit (x := leafT t) hk]
    show bnd (takeR 61 (leafT c2 :: (ts ++ r)) e) _ = _
    rw [takeR_hit (x := leafT c2) hk2]
    show bnd (atomR d (ts ++ r) e) _ = _
    rw [hy]; rfl
   ·unfold nd; show sm _ _ = true; rw [sm_mk, hts]; simp [eqL, hq]
 | @rvar p s A c B d0 hs =>
   intro m hm
   rw [ky_mk] at hm
   obtain ⟨x, h1, h2, h3⟩ := cmp_var (p := p) (s := s) (A := A) (c := c) (B := B) (d0 := d0) m hm
   refine ⟨[x], h1, fun d e r hd => ?_⟩
   obtain ⟨y, hy, hq⟩ := h3 e r
   refine ⟨y, ?_, hq⟩
   simp only [rdN, List.cons_append, List.nil_append, rowR]
   rw [if_neg (by rw [h2]; decide)]; exact hy
 | @row p A c ws B d0 ks hl hw h ih =>
   intro m hm
   rw [ky_mk] at hm
   obtain ⟨x, h1, h2, h3⟩ := cmp_within (rd := inrowR) (k := 91) (a := jkc (ks.map ky) ++ (if ws.map kw = [] then [] else sg 124 :: jkc (ws.map kw))) (q := fun ab => eqL sm ab.1 ks = true ∧ eqL sw ab.2 ws = true) (by decide) (fun m hm => by
    obtain ⟨m1, m2, rfl, hm1, hm2⟩ := kapp hm
    obtain ⟨ts, hs, hr⟩ := cmp_opt (rd := fieldR) (g := ky) (f := sm) ih (fun y hy => head_field (h y hy)) m1 hm1
    match ws, hl, hm2 with
    | [], _, hm2 =>
      obtain rfl := knil (by simpa using hm2)
      rw [List.append_nil]
      refine ⟨ts, hs, fun d e hd => ?_⟩
      obtain ⟨ys, hy, hq⟩ := hr d e [] hd (.inl rfl)
      rw [List.append_nil] at hy
      exact ⟨(ys, []), by unfold inrowR; rw [hy]; rfl, hq, rfl⟩
    | [w], _, hm2 =>
      have hm2 : m2.map kyT = sg 124 :: [(97, w.s)] := by simpa [jkc, jkt, kw] using hm2
      obtain ⟨t, m3, rfl, hk, _, hm3⟩ := kcons hm2
      obtain ⟨t2, m4, rfl, hk2, hs2, hm4⟩ := kcons hm3
      obtain rfl := knil hm4
      have hk : t.k = 124 := hk
      have hk2 : t2.k = 97 := hk2
      have hs2 : t2.s = w.s := hs2
      refine ⟨ts ++ [leafT t, leafT t2], hs.append (sp_cons (by rw [hk]; rfl) (by rw [hk]; rfl) (sp_leaf (by rw [hk2]; rfl) (by rw [hk2]; rfl))), fun d e hd => ?_⟩
      rw [nodes_app] at hd
      obtain ⟨ys, hy, hq⟩ := hr d e [leafT t, leafT t2] (by omega) (.inr hk)
      refine ⟨(ys, [⟨t2.s, t2.p⟩]), ?_, hq, ?_⟩
      ·unfold inrowR
       rw [hy]
       show tailR ys [leafT t, leafT t2] e = _
       simp only [tailR]
       rw [if_pos (show (leafT t).t.k = 124 from hk)]
       unfold nameR
       rw [takeR_hit (x := leafT t2) hk2]; rfl
      ·simp [eqL, sw, hs2]
    | _ :: _ :: _, hl, _ => simp at hl) m hm
   refine ⟨[x], h1, fun d e r hd => ?_⟩
   rw [nodes_len] at hd
   obtain ⟨ab, hv, hq1, hq2⟩ := h3 d e r (by omega)
   refine ⟨nd 10 x.t.p e0 ab.2 ab.1, ?_, ?_⟩
   ·simp only [rdN, List.cons_append, List.nil_append, rowR]
    rw [if_pos h2, hv]; rfl
   ·unfold nd; show sm _ _ = true; rw [sm_mk, hq1, hq2]; simp
end TM
end Go.Proofs.YtkgonoejnochjaaGreatDoor
namespace Go.Proofs.YtkgonoejnochjaaGreatDoor
namespace SP
open TM LX TR
def stopT (r : List Tk) : Prop := ∀ c r', r = c :: r' → cls c.k = true ∧ cl c.k = 0
theorem stop_cl {t c : Tk} {r : List Tk} (h : ¬ cl t.k = 0) (hc : c.k = cl t.k) : stopT (c :: r) := by
 intro c' r' e
 injection e with e1 _
 subst e1
 rw [hc]
 generalize t.k = k at *
 unfold cl at h ⊢
 by_cases h1 : k = 40
 ·rw [if_pos h1]; exact ⟨rfl, rfl⟩
 ·rw [if_neg h1] at h ⊢
  by_cases h2 : k = 123
  ·rw [if_pos h2]; exact ⟨rfl, rfl⟩
  ·rw [if_neg h2] at h ⊢
   by_cases h3 : k = 91
   ·rw [if_pos h3]; exact ⟨rfl, rfl⟩
   ·rw [if_neg h3] at h
    exact absurd rfl h
theorem spells_pref {s : List Tk} {ts : List Tr} (h : Spells s ts) : ∀ {s' : List Tk} {ts' : List Tr} {r r' : List Tk}, Spells s' ts' → stopT r → stopT r' → s ++ r = s' ++ r' → ts = ts' ∧ r = r' := by
 induction h with
 | nil =>
   intro s' ts' r r' h' hr hr' he
   cases h' with
   | nil => exact ⟨rfl, he⟩
   | leaf h0 h1 _ =>
     have := (hr _ _ he).1
     rw [h1] at this
     cases this
   | node h0 _ _ _ => exact absurd (hr _ _ he).2 h0
 | leaf h0 h1 hl ih =>
   intro s' ts' r r' h' hr hr' he
   cases h' with
   | nil =>
     have := (hr' _ _ he.symm).1
     rw [h1] at this
     cases this
   | leaf h2 h3 hl' =>
     injection he with e1 e2
     subst e1
     obtain ⟨e3, e4⟩ := ih hl' hr hr' e2
     subst e3
     exact ⟨rfl, e4⟩
   | node h2 _ _ _ =>
     injection he with e1 e2
     subst e1
     exact absurd h0 h2
 | node h0 hc hk hl ih1 ih2 =>
   intro s' ts' r r' h' hr hr' he
   cases h' with
   | nil => exact absurd (hr' _ _ he.symm).2 h0
   | leaf h2 h3 hl' =>
     injection he with e1 e2
     subst e1
     exact absurd h2 h0
   | node h2 hc' hk' hl' =>
     injection he with e1 e2
     subst e1
     simp only [List.append_eq, List.append_assoc, List.cons_append] at e2
     obtain ⟨e3, e4⟩ := ih1 hk' (stop_cl h0 hc) (stop_cl h0 hc') e2
     injection e4 with e5 e6
     obtain ⟨e7, e8⟩ := ih2 hl' hr hr' e6
     subst e3 e5 e7
     exact ⟨rfl, e8⟩
theorem spells_one {s : List Tk} {ts us : List Tr} (h : Spells s ts) (h2 : Spells s us) : ts = us :=
 (spells_pref (r := []) (r' := []) h h2 (fun _ _ e => by cases e) (fun _ _ e => by cases e) rfl).1
end SP
end Go.Proofs.YtkgonoejnochjaaGreatDoor
namespace Go.Proofs.YtkgonoejnochjaaGreatDoor
namespace TM
open LX TR
def rightK (u : Ky) : Bool := rightT ⟨u.1, u.2, 0⟩
theorem rightK_name {s : ByteArray} (h : NM.right s = true) : rightK (97, s) = true := h
section
variable {α : Type} {g : α → List Ky}
theorem mem_jkt {u : Ky} : ∀ xs : List α, u ∈ jkt (xs.map g) → u = sg 44 ∨ ∃ x ∈ xs, u ∈ g x
 | [], h => by simp [jkt] at h
 | x :: xs, h => by
   rw [List.map_cons, jkt] at h
   rcases List.mem_cons.1 h with h | h
   ·exact .inl h
   ·rcases List.mem_append.1 h with h | h
    ·exact .inr ⟨x, by simp, h⟩
    ·rcases mem_jkt xs h with h | ⟨y, hy, h⟩
     ·exact .inl h
     ·exact .inr ⟨y, by simp [hy], h⟩
theorem mem_jkc {u : Ky} (xs : List α) (h : u ∈ jkc (xs.map g)) : u = sg 44 ∨ ∃ x ∈ xs, u ∈ g x := by
 cases xs with
 | nil => simp [jkc] at h
 | cons x xs =>
   rw [List.map_cons, jkc] at h
   rcases List.mem_append.1 h with h | h
   ·exact .inr ⟨x, by simp, h⟩
   ·rcases mem_jkt xs h with h | ⟨y, hy, h⟩
    ·exact .inl h
    ·exact .inr ⟨y, by simp [hy], h⟩
theorem right_list (xs : List α) (h : ∀ x ∈ xs, ∀ u ∈ g x, rightK u = true) : ∀ u ∈ jkc (xs.map g), rightK u = true := fun u hu => by
 rcases mem_jkc xs hu with rfl | ⟨x, hx, hu⟩
 ·rfl
 ·exact h x hx u hu
end
theorem right_br {a : List Ky} {c d : Nat} (hc : rightK (sg c) = true) (hd : rightK (sg d) = true) (h : ∀ u ∈ a, rightK u = true) : ∀ u ∈ sg c :: (a ++ [sg d]), rightK u = true := fun u hu => by
 rcases List.mem_cons.1 hu with rfl | hu
 ·exact hc
 ·rcases List.mem_append.1 hu with hu | hu
  ·exact h u hu
  ·rw [List.mem_singleton.1 hu]; exact hd
theorem right_cons {a : List Ky} {c : Ky} (hc : rightK c = true) (h : ∀ u ∈ a, rightK u = true) : ∀ u ∈ c :: a, rightK u = true := fun u hu => by
 rcases List.mem_cons.1 hu with rfl | hu
 ·exact hc
 ·exact h u hu
theorem right_app {a b : List Ky} (h : ∀ u ∈ a, rightK u = true) (h2 : ∀ u ∈ b, rightK u = true) : ∀ u ∈ a ++ b, rightK u = true := fun u hu => (List.mem_append.1 hu).elim (h u) (h2 u)
theorem right_nil : ∀ u ∈ ([] : List Ky), rightK u = true := fun u hu => by cases hu
theorem right_ws {ws : List Wd} (h : ∀ w ∈ ws, NM.right w.s = true) : ∀ u ∈ jkc (ws.map kw), rightK u = true := right_list ws fun w hw u hu => by
 obtain rfl : u = (97, w.s) := by simpa [kw] using hu
 exact rightK_name (h w hw)
theorem w_right {n : Nat} {x : Nd} (h : W n x) : ∀ u ∈ ky x, rightK u = true := by
 induction h with
 | @point p s A c B d hs => rw [ky_mk]; exact right_cons (rightK_name hs) right_nil
 | @set p A c ws B d hw => rw [ky_mk]; exact right_br (c := 123) (d := 125) rfl rfl (right_ws hw)
 | @tuple p A c B d ks hne h ih => rw [ky_mk]; exact right_br (c := 40) (d := 41) rfl rfl (right_list ks ih)
 | @grid p A c B d ks h ih => rw [ky_mk]; exact right_br (c := 91) (d := 93) rfl rfl (right_list ks ih)
 | @rule p s A c ws B d hs hw => rw [ky_mk]; exact right_cons (c := (97, s)) (rightK_name hs) (right_cons (c := sg 58) rfl (right_br (c := 123) (d := 125) rfl rfl (right_ws hw)))
 | @var p s A c B d hs => rw [ky_mk]; exact right_cons (rightK_name hs) right_nil
 | @const p A c B d y h ih => rw [ky_mk]; exact right_cons (c := sg 35) rfl ih
 | atom h ih => exact ih
 | @join p A c B d ks hne h ih => rw [ky_mk]; exact right_cons (c := sg 43) rfl (right_br (c := 40) (d := 41) rfl rfl (right_list ks ih))
 | @meet p A c B d ks hne h ih => rw [ky_mk]; exact right_cons (c := sg 38) rfl (right_br (c := 40) (d := 41) rfl rfl (right_list ks ih))
 | @field p s A c B d y hs h ih => rw [ky_mk]; exact right_cons (c := (97, s)) (rightK_name hs) (right_cons (c := sg 61) rfl ih)
 | @rvar p s A c B d hs => rw [ky_mk]; exact right_cons (rightK_name hs) right_nil
 | @row p A c ws B d ks h1 hw h ih =>
   rw [ky_mk]
   refine right_br (a := jkc (ks.map ky) ++ (if ws.map kw = [] then [] else sg 124 :: jkc (ws.map kw))) (c := 91) (d := 93) rfl rfl (right_app (right_list ks ih) ?_)
   split
   ·exact right_nil
   ·exact right_cons (c := sg 124) rfl (right_ws hw)
def tksOf (l : List Ky) : List Tk := l.map fun u => ⟨u.1, u.2, 0⟩
theorem tksOf_ky (l : List Ky) : (tksOf l).map kyT = l := by
 unfold tksOf
 rw [List.map_map]
 exact List.map_id' l
theorem w_scan {k : Nat} {n : Nd} (h : W k n) : ∃ R, scan (text10 n) 0 [] = .ok R ∧ R.map kyT = ky n := by
 have h1 : text (tksOf (ky n)) = text10 n := by
  unfold text text10
  rw [txt_w h (tksOf_ky _)]
 obtain ⟨m, h2, h3, _⟩ := back (l := tksOf (ky n)) fun t ht => by
  obtain ⟨u, hu, rfl⟩ := List.mem_map.1 ht
  exact w_right h u hu
 rw [h1] at h2
 refine ⟨m, h2, ?_⟩
 have h4 : (tksOf (ky n)).map (fun t => (t.k, t.s)) = m.map fun t => (t.k, t.s) := of_decide_eq_true h3
 have h5 : m.map kyT = (tksOf (ky n)).map kyT := h4.symm
 rw [h5, tksOf_ky]
end TM
end Go.Proofs.YtkgonoejnochjaaGreatDoor

