/-
  The text of tokens, by the program and by the document. Conditions: a text below 2^32 bytes.
-/
import Derived.Test.YtfhmdambdkmmgaaLexD
import Derived.Test.YtfhmdambdkmmgaaStrB
namespace Go.Proofs.Ytfhmdambdkmmgaa
open Go.RowKit LX

namespace LX
def lw (b : Bool) : List Tk → Bool
  | [] => b
  | t :: l => lw (decide (t.k = 97)) l
theorem txt_app : ∀ (l m : List Tk) (b : Bool), txt b (l ++ m) = txt b l ++ txt (lw b l) m
  | [], _, _ => rfl
  | t :: l, m, b => by rw [List.cons_append, txt, txt, txt_app l m, lw]; simp
theorem lw_snoc : ∀ (l : List Tk) (b : Bool) (t : Tk), lw b (l ++ [t]) = decide (t.k = 97)
  | [], _, _ => rfl
  | u :: l, b, t => by rw [List.cons_append, lw, lw_snoc l]
def sepB (l : List Tk) (i : Nat) : Bool := decide (0 < i) && (decide ((l.getD (i - 1) t0).k = 97) && decide ((l.getD i t0).k = 97))
theorem take_snoc {l : List Tk} {i : Nat} (h : i < l.length) : l.take (i + 1) = l.take i ++ [l.getD i t0] := by
  rw [List.take_succ_eq_append_getElem h, List.getD_eq_getElem?_getD, List.getElem?_eq_getElem h]; rfl
theorem txt_take {l : List Tk} {i : Nat} (h : i < l.length) : txt false (l.take (i + 1)) = txt false (l.take i) ++ ((if sepB l i = true then [32] else []) ++ lst (l.getD i t0).s) := by
  rw [take_snoc h, txt_app]
  congr 1
  have hw : (lw false (l.take i) && decide ((l.getD i t0).k = 97)) = sepB l i := by
    unfold sepB
    by_cases h0 : 0 < i
    · obtain ⟨j, rfl⟩ : ∃ j, i = j + 1 := ⟨i - 1, by omega⟩
      rw [take_snoc (by omega), lw_snoc, decide_eq_true h0, Bool.true_and, Nat.add_sub_cancel]
    · have : i = 0 := by omega
      subst this
      rfl
  rw [txt, hw, txt]; simp
theorem txt_le (l : List Tk) (i : Nat) : (txt false (l.take i)).length ≤ (txt false l).length := by
  conv => rhs; rw [← List.take_append_drop i l, txt_app]
  rw [List.length_append]; omega
theorem app_eq (x : List UInt8) (s : ByteArray) : (⟨x.toArray⟩ : ByteArray) ++ s = ⟨(x ++ lst s).toArray⟩ := by
  cases s
  simp [lst, ← ByteArray.append_eq]
  rfl
theorem mk_size (x : List UInt8) : (⟨x.toArray⟩ : ByteArray).size = x.length := rfl
theorem is97 (k : Nat) : ((k : Int) == 97) = decide (k = 97) := by rw [Bool.eq_iff_iff]; simp; omega
end LX

set_option maxHeartbeats 400000 in
theorem refText_any (A : Option Addr) (c : Nat) (l : List Tk) (w : World) (hl : l.length ≤ 4294967296) (hs : (txt false l).length ≤ 4294967296) (hA : Toks w A l) :
    Calls Try.prog 15 #[.slice A l.length c] w fun e w' => e = .returned (.string (text l)) ∧ w = w' := by
  have HA := Lib.hid hA; clear hA
  have HT := Lib.hid (fun i (h : i < l.length) => txt_take h)
  have HLE := Lib.hid (txt_le l)
  have HE : Hid (text l = ⟨(txt false (l.take l.length)).toArray⟩) := by
    show text l = _
    rw [List.take_length]; rfl
  generalize hm : (txt false l).length = M at *
  clear hm
  generalize hn : l.length = n at *
  have HN := Lib.hid hn; clear hn
  go_enter Try.func15, Try.ntmps15
  go_wp2
  go_loop [3, 4] (fun sv iv => ∃ (i : Nat) (x : ByteArray), i ≤ n ∧ iv = .int .i64 i ∧ sv = .string x ∧ Hid (x = ⟨(txt false (l.take i)).toArray⟩)) (fun _ iv => n - (intOf iv).toNat)
  case atStart => exact ⟨0, _, by omega, rfl, rfl, rfl⟩
  case round =>
    obtain ⟨i, x, hi, rfl, rfl, HX⟩ := hrel
    by_cases hlt : i < n
    · obtain ⟨b, o, rfl, _, hc⟩ := HA.out.at (k := i) (by rw [HN.out]; exact hlt)
      obtain ⟨hc0, hc1, _⟩ := hc i (by rw [HN.out]; exact hlt)
      have HC := Lib.hid hc; clear hc
      have hxs : x.size ≤ 4294967296 := by rw [HX.out]; exact Nat.le_trans (HLE.out i) hs
      have HTI := Lib.hid (HT.out i hlt)
      have hnx : (txt false (l.take (i + 1))).length ≤ 4294967296 := Nat.le_trans (HLE.out _) hs
      have hlen : (txt false (l.take (i + 1))).length = x.size + ((if sepB l i = true then [32] else ([] : List UInt8)).length + (l.getD i t0).s.size) := by
        have hx : x.size = (txt false (l.take i)).length := by rw [HX.out]; rfl
        rw [HTI.out, List.length_append, List.length_append, lst_length, hx]
      have hsz : (l.getD i t0).s.size ≤ 4294967296 := by omega
      clear hlen hnx
      have fin : Hid (∀ y : ByteArray, y = (if sepB l i = true then x ++ ⟨#[32]⟩ else x) → y ++ (l.getD i t0).s = ⟨(txt false (l.take (i + 1))).toArray⟩) := by
        show ∀ y : ByteArray, y = (if sepB l i = true then x ++ ⟨#[32]⟩ else x) → y ++ (l.getD i t0).s = ⟨(txt false (l.take (i + 1))).toArray⟩
        intro y hy
        rw [hy, HTI.out, HX.out]
        split
        · rw [app_eq, app_eq]; simp [lst]
        · rw [app_eq]; simp
      clear HTI
      have HSEP : Hid (sepB l i = (decide (0 < i) && (decide ((l.getD (i - 1) t0).k = 97) && decide ((l.getD i t0).k = 97)))) := rfl
      have q2 := is97 (l.getD i t0).k
      generalize (l.getD i t0).k = k at *
      generalize (l.getD i t0).s = s at *
      by_cases h0 : 0 < i
      · obtain ⟨j, rfl⟩ : ∃ j, i = j + 1 := ⟨i - 1, by omega⟩
        obtain ⟨hp0, _, _⟩ := HC.out j (by rw [HN.out]; omega)
        rw [Nat.add_sub_cancel, decide_eq_true h0] at HSEP
        have q1 := is97 (l.getD j t0).k
        generalize (l.getD j t0).k = kp at *
        generalize decide (kp = 97) = d1 at *
        generalize decide (k = 97) = d2 at *
        clear h0
        generalize sepB l (j + 1) = sp at *
        cases d1 <;> cases d2
        all_goals
          have HF := Lib.hid (fin.out _ rfl)
          rw [HSEP.out] at HF
          clear fin HSEP HC
          go_wp2
          go_round
          case rel => exact ⟨j + 2, _, by omega, by go_num, rfl, HF.out⟩
          case measure => simp [intOf]; omega
      · obtain rfl : i = 0 := by omega
        clear h0
        generalize sepB l 0 = sp at *
        obtain rfl : sp = false := HSEP.out
        have HF := Lib.hid (fin.out _ rfl)
        clear fin HSEP HC q2
        simp only [Nat.zero_mul, Nat.add_zero] at hc0 hc1
        go_wp2
        go_round
        case rel => exact ⟨1, _, by omega, rfl, rfl, HF.out⟩
        case measure => simp [intOf]; omega
    · obtain rfl : i = n := by omega
      go_wp2
      go_ret
      exact ⟨ret_eq (by rw [HE.out, ← HX.out]; rfl), rfl⟩
end Go.Proofs.Ytfhmdambdkmmgaa
