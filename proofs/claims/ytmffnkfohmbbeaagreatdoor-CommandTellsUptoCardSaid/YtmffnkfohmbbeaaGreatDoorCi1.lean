/- Texts that all the claims need. Conditions: those that each states. -/
import Derived.Lib.SlicesCompact
import Derived.Maps.OwnOps
import Derived.Maps.Views
import Derived.Sort.Walk0
import Derived.StillTailTactics
import Derived.Test.YtmffnkfohmbbeaaGreatDoorCi0
set_option linter.unusedSimpArgs false
set_option linter.unusedVariables false
set_option maxRecDepth 100000
set_option maxHeartbeats 40000000
namespace Go.Proofs.YtmffnkfohmbbeaaGreatDoor
section
namespace NM
def fst (p : Nat → Bool) (n : Nat) : Int := match (List.range n).find? p with | some j => j | none => -1
theorem fst_hit {p : Nat → Bool} {n k : Nat} (hk : k < n) (h : p k = true) (h0 : ∀ j, j < k → p j = false) : fst p n = k := by
 have : (List.range n).find? p = some k := by
  rw [List.find?_range_eq_some]
  refine ⟨h, List.mem_range.2 hk, fun j hj => by rw [h0 j hj]; rfl⟩
 unfold fst; rw [this]
theorem fst_miss {p : Nat → Bool} {n : Nat} (h0 : ∀ j, j < n → p j = false) : fst p n = -1 := by
 have : (List.range n).find? p = none := by
  rw [List.find?_eq_none]
  intro j hj
  rw [h0 j (List.mem_range.1 hj)]; simp
 unfold fst; rw [this]
theorem fst_cases (p : Nat → Bool) (n : Nat) : (∃ k, k < n ∧ fst p n = k ∧ p k = true ∧ ∀ j, j < k → p j = false) ∨ (fst p n = -1 ∧ ∀ j, j < n → p j = false) := by
 cases h : (List.range n).find? p with
 | some k =>
   rw [List.find?_range_eq_some] at h
   have hk := List.mem_range.1 h.2.1
   have h0 : ∀ j, j < k → p j = false := fun j hj => by have := h.2.2 j hj; simpa using this
   exact .inl ⟨k, hk, fst_hit hk h.1 h0, h.1, h0⟩
 | none =>
   rw [List.find?_eq_none] at h
   have h0 : ∀ j, j < n → p j = false := fun j hj => by have := h j (List.mem_range.2 hj); simpa using this
   exact .inr ⟨fst_miss h0, h0⟩
theorem fst_bd (p : Nat → Bool) (n : Nat) : -1 ≤ fst p n ∧ fst p n < n := by
 rcases fst_cases p n with ⟨k, hk, e, _⟩ | ⟨e, _⟩ <;> omega
theorem fst_neg {p : Nat → Bool} {n : Nat} : decide (fst p n < 0) = decide (∀ j, j < n → p j = false) := by
 rcases fst_cases p n with ⟨k, hk, e, hp, _⟩ | ⟨e, h0⟩
 ·have h1 : ¬ (fst p n < 0) := by omega
  have h2 : ¬ (∀ j, j < n → p j = false) := fun h => by rw [h k hk] at hp; cases hp
  rw [zF h1, zF h2]
 ·have h1 : fst p n < 0 := by omega
  rw [zE h1, zE h0]
def lett (c : Nat) : Bool := decide (97 ≤ c) && decide (c ≤ 122)
def innr (c : Nat) : Bool := lett c || (decide (48 ≤ c) && decide (c ≤ 57)) || decide (c = 95)
theorem str_eq (x y : ByteArray) : (x.toList == y.toList) = decide (x = y) := by
 rw [Lib.toList_data, Lib.toList_data, Bool.eq_iff_iff]
 simp only [beq_iff_eq, decide_eq_true_eq]
 constructor
 ·intro h
  cases x; cases y
  simp only [ByteArray.mk.injEq]
  exact Array.toList_inj.1 h
 ·rintro rfl; rfl
def tailOk (s : ByteArray) : Bool := decide (∀ j, j < s.size → 1 ≤ j → innr (s.data.toList.getD j 0).toNat = true)
def right (s : ByteArray) : Bool := decide (1 ≤ s.size) && decide (s.size ≤ 16) && lett (s.data.toList.getD 0 0).toNat && tailOk s
theorem byte_at {s : ByteArray} {i : Nat} (h : i < s.size) : (s.data.toList.getD i 0) = s[i] := by
 have h1 : i < s.data.toList.length := by simpa using h
 rw [List.getD_eq_getElem?_getD, List.getElem?_eq_getElem h1]; rfl
end NM
end
section
open Go.RowKit
def Dr (w w' : World) : Prop := ∃ n, w' = w.drewN n
theorem Dr.refl (w : World) : Dr w w := ⟨0, rfl⟩
theorem Dr.trans {a b c : World} (h : Dr a b) (h2 : Dr b c) : Dr a c := by
 obtain ⟨n, rfl⟩ := h
 obtain ⟨m, rfl⟩ := h2
 exact ⟨n + m, by rw [World.drewN_drewN]⟩
theorem Dr.more {a b : World} (h : Dr a b) (n : Nat) : Dr a (b.drewN n) := h.trans ⟨n, rfl⟩
theorem Dr.below {w w' : World} (h : Dr w w') : Below w.heap.size w w' := by
 obtain ⟨n, rfl⟩ := h
 exact bdrewN (zB _ _) n
theorem quiet_same {P : Program} {f : FuncId} {args : Array Value} {w : World} {n : Nat} {v : Value}
 (h : Calls P f args (w.drewN n) fun e w' => e = .returned v ∧ w.drewN n = w') : Calls P f args (w.drewN n) fun e w'' => e = .returned v ∧ ∃ m, w'' = w.drewN m :=
 Calls.quiet_of_same (h.mono fun _ _ ⟨he, hw⟩ => ⟨he, hw.symm⟩)
theorem letter_any (c : Nat) (w : World) :
 Calls Tryz.prog 63 #[.int .u8 c] w fun e w' => e = .returned (.bool (NM.lett c)) ∧ w = w' := by
 go_enter Tryz.func63, Tryz.ntmps63
 go_wp2
 all_goals
  go_ret
  exact ⟨ret_eq (bool_eq (by unfold NM.lett; rw [Bool.eq_iff_iff]; simp <;> omega)), rfl⟩
theorem refLetter_any (c : Nat) (w : World) :
 Calls Tryz.prog 77 #[.int .u8 c] w fun e w' => e = .returned (.bool (NM.lett c)) ∧ w = w' := by
 go_enter Tryz.func77, Tryz.ntmps77
 go_wp2
 all_goals
  go_ret
  exact ⟨ret_eq (bool_eq (by unfold NM.lett; rw [Bool.eq_iff_iff]; simp <;> omega)), rfl⟩
theorem inner_any (c : Nat) (w : World) :
 Calls Tryz.prog 66 #[.int .u8 c] w fun e w' => e = .returned (.bool (NM.innr c)) ∧ w = w' := by
 cases hl : NM.lett c
 all_goals
  have HL := zh hl
  clear hl
  go_enter Tryz.func66, Tryz.ntmps66
  go_wp2_with (go_at_call 63; refine (letter_any _ _).mono ?_; rintro e w' ⟨rfl, rfl⟩; rw [HL.out])
  all_goals
   go_ret
   exact ⟨ret_eq (bool_eq (by unfold NM.innr; rw [HL.out]; rw [Bool.eq_iff_iff]; simp <;> omega)), rfl⟩
end
section
open Go.RowKit
theorem first_any (n : Nat) (p : Nat → Bool) (f : FuncId) (cap : Array Value) (w : World) (hn : n ≤ 4294967296)
 (hf : ∀ args w, (callFunc f args).run Tryz.prog w = .ok (.enter f args) w) (Inv : Nat → World → Prop) (h0 : Inv 0 w)
 (H : ∀ j W, j < n → Inv j W → (∀ i, i < j → p i = false) → Calls Tryz.prog f (#[.int .i64 (j : Nat)] ++ cap) W fun e W' => e = .returned (.bool (p j)) ∧ Inv (j + 1) W') :
 Calls Tryz.prog 64 #[.int .i64 n, .func (.func f) #[] cap] w fun e w' => e = .returned (.int .i64 (NM.fst p n)) ∧ ∃ j, Inv j w' := by
 have HH := zh H; clear H
 have H0 := zh h0; clear h0
 go_enter Tryz.func64, Tryz.ntmps64
 go_wp2
 go_loopw [7] (fun iv wr => ∃ i : Nat, i ≤ n ∧ iv = .int .i64 i ∧ Hid (∀ j, j < i → p j = false) ∧ Hid (Inv i wr)) (fun iv _ => n - (intOf iv).toNat)
 case atStart => exact ⟨0, by omega, rfl, fun j hj => by omega, H0.out⟩
 case round =>
  obtain ⟨i, hi, rfl, HF, HI⟩ := hrel
  by_cases hlt : i < n
  ·have HC := zh (HH.out i wr hlt HI.out HF.out)
   cases hp : p i
   all_goals
        rw [hp] at HC
        have HP := zh hp; clear hp
        go_wp2_with fail
        refine HC.out.mono ?_
        rintro e W ⟨rfl, hI2⟩
        have HI2 := zh hI2; clear hI2
        go_wp2
   ·go_roundw
    case rel =>
     refine ⟨i + 1, by omega, by go_num, ?_, HI2.out⟩
     show ∀ j, j < i + 1 → p j = false
     intro j hj
     by_cases hjk : j = i
     ·rw [hjk]; exact HP.out
     ·exact HF.out j (by omega)
    case measure => simp [intOf]; omega
   ·go_ret
    exact ⟨ret_eq (int_eq (NM.fst_hit hlt HP.out HF.out).symm), i + 1, HI2.out⟩
  ·obtain rfl : i = n := by omega
   go_wp2
   go_ret
   exact ⟨ret_eq (int_eq (NM.fst_miss HF.out).symm), i, HI.out⟩
theorem first_dr (n : Nat) (p : Nat → Bool) (f : FuncId) (cap : Array Value) (w : World) (hn : n ≤ 4294967296)
 (hf : ∀ args w, (callFunc f args).run Tryz.prog w = .ok (.enter f args) w)
 (H : ∀ j m, j < n → (∀ i, i < j → p i = false) → Calls Tryz.prog f (#[.int .i64 (j : Nat)] ++ cap) (w.drewN m) fun e W' => e = .returned (.bool (p j)) ∧ Dr (w.drewN m) W') :
 Calls Tryz.prog 64 #[.int .i64 n, .func (.func f) #[] cap] w fun e w' => e = .returned (.int .i64 (NM.fst p n)) ∧ Dr w w' := by
 refine (first_any n p f cap w hn hf (fun _ W => Dr w W) (Dr.refl w) ?_).mono ?_
 ·rintro j W hj ⟨m, rfl⟩ h0
  refine (H j m hj h0).mono ?_
  rintro e W' ⟨rfl, hd⟩
  exact ⟨rfl, Dr.trans ⟨m, rfl⟩ hd⟩
 ·rintro e w' ⟨rfl, j, hd⟩
  exact ⟨rfl, hd⟩
theorem right1_any (s : ByteArray) (g : Nat) (w : World) (hs : w.cell? ⟨g, 0, none⟩ = some (.string s)) (j : Nat) (hj : j < s.size) (_hl : s.size ≤ 4294967296) :
 Calls Tryz.prog 65 #[.int .i64 j, .pointer (some ⟨g, 0, none⟩)] w fun e w' => e = .returned (.bool (!NM.innr (s.data.toList.getD j 0).toNat)) ∧ w = w' := by
 rw [NM.byte_at hj]
 go_enter Tryz.func65, Tryz.ntmps65
 go_wp2_with (go_at_call 66; refine (inner_any _ _).mono ?_; rintro e w' ⟨rfl, rfl⟩)
 go_ret
 exact ⟨rfl, rfl⟩
theorem right_none (s : ByteArray) (w : World) (h : s.size < 1 ∨ 16 < s.size) :
 Calls Tryz.prog 36 #[.string s] w fun e w' => e = .returned (.bool (NM.right s)) ∧ Below w.heap.size w w' := by
 have e : NM.right s = false := by
  unfold NM.right
  rcases h with h | h
  ·rw [show decide (1 ≤ s.size) = false by rw [decide_eq_false_iff_not]; omega]; simp
  ·rw [show decide (s.size ≤ 16) = false by rw [decide_eq_false_iff_not]; omega]; simp
 rw [e]
 clear e
 rcases h with h | h
 all_goals
  try have h' : ¬ s.size < 1 := by omega
  go_enter Tryz.func36, Tryz.ntmps36
  go_wp2
  go_ret
  exact ⟨rfl, (zB _ _).alloc (zL _) _⟩
theorem right_some (s : ByteArray) (w : World) (h1 : 1 ≤ s.size) (h16 : s.size ≤ 16) :
 Calls Tryz.prog 36 #[.string s] w fun e w' => e = .returned (.bool (NM.right s)) ∧ Below w.heap.size w w' := by
 have hb0 := @NM.byte_at s 0 (by omega)
 have h0 : 0 < s.size := by omega
 have e : NM.right s = (NM.lett (s.data.toList.getD 0 0).toNat && decide (NM.fst (fun j => !NM.innr (s.data.toList.getD j 0).toNat) s.size < 0)) := by
  unfold NM.right NM.tailOk
  rw [zE h1, zE h16, NM.fst_neg, Bool.true_and, Bool.true_and]
  cases hl : NM.lett (s.data.toList.getD 0 0).toNat
  ·rfl
  ·rw [Bool.true_and, Bool.true_and, decide_eq_decide]
   constructor
   ·intro H j hj
    by_cases hj0 : j = 0
    ·rw [hj0]; simp only [NM.innr, hl, Bool.true_or, Bool.not_true]
    ·rw [H j hj (by omega)]; rfl
   ·intro H j hj _
    have := H j hj
    simpa using this
 rw [e]
 rw [hb0]
 have HB0 := zh hb0; clear e hb0
 have hc := (Box.new w 9 (.string s)).cell
 cases hl : NM.lett s[0].toNat
 ·have HL := zh hl; clear hl
  go_enter Tryz.func36, Tryz.ntmps36
  go_wp2_with (go_at_call 63; refine (letter_any _ _).mono ?_; rintro e w' ⟨rfl, rfl⟩; rw [HL.out])
  go_ret
  exact ⟨rfl, (zB _ _).alloc (zL _) _⟩
 ·have HL := zh hl; clear hl
  have hfb := NM.fst_bd (fun j => !NM.innr (s.data.toList.getD j 0).toNat) s.size
  have hmf : ∀ (fn : Fn) (first cap : Array Value) (w : World), (Instr.makeFunc fn first cap).run Tryz.prog w = .ok (.func fn first cap) w := fun _ _ _ _ => rfl
  go_enter Tryz.func36, Tryz.ntmps36
  go_wp2_with (go_at_call 63; refine (letter_any _ _).mono ?_; rintro e w' ⟨rfl, rfl⟩; rw [HL.out])
  refine (first_dr s.size (fun j => !NM.innr (s.data.toList.getD j 0).toNat) 65 #[.pointer (some ⟨w.heap.size, 0, none⟩)] _ (by omega) (fun _ _ => by kernel_rfl) ?_).mono ?_
  ·intro j m hj _
   refine (right1_any s w.heap.size ((w.alloc (.cells #[.string s] 9)).drewN m) hc j hj (by omega)).mono ?_
   rintro e w' ⟨rfl, rfl⟩
   exact ⟨rfl, Dr.refl _⟩
  ·rintro e w' ⟨rfl, hd⟩
   have HD := zh hd; clear hd
   go_wp2
   go_ret
   refine ⟨ret_eq (bool_eq (by simp)), ((zB _ _).alloc (zL _) _).trans (HD.out.below.mono (by simp))⟩
theorem right_any (s : ByteArray) (w : World) :
 Calls Tryz.prog 36 #[.string s] w fun e w' => e = .returned (.bool (NM.right s)) ∧ Below w.heap.size w w' := by
 by_cases h : 1 ≤ s.size ∧ s.size ≤ 16
 ·exact right_some s w h.1 h.2
 ·exact right_none s w (by omega)
theorem refRight_none (s : ByteArray) (w : World) (h : s.size < 1 ∨ 16 < s.size) :
 Calls Tryz.prog 43 #[.string s] w fun e w' => e = .returned (.bool (NM.right s)) ∧ Dr w w' := by
 have e : NM.right s = false := by
  unfold NM.right
  rcases h with h | h
  ·rw [show decide (1 ≤ s.size) = false by rw [decide_eq_false_iff_not]; omega]; simp
  ·rw [show decide (s.size ≤ 16) = false by rw [decide_eq_false_iff_not]; omega]; simp
 rw [e]
 clear e
 rcases h with h | h
 all_goals
  try have h' : ¬ s.size < 1 := by omega
  go_enter Tryz.func43, Tryz.ntmps43
  go_wp2
  go_ret
  exact ⟨rfl, Dr.refl _⟩
theorem refRight_some (s : ByteArray) (w : World) (h1 : 1 ≤ s.size) (h16 : s.size ≤ 16) :
 Calls Tryz.prog 43 #[.string s] w fun e w' => e = .returned (.bool (NM.right s)) ∧ Dr w w' := by
 have hb0 := @NM.byte_at s 0 (by omega)
 have h0 : 0 < s.size := by omega
 have e : NM.right s = (NM.lett (s.data.toList.getD 0 0).toNat && NM.tailOk s) := by
  unfold NM.right
  rw [zE h1, zE h16, Bool.true_and, Bool.true_and]
 rw [e, hb0]
 have HB0 := zh hb0; clear e hb0
 cases hl : NM.lett s[0].toNat
 ·have HL := zh hl; clear hl
  go_enter Tryz.func43, Tryz.ntmps43
  go_wp2_with (go_at_call 77; refine (refLetter_any _ _).mono ?_; rintro e w' ⟨rfl, rfl⟩; rw [HL.out])
  go_ret
  exact ⟨rfl, Dr.refl _⟩
 ·have HL := zh hl; clear hl
  rw [Bool.true_and]
  go_enter Tryz.func43, Tryz.ntmps43
  go_wp2_with (go_at_call 77; refine (refLetter_any _ _).mono ?_; rintro e w' ⟨rfl, rfl⟩; rw [HL.out])
  go_loopw [3] (fun iv wr => ∃ i : Nat, 1 ≤ i ∧ i ≤ s.size ∧ iv = .int .i64 i ∧ Hid (∀ j, j < i → 1 ≤ j → NM.innr (s.data.toList.getD j 0).toNat = true) ∧ Dr w wr) (fun iv _ => s.size - (intOf iv).toNat)
  case atStart => exact ⟨1, by omega, by omega, rfl, fun j hj => by omega, Dr.refl w⟩
  case round =>
   obtain ⟨i, hi1, hi2, rfl, HI, hd⟩ := hrel
   by_cases hlt : i < s.size
   ·have HB := zh (@NM.byte_at s i hlt)
    have HNEXT : Hid (NM.innr s[i].toNat = true → ∀ j, j < i + 1 → 1 ≤ j → NM.innr (s.data.toList.getD j 0).toNat = true) := by
     show NM.innr s[i].toNat = true → ∀ j, j < i + 1 → 1 ≤ j → NM.innr (s.data.toList.getD j 0).toNat = true
     intro h j hj h1
     by_cases hji : j = i
     ·rw [hji, HB.out]; exact h
     ·exact HI.out j (by omega) h1
    have HSTOP : Hid (NM.innr s[i].toNat = false → NM.tailOk s = false) := by
     show NM.innr s[i].toNat = false → NM.tailOk s = false
     intro h
     unfold NM.tailOk
     rw [decide_eq_false_iff_not]
     intro H
     have := H i hlt hi1
     rw [HB.out, h] at this
     cases this
    cases hl : NM.lett s[i].toNat
    ·have hin : NM.innr s[i].toNat = (decide (48 ≤ s[i].toNat) && decide (s[i].toNat ≤ 57) || decide (s[i].toNat = 95)) := by unfold NM.innr; rw [hl, Bool.false_or]
     have HLI := zh hl; clear hl
     by_cases h5 : 48 ≤ s[i].toNat ∧ s[i].toNat ≤ 57
     ·obtain ⟨h5a, h5b⟩ := h5
      have hyes : NM.innr s[i].toNat = true := by rw [hin, zE h5a, zE h5b]; rfl
      have HN := zh (HNEXT.out hyes); clear hyes hin
      go_wp2_with (go_at_call 77; refine (refLetter_any _ _).mono ?_; rintro e w' ⟨rfl, rfl⟩; rw [HLI.out])
      go_roundw
      case rel => exact ⟨i + 1, by omega, by omega, by go_num, HN.out, hd⟩
      case measure => simp [intOf]; omega
     ·by_cases h6 : s[i].toNat = 95
      ·have hyes : NM.innr s[i].toNat = true := by rw [hin, zE h6, Bool.or_true]
       have HN := zh (HNEXT.out hyes); clear hyes hin
       have h7 : ((s[i].toNat : Int) != 95) = false := by simp; omega
       have h8 : 57 < s[i].toNat := by omega
       clear h5 h6
       go_wp2_with (go_at_call 77; refine (refLetter_any _ _).mono ?_; rintro e w' ⟨rfl, rfl⟩; rw [HLI.out])
       go_roundw
       case rel => exact ⟨i + 1, by omega, by omega, by go_num, HN.out, hd⟩
       case measure => simp [intOf]; omega
      ·have hno : NM.innr s[i].toNat = false := by
            rw [hin, zF h6, Bool.or_false]
            by_cases h9 : 48 ≤ s[i].toNat
            ·rw [zF (show ¬ s[i].toNat ≤ 57 by omega), Bool.and_false]
            ·rw [zF h9, Bool.false_and]
       have HN := zh (HSTOP.out hno); clear hno hin
       have h7 : ((s[i].toNat : Int) != 95) = true := by simp; omega
       have h8 : s[i].toNat < 48 ∨ 57 < s[i].toNat := by omega
       clear h5 h6
       rcases h8 with h8 | h8
       all_goals
            go_wp2_with (go_at_call 77; refine (refLetter_any _ _).mono ?_; rintro e w' ⟨rfl, rfl⟩; rw [HLI.out])
            go_ret
            exact ⟨ret_eq (bool_eq HN.out.symm), hd⟩
    ·have hyes : NM.innr s[i].toNat = true := by unfold NM.innr; rw [hl]; rfl
     have HLI := zh hl; clear hl
     have HN := zh (HNEXT.out hyes); clear hyes
     go_wp2_with (go_at_call 77; refine (refLetter_any _ _).mono ?_; rintro e w' ⟨rfl, rfl⟩; rw [HLI.out])
     go_roundw
     case rel => exact ⟨i + 1, by omega, by omega, by go_num, HN.out, hd⟩
     case measure => simp [intOf]; omega
   ·go_wp2
    go_ret
    refine ⟨ret_eq (bool_eq (zE fun j hj h1 => HI.out j (by omega) h1).symm), hd⟩
theorem refRight_any (s : ByteArray) (w : World) :
 Calls Tryz.prog 43 #[.string s] w fun e w' => e = .returned (.bool (NM.right s)) ∧ Dr w w' := by
 by_cases h : 1 ≤ s.size ∧ s.size ≤ 16
 ·exact refRight_some s w h.1 h.2
 ·exact refRight_none s w (by omega)
end
section
open Go.RowKit
def scells (xs : List ByteArray) : List Value := xs.map Value.string
def Strs (w : World) (A : Option Addr) (xs : List ByteArray) : Prop := Sl w w.heap.size A (scells xs)
theorem Strs.below {w w' : World} {A : Option Addr} {xs : List ByteArray} (h : Strs w A xs) (hb : Below w.heap.size w w') : Strs w' A xs := (Sl.below h hb).mono hb.size
theorem Strs.dr {w w' : World} {A : Option Addr} {xs : List ByteArray} (h : Strs w A xs) (hb : Dr w w') : Strs w' A xs := h.below hb.below
theorem Strs.at {w : World} {A : Option Addr} {xs : List ByteArray} (h : Strs w A xs) {k : Nat} (hk : k < xs.length) :
 ∃ b o, A = some ⟨b, o, none⟩ ∧ ∀ j, j < xs.length → w.cell? ⟨b, o + j, none⟩ = some (.string (xs.getD j ⟨#[]⟩)) := by
 obtain ⟨b, o, hA, _, hc⟩ := h (by unfold scells; intro e; rw [List.map_eq_nil_iff] at e; subst e; simp at hk)
 refine ⟨b, o, hA, fun j hj => hc j _ ?_⟩
 unfold scells
 rw [List.getElem?_map, List.getD_eq_getElem?_getD, List.getElem?_eq_getElem hj]
 rfl
def same (xs ys : List ByteArray) : Bool := decide (xs = ys)
end
section
open Go.RowKit Go.Maps
def Cnt (W : World) (B n : Nat) (f : ByteArray → Nat) : Prop :=
 ∃ D : DataW Unit, W.ownsMap Tryz.prog 9 (plainElem Tryz.prog 3) B n D ∧ IsMap D ∧ ∀ s : ByteArray, s.size ≤ maxLen → D.atKey (.string s.data.toList) (.lit (.int .i64 0)) = .lit (.int .i64 (f s))
section
variable {W W' : World} {B n : Nat} {f : ByteArray → Nat}
theorem Cnt.drewN (h : Cnt W B n f) (m : Nat) : Cnt (W.drewN m) B n f := h
theorem Cnt.drew (h : Cnt W B n f) : Cnt W.drew B n f := h
theorem Cnt.lt (h : Cnt W B n f) : B < W.heap.size := by
 obtain ⟨D, h1, _⟩ := h
 exact h1.lt
theorem Cnt.new (w : World) : Cnt (w.alloc (.map #[] 0)) w.heap.size 0 (fun _ => 0) :=
 ⟨.map [], World.ownsMap_made _ _ _ _, isMap_empty, fun _ _ => rfl⟩
end
end
section
namespace NM
end NM
end
end Go.Proofs.YtmffnkfohmbbeaaGreatDoor
