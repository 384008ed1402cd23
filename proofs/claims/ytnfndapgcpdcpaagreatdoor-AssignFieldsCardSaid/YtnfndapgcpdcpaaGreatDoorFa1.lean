/- Texts that all the claims need. Conditions: those that each states. -/
import Derived.Lib.SlicesCompact
import Derived.Maps.OwnOps
import Derived.Maps.Views
import Derived.Sort.Walk0
import Derived.StillTailTactics
import Derived.Test.YtnfndapgcpdcpaaGreatDoorFa0
set_option linter.unusedSimpArgs false
set_option linter.unusedVariables false
set_option maxRecDepth 100000
set_option maxHeartbeats 40000000
namespace Go.Proofs.YtnfndapgcpdcpaaGreatDoor
section
namespace NM
def fst (p : Nat → Bool) (n : Nat) : Int := match (List.range n).find? p with | some j => j | none => -1
theorem fst_hit {p : Nat → Bool} {n k : Nat} (hk : k < n) (h : p k = true) (h0 : ∀ j, j < k → p j = false) : fst p n = k := by
 have : (List.range n).find? p = some k := by
  rw [List.find?_range_eq_some]
  refine ⟨h, List.mem_range.2 hk, fun j hj => by rw [h0 j hj]; rfl⟩
 unfold fst; rw [this]
theorem fst_miss {p : Nat → Bool} {n : Nat} (h0 : ∀ j, j < n → p j = false) : fst p n = -1 := by
 have : (List.range n).find? p = none := by
  rw [List.find?_eq_none]
  intro j hj
  rw [h0 j (List.mem_range.1 hj)]; simp
 unfold fst; rw [this]
theorem fst_cases (p : Nat → Bool) (n : Nat) : (∃ k, k < n ∧ fst p n = k ∧ p k = true ∧ ∀ j, j < k → p j = false) ∨ (fst p n = -1 ∧ ∀ j, j < n → p j = false) := by
 cases h : (List.range n).find? p with
 | some k =>
   rw [List.find?_range_eq_some] at h
   have hk := List.mem_range.1 h.2.1
   have h0 : ∀ j, j < k → p j = false := fun j hj => by have := h.2.2 j hj; simpa using this
   exact .inl ⟨k, hk, fst_hit hk h.1 h0, h.1, h0⟩
 | none =>
   rw [List.find?_eq_none] at h
   have h0 : ∀ j, j < n → p j = false := fun j hj => by have := h j (List.mem_range.2 hj); simpa using this
   exact .inr ⟨fst_miss h0, h0⟩
theorem fst_bd (p : Nat → Bool) (n : Nat) : -1 ≤ fst p n ∧ fst p n < n := by
 rcases fst_cases p n with ⟨k, hk, e, _⟩ | ⟨e, _⟩ <;> omega
theorem fst_neg {p : Nat → Bool} {n : Nat} : decide (fst p n < 0) = decide (∀ j, j < n → p j = false) := by
 rcases fst_cases p n with ⟨k, hk, e, hp, _⟩ | ⟨e, h0⟩
 ·have h1 : ¬ (fst p n < 0) := by omega
  have h2 : ¬ (∀ j, j < n → p j = false) := fun h => by rw [h k hk] at hp; cases hp
  rw [zF h1, zF h2]
 ·have h1 : fst p n < 0 := by omega
  rw [zE h1, zE h0]
def lett (c : Nat) : Bool := decide (97 ≤ c) && decide (c ≤ 122)
def innr (c : Nat) : Bool := lett c || (decide (48 ≤ c) && decide (c ≤ 57)) || decide (c = 95)
theorem str_eq (x y : ByteArray) : (x.toList == y.toList) = decide (x = y) := by
 rw [Lib.toList_data, Lib.toList_data, Bool.eq_iff_iff]
 simp only [beq_iff_eq, decide_eq_true_eq]
 constructor
 ·intro h
  cases x; cases y
  simp only [ByteArray.mk.injEq]
  exact Array.toList_inj.1 h
 ·rintro rfl; rfl
def less (a b : ByteArray) : Bool := Op.bytesLess a.toList b.toList
theorem bytesLess_app : ∀ (p x y : List UInt8), Op.bytesLess (p ++ x) (p ++ y) = Op.bytesLess x y
 | [], _, _ => rfl
 | c :: p, x, y => by
   simp only [List.cons_append, Op.bytesLess, bytesLess_app p x y, beq_self_eq_true, Bool.true_and]
   have : ¬ (c < c) := by simp
   simp
theorem less_at {a b : ByteArray} {i : Nat} (ha : i < a.size) (hb : i < b.size) (h : a.data.toList.take i = b.data.toList.take i) (hne : a[i].toNat ≠ b[i].toNat) : less a b = decide (a[i].toNat < b[i].toNat) := by
 unfold less
 rw [Lib.toList_data, Lib.toList_data]
 have ea : a.data.toList = a.data.toList.take i ++ a[i] :: a.data.toList.drop (i + 1) := by
  have h1 : i < a.data.toList.length := by simpa using ha
  conv => lhs; rw [← List.take_append_drop i a.data.toList, List.drop_eq_getElem_cons h1]
  rfl
 have eb : b.data.toList = b.data.toList.take i ++ b[i] :: b.data.toList.drop (i + 1) := by
  have h1 : i < b.data.toList.length := by simpa using hb
  conv => lhs; rw [← List.take_append_drop i b.data.toList, List.drop_eq_getElem_cons h1]
  rfl
 rw [ea, eb, h, bytesLess_app]
 have hne2 : (a[i] == b[i]) = false := by
  rw [beq_eq_false_iff_ne]; intro h; rw [h] at hne; exact hne rfl
 simp only [Op.bytesLess, hne2, Bool.false_and, Bool.or_false]
 rfl
theorem less_end {a b : ByteArray} {i : Nat} (ha : i ≤ a.size) (hb : i ≤ b.size) (h : a.data.toList.take i = b.data.toList.take i) (he : i = a.size ∨ i = b.size) : less a b = decide (a.size < b.size) := by
 unfold less
 rw [Lib.toList_data, Lib.toList_data]
 rw [← List.take_append_drop i a.data.toList, ← List.take_append_drop i b.data.toList, h, bytesLess_app]
 have la : (a.data.toList.drop i).length = a.size - i := by simp
 have lb : (b.data.toList.drop i).length = b.size - i := by simp
 rcases Nat.lt_or_ge i b.size with h1 | h1
 ·have ea : i = a.size := by omega
  have e1 : a.data.toList.drop i = [] := List.eq_nil_of_length_eq_zero (by omega)
  rw [e1]
  cases hd : b.data.toList.drop i with
  | nil => rw [hd] at lb; simp at lb; omega
  | cons c l => simp only [Op.bytesLess]; rw [eq_comm, decide_eq_true_eq]; omega
 ·have e1 : b.data.toList.drop i = [] := List.eq_nil_of_length_eq_zero (by omega)
  rw [e1]
  have : decide (a.size < b.size) = false := by rw [decide_eq_false_iff_not]; omega
  rw [this]
  cases a.data.toList.drop i <;> rfl
theorem take_more {a b : ByteArray} {i : Nat} (ha : i < a.size) (hb : i < b.size) (h : a.data.toList.take i = b.data.toList.take i) (he : a[i].toNat = b[i].toNat) : a.data.toList.take (i + 1) = b.data.toList.take (i + 1) := by
 have h1 : i < a.data.toList.length := by simpa using ha
 have h2 : i < b.data.toList.length := by simpa using hb
 rw [List.take_succ_eq_append_getElem h1, List.take_succ_eq_append_getElem h2, h]
 have : a[i] = b[i] := UInt8.toNat_inj.1 he
 exact congrArg (fun c => _ ++ [c]) this
def tailOk (s : ByteArray) : Bool := decide (∀ j, j < s.size → 1 ≤ j → innr (s.data.toList.getD j 0).toNat = true)
def right (s : ByteArray) : Bool := decide (1 ≤ s.size) && decide (s.size ≤ 16) && lett (s.data.toList.getD 0 0).toNat && tailOk s
theorem byte_at {s : ByteArray} {i : Nat} (h : i < s.size) : (s.data.toList.getD i 0) = s[i] := by
 have h1 : i < s.data.toList.length := by simpa using h
 rw [List.getD_eq_getElem?_getD, List.getElem?_eq_getElem h1]; rfl
end NM
end
section
open Go.RowKit
def Dr (w w' : World) : Prop := ∃ n, w' = w.drewN n
theorem Dr.refl (w : World) : Dr w w := ⟨0, rfl⟩
theorem Dr.trans {a b c : World} (h : Dr a b) (h2 : Dr b c) : Dr a c := by
 obtain ⟨n, rfl⟩ := h
 obtain ⟨m, rfl⟩ := h2
 exact ⟨n + m, by rw [World.drewN_drewN]⟩
theorem Dr.more {a b : World} (h : Dr a b) (n : Nat) : Dr a (b.drewN n) := h.trans ⟨n, rfl⟩
theorem Dr.below {w w' : World} (h : Dr w w') : Below w.heap.size w w' := by
 obtain ⟨n, rfl⟩ := h
 exact bdrewN (zB _ _) n
theorem quiet_same {P : Program} {f : FuncId} {args : Array Value} {w : World} {n : Nat} {v : Value}
 (h : Calls P f args (w.drewN n) fun e w' => e = .returned v ∧ w.drewN n = w') : Calls P f args (w.drewN n) fun e w'' => e = .returned v ∧ ∃ m, w'' = w.drewN m :=
 Calls.quiet_of_same (h.mono fun _ _ ⟨he, hw⟩ => ⟨he, hw.symm⟩)
theorem letter_any (c : Nat) (w : World) :
 Calls Tryz.prog 130 #[.int .u8 c] w fun e w' => e = .returned (.bool (NM.lett c)) ∧ w = w' := by
 go_enter Tryz.func130, Tryz.ntmps130
 go_wp2
 all_goals
  go_ret
  exact ⟨ret_eq (bool_eq (by unfold NM.lett; rw [Bool.eq_iff_iff]; simp <;> omega)), rfl⟩
theorem inner_any (c : Nat) (w : World) :
 Calls Tryz.prog 133 #[.int .u8 c] w fun e w' => e = .returned (.bool (NM.innr c)) ∧ w = w' := by
 cases hl : NM.lett c
 all_goals
  have HL := zh hl
  clear hl
  go_enter Tryz.func133, Tryz.ntmps133
  go_wp2_with (go_at_call 130; refine (letter_any _ _).mono ?_; rintro e w' ⟨rfl, rfl⟩; rw [HL.out])
  all_goals
   go_ret
   exact ⟨ret_eq (bool_eq (by unfold NM.innr; rw [HL.out]; rw [Bool.eq_iff_iff]; simp <;> omega)), rfl⟩
end
section
open Go.RowKit
theorem nless_any (a b : ByteArray) (w : World) :
 Calls Tryz.prog 64 #[.string a, .string b] w fun e w' => e = .returned (.bool (NM.less a b)) ∧ w = w' := by
 go_enter Tryz.func64, Tryz.ntmps64
 go_wp2
 go_ret
 exact ⟨rfl, rfl⟩
theorem refLess_any (a b : ByteArray) (w : World) (hla : a.size ≤ 4294967296) (hlb : b.size ≤ 4294967296) :
 Calls Tryz.prog 65 #[.string a, .string b] w fun e w' => e = .returned (.bool (NM.less a b)) ∧ Dr w w' := by
 go_enter Tryz.func65, Tryz.ntmps65
 go_wp2
 go_loopw [5] (fun iv wr => ∃ i : Nat, i ≤ a.size ∧ i ≤ b.size ∧ iv = .int .i64 i ∧ Hid (a.data.toList.take i = b.data.toList.take i) ∧ Dr w wr) (fun iv _ => a.size - (intOf iv).toNat)
 case atStart => exact ⟨0, by omega, by omega, rfl, rfl, Dr.refl w⟩
 case round =>
  obtain ⟨i, hi1, hi2, rfl, HT, hd⟩ := hrel
  by_cases hlt : i < a.size
  ·by_cases hlt2 : i < b.size
   ·have HLA := zh (@NM.less_at a b i hlt hlt2)
    have HTM := zh (@NM.take_more a b i hlt hlt2)
    go_wp2
    go_quiet (fail)
    go_wp2
    ·rename_i hne _ _
     have hne2 : a[i].toNat ≠ b[i].toNat := by
      simp only [bne_iff_ne, ne_eq] at hne
      omega
     have HNE := zh hne2
     clear hne hne2
     go_quiet (fail)
     go_wp2
     go_ret
     refine ⟨ret_eq (bool_eq ?_), (hd.more _).more _⟩
     rw [HLA.out HT.out HNE.out]
    ·have heq2 : a[i].toNat = b[i].toNat := by
      have h := ‹((a[i].toNat : Int) != (b[i].toNat : Int)) = false›
      simp at h
      omega
     go_roundw
     case rel => exact ⟨i + 1, by omega, by omega, by go_num, HTM.out HT.out heq2, hd.more _⟩
     case measure => simp [intOf]; omega
   ·have HE := zh (@NM.less_end a b i hi1 hi2 HT.out (.inr (by omega)))
    have : i = b.size := by omega
    have hab : ¬ a.size < b.size := by omega
    go_wp2
    go_ret
    exact ⟨ret_eq (bool_eq (by rw [HE.out]; rw [Bool.eq_iff_iff]; simp <;> omega)), hd⟩
  ·have HE := zh (@NM.less_end a b i hi1 hi2 HT.out (.inl (by omega)))
   go_wp2
   go_ret
   exact ⟨ret_eq (bool_eq (by rw [HE.out])), hd⟩
theorem first_any (n : Nat) (p : Nat → Bool) (f : FuncId) (cap : Array Value) (w : World) (hn : n ≤ 4294967296)
 (hf : ∀ args w, (callFunc f args).run Tryz.prog w = .ok (.enter f args) w) (Inv : Nat → World → Prop) (h0 : Inv 0 w)
 (H : ∀ j W, j < n → Inv j W → (∀ i, i < j → p i = false) → Calls Tryz.prog f (#[.int .i64 (j : Nat)] ++ cap) W fun e W' => e = .returned (.bool (p j)) ∧ Inv (j + 1) W') :
 Calls Tryz.prog 131 #[.int .i64 n, .func (.func f) #[] cap] w fun e w' => e = .returned (.int .i64 (NM.fst p n)) ∧ ∃ j, Inv j w' := by
 have HH := zh H; clear H
 have H0 := zh h0; clear h0
 go_enter Tryz.func131, Tryz.ntmps131
 go_wp2
 go_loopw [7] (fun iv wr => ∃ i : Nat, i ≤ n ∧ iv = .int .i64 i ∧ Hid (∀ j, j < i → p j = false) ∧ Hid (Inv i wr)) (fun iv _ => n - (intOf iv).toNat)
 case atStart => exact ⟨0, by omega, rfl, fun j hj => by omega, H0.out⟩
 case round =>
  obtain ⟨i, hi, rfl, HF, HI⟩ := hrel
  by_cases hlt : i < n
  ·have HC := zh (HH.out i wr hlt HI.out HF.out)
   cases hp : p i
   all_goals
        rw [hp] at HC
        have HP := zh hp; clear hp
        go_wp2_with fail
        refine HC.out.mono ?_
        rintro e W ⟨rfl, hI2⟩
        have HI2 := zh hI2; clear hI2
        go_wp2
   ·go_roundw
    case rel =>
     refine ⟨i + 1, by omega, by go_num, ?_, HI2.out⟩
     show ∀ j, j < i + 1 → p j = false
     intro j hj
     by_cases hjk : j = i
     ·rw [hjk]; exact HP.out
     ·exact HF.out j (by omega)
    case measure => simp [intOf]; omega
   ·go_ret
    exact ⟨ret_eq (int_eq (NM.fst_hit hlt HP.out HF.out).symm), i + 1, HI2.out⟩
  ·obtain rfl : i = n := by omega
   go_wp2
   go_ret
   exact ⟨ret_eq (int_eq (NM.fst_miss HF.out).symm), i, HI.out⟩
theorem first_dr (n : Nat) (p : Nat → Bool) (f : FuncId) (cap : Array Value) (w : World) (hn : n ≤ 4294967296)
 (hf : ∀ args w, (callFunc f args).run Tryz.prog w = .ok (.enter f args) w)
 (H : ∀ j m, j < n → (∀ i, i < j → p i = false) → Calls Tryz.prog f (#[.int .i64 (j : Nat)] ++ cap) (w.drewN m) fun e W' => e = .returned (.bool (p j)) ∧ Dr (w.drewN m) W') :
 Calls Tryz.prog 131 #[.int .i64 n, .func (.func f) #[] cap] w fun e w' => e = .returned (.int .i64 (NM.fst p n)) ∧ Dr w w' := by
 refine (first_any n p f cap w hn hf (fun _ W => Dr w W) (Dr.refl w) ?_).mono ?_
 ·rintro j W hj ⟨m, rfl⟩ h0
  refine (H j m hj h0).mono ?_
  rintro e W' ⟨rfl, hd⟩
  exact ⟨rfl, Dr.trans ⟨m, rfl⟩ hd⟩
 ·rintro e w' ⟨rfl, j, hd⟩
  exact ⟨rfl, hd⟩
theorem right1_any (s : ByteArray) (g : Nat) (w : World) (hs : w.cell? ⟨g, 0, none⟩ = some (.string s)) (j : Nat) (hj : j < s.size) (_hl : s.size ≤ 4294967296) :
 Calls Tryz.prog 132 #[.int .i64 j, .pointer (some ⟨g, 0, none⟩)] w fun e w' => e = .returned (.bool (!NM.innr (s.data.toList.getD j 0).toNat)) ∧ w = w' := by
 rw [NM.byte_at hj]
 go_enter Tryz.func132, Tryz.ntmps132
 go_wp2_with (go_at_call 133; refine (inner_any _ _).mono ?_; rintro e w' ⟨rfl, rfl⟩)
 go_ret
 exact ⟨rfl, rfl⟩
theorem right_none (s : ByteArray) (w : World) (h : s.size < 1 ∨ 16 < s.size) :
 Calls Tryz.prog 101 #[.string s] w fun e w' => e = .returned (.bool (NM.right s)) ∧ Below w.heap.size w w' := by
 have e : NM.right s = false := by
  unfold NM.right
  rcases h with h | h
  ·rw [show decide (1 ≤ s.size) = false by rw [decide_eq_false_iff_not]; omega]; simp
  ·rw [show decide (s.size ≤ 16) = false by rw [decide_eq_false_iff_not]; omega]; simp
 rw [e]
 clear e
 rcases h with h | h
 all_goals
  try have h' : ¬ s.size < 1 := by omega
  go_enter Tryz.func101, Tryz.ntmps101
  go_wp2
  go_ret
  exact ⟨rfl, (zB _ _).alloc (zL _) _⟩
theorem right_some (s : ByteArray) (w : World) (h1 : 1 ≤ s.size) (h16 : s.size ≤ 16) :
 Calls Tryz.prog 101 #[.string s] w fun e w' => e = .returned (.bool (NM.right s)) ∧ Below w.heap.size w w' := by
 have hb0 := @NM.byte_at s 0 (by omega)
 have h0 : 0 < s.size := by omega
 have e : NM.right s = (NM.lett (s.data.toList.getD 0 0).toNat && decide (NM.fst (fun j => !NM.innr (s.data.toList.getD j 0).toNat) s.size < 0)) := by
  unfold NM.right NM.tailOk
  rw [zE h1, zE h16, NM.fst_neg, Bool.true_and, Bool.true_and]
  cases hl : NM.lett (s.data.toList.getD 0 0).toNat
  ·rfl
  ·rw [Bool.true_and, Bool.true_and, decide_eq_decide]
   constructor
   ·intro H j hj
    by_cases hj0 : j = 0
    ·rw [hj0]; simp only [NM.innr, hl, Bool.true_or, Bool.not_true]
    ·rw [H j hj (by omega)]; rfl
   ·intro H j hj _
    have := H j hj
    simpa using this
 rw [e]
 rw [hb0]
 have HB0 := zh hb0; clear e hb0
 have hc := (Box.new w 9 (.string s)).cell
 cases hl : NM.lett s[0].toNat
 ·have HL := zh hl; clear hl
  go_enter Tryz.func101, Tryz.ntmps101
  go_wp2_with (go_at_call 130; refine (letter_any _ _).mono ?_; rintro e w' ⟨rfl, rfl⟩; rw [HL.out])
  go_ret
  exact ⟨rfl, (zB _ _).alloc (zL _) _⟩
 ·have HL := zh hl; clear hl
  have hfb := NM.fst_bd (fun j => !NM.innr (s.data.toList.getD j 0).toNat) s.size
  have hmf : ∀ (fn : Fn) (first cap : Array Value) (w : World), (Instr.makeFunc fn first cap).run Tryz.prog w = .ok (.func fn first cap) w := fun _ _ _ _ => rfl
  go_enter Tryz.func101, Tryz.ntmps101
  go_wp2_with (go_at_call 130; refine (letter_any _ _).mono ?_; rintro e w' ⟨rfl, rfl⟩; rw [HL.out])
  refine (first_dr s.size (fun j => !NM.innr (s.data.toList.getD j 0).toNat) 132 #[.pointer (some ⟨w.heap.size, 0, none⟩)] _ (by omega) (fun _ _ => by kernel_rfl) ?_).mono ?_
  ·intro j m hj _
   refine (right1_any s w.heap.size ((w.alloc (.cells #[.string s] 9)).drewN m) hc j hj (by omega)).mono ?_
   rintro e w' ⟨rfl, rfl⟩
   exact ⟨rfl, Dr.refl _⟩
  ·rintro e w' ⟨rfl, hd⟩
   have HD := zh hd; clear hd
   go_wp2
   go_ret
   refine ⟨ret_eq (bool_eq (by simp)), ((zB _ _).alloc (zL _) _).trans (HD.out.below.mono (by simp))⟩
theorem right_any (s : ByteArray) (w : World) :
 Calls Tryz.prog 101 #[.string s] w fun e w' => e = .returned (.bool (NM.right s)) ∧ Below w.heap.size w w' := by
 by_cases h : 1 ≤ s.size ∧ s.size ≤ 16
 ·exact right_some s w h.1 h.2
 ·exact right_none s w (by omega)
end
section
open Go.RowKit
def scells (xs : List ByteArray) : List Value := xs.map Value.string
def Strs (w : World) (A : Option Addr) (xs : List ByteArray) : Prop := Sl w w.heap.size A (scells xs)
theorem Strs.below {w w' : World} {A : Option Addr} {xs : List ByteArray} (h : Strs w A xs) (hb : Below w.heap.size w w') : Strs w' A xs := (Sl.below h hb).mono hb.size
theorem Strs.at {w : World} {A : Option Addr} {xs : List ByteArray} (h : Strs w A xs) {k : Nat} (hk : k < xs.length) :
 ∃ b o, A = some ⟨b, o, none⟩ ∧ ∀ j, j < xs.length → w.cell? ⟨b, o + j, none⟩ = some (.string (xs.getD j ⟨#[]⟩)) := by
 obtain ⟨b, o, hA, _, hc⟩ := h (by unfold scells; intro e; rw [List.map_eq_nil_iff] at e; subst e; simp at hk)
 refine ⟨b, o, hA, fun j hj => hc j _ ?_⟩
 unfold scells
 rw [List.getElem?_map, List.getD_eq_getElem?_getD, List.getElem?_eq_getElem hj]
 rfl
def idx (xs : List ByteArray) (s : ByteArray) : Int := NM.fst (fun j => decide (xs.getD j ⟨#[]⟩ = s)) xs.length
def same (xs ys : List ByteArray) : Bool := decide (xs = ys)
end
section
open Go.RowKit Go.Maps
theorem lawStr : Keyed Tryz.prog 9 := string_keyed Tryz.underlying9
theorem zeroInt (w : World) : (zeroValue 3).run Tryz.prog w = .ok (.int .i64 0) w := by kernel_rfl
def Cnt (W : World) (B n : Nat) (f : ByteArray → Nat) : Prop :=
 ∃ D : DataW Unit, W.ownsMap Tryz.prog 9 (plainElem Tryz.prog 3) B n D ∧ IsMap D ∧ ∀ s : ByteArray, s.size ≤ maxLen → D.atKey (.string s.data.toList) (.lit (.int .i64 0)) = .lit (.int .i64 (f s))
section
variable {W W' : World} {B n : Nat} {f : ByteArray → Nat}
theorem Cnt.kept {row : Option Nat} (h : Cnt W B n f) (hg : W.grownBy W' row) (hne : some B ≠ row) : Cnt W' B n f := by
 obtain ⟨D, h1, h2, h3⟩ := h
 exact ⟨D, h1.kept hg hne, h2, h3⟩
theorem Cnt.drewN (h : Cnt W B n f) (m : Nat) : Cnt (W.drewN m) B n f := h
theorem Cnt.drew (h : Cnt W B n f) : Cnt W.drew B n f := h
theorem Cnt.lt (h : Cnt W B n f) : B < W.heap.size := by
 obtain ⟨D, h1, _⟩ := h
 exact h1.lt
theorem Cnt.new (w : World) : Cnt (w.alloc (.map #[] 0)) w.heap.size 0 (fun _ => 0) :=
 ⟨.map [], World.ownsMap_made _ _ _ _, isMap_empty, fun _ _ => rfl⟩
theorem Cnt.look (h : Cnt W B n f) {s : ByteArray} (hs : s.size ≤ maxLen) : (Instr.lookup 154 (.map (some B)) (.string s) false).run Tryz.prog W = .ok (.int .i64 (f s)) W := by
 obtain ⟨D, h1, _, h3⟩ := h
 obtain ⟨c, hrun, hat, _⟩ := h1.lookup_int lawStr Tryz.underlying154 Tryz.underlying3 (zeroInt _) (WideMaps.keyOf_string_mk Tryz.underlying9 hs)
 rw [h3 s hs] at hat
 simp only [DataW.lit.injEq, Lit.int.injEq, true_and] at hat
 rw [hat]
 exact hrun
end
theorem wpList_cnt {w : World} {ops : Array Oper} {rest : List Oper} {o : Oper} {a : Act} {Q : Exit → Act → World → Prop}
 (hg : o.guard = none) (m x v : Operand) (hop : o.op = Op.mapUpdate 154 m x v) (B n : Nat) (f : ByteArray → Nat)
 (hm : a.eval m = .map (some B)) (hc : Cnt w B n f) (hn : n < maxLen) (s : ByteArray) (hs : s.size ≤ maxLen) (c : Nat) (hcb : c < 4294967300) (hx : a.eval x = .string s) (hv : a.eval v = .int .i64 c)
 (hK : ∀ w', Cnt w' B (n + 1) (fun t => if t = s then c else f t) → w.grownBy w' (some B) → wpList Tryz.prog ops Q rest (a.put o.dst undef) w') :
 wpList Tryz.prog ops Q (o :: rest) a w := by
 obtain ⟨D, h1, h2, h3⟩ := hc
 refine wpList_mapUpdate_own w hg m x v 154 hop 9 3 lawStr Tryz.underlying154 _ B n D hm h1 hn _ _ _ hx hv (WideMaps.keyOf_string_mk Tryz.underlying9 hs) _ [] (plainElem_int Tryz.underlying3 (WalkArith.wf_i64 (by omega))) ?_
 intro w' hown hgr
 refine hK w' ⟨_, hown, h2.put _ _, fun t ht => ?_⟩ hgr
 by_cases hts : t = s
 ·subst hts
  rw [atKey_put_same h2 (by simp [WideAt.IsKeyLit])]
  simp
 ·have e2 : ((fun t => if t = s then c else f t) t) = f t := if_neg hts
  rw [e2, atKey_put_other, h3 t ht]
  intro e
  apply hts
  simp only [Lit.string.injEq] at e
  cases t; cases s
  simp only [ByteArray.mk.injEq]
  exact Array.toList_inj.1 e
def sct (xs : List ByteArray) (j : Nat) (s : ByteArray) : Nat := (xs.take j).countP fun x => decide (x = s)
theorem sct_zero (xs : List ByteArray) : sct xs 0 = fun _ => 0 := by funext s; rfl
theorem sct_succ (xs : List ByteArray) (j : Nat) (hj : j < xs.length) (s : ByteArray) : sct xs (j + 1) s = if s = xs.getD j ⟨#[]⟩ then sct xs j (xs.getD j ⟨#[]⟩) + 1 else sct xs j s := by
 have e : xs.getD j ⟨#[]⟩ = xs[j] := by rw [List.getD_eq_getElem?_getD, List.getElem?_eq_getElem hj]; rfl
 rw [e]
 unfold sct
 rw [List.take_succ_eq_append_getElem hj, List.countP_append, List.countP_singleton]
 by_cases h : s = xs[j]
 ·subst h; simp
 ·rw [if_neg h, if_neg (by rw [decide_eq_true_eq]; exact fun e => h e.symm)]; rfl
theorem sct_le (xs : List ByteArray) (j : Nat) (s : ByteArray) : sct xs j s ≤ j := by
 unfold sct
 exact zM List.countP_le_length (by rw [List.length_take]; omega)
def twice (xs : List ByteArray) (j : Nat) : Bool := decide (idx xs (xs.getD j ⟨#[]⟩) < j)
theorem twice_sct (xs : List ByteArray) (j : Nat) (hj : j < xs.length) : twice xs j = decide (1 < sct xs j (xs.getD j ⟨#[]⟩) + 1) := by
 unfold twice
 rw [decide_eq_decide]
 have hc : 1 < sct xs j (xs.getD j ⟨#[]⟩) + 1 ↔ xs.getD j ⟨#[]⟩ ∈ xs.take j := by
  unfold sct
  have h := List.countP_pos_iff (p := fun x => decide (x = xs.getD j ⟨#[]⟩)) (l := xs.take j)
  constructor
  ·intro h1
   obtain ⟨a, ha, hp⟩ := h.1 (by omega)
   rw [decide_eq_true_eq] at hp
   rw [← hp]; exact ha
  ·intro h1
   have := h.2 ⟨_, h1, zE rfl⟩
   omega
 rw [hc]
 unfold idx
 rcases NM.fst_cases (fun i => decide (xs.getD i ⟨#[]⟩ = xs.getD j ⟨#[]⟩)) xs.length with ⟨k, hk, e, hp, h0⟩ | ⟨e, h0⟩
 ·rw [e]
  constructor
  ·intro h
   rw [List.mem_iff_getElem]
   have hp2 : xs.getD k ⟨#[]⟩ = xs.getD j ⟨#[]⟩ := by simpa using hp
   refine ⟨k, by rw [List.length_take]; omega, ?_⟩
   rw [List.getElem_take, ← hp2, List.getD_eq_getElem?_getD, List.getElem?_eq_getElem hk]; rfl
  ·intro h
   rw [List.mem_iff_getElem] at h
   obtain ⟨i, hi, he⟩ := h
   rw [List.length_take] at hi
   rw [List.getElem_take] at he
   rcases Nat.lt_or_ge i k with h1 | h1
   ·have := h0 i h1
    rw [List.getD_eq_getElem?_getD, List.getElem?_eq_getElem (show i < xs.length by omega)] at this
    simp [he] at this
   ·omega
 ·exact absurd (h0 j hj) (by simp)
def twc (xs : List ByteArray) : Int := NM.fst (twice xs) xs.length
theorem twice1_any (b o c : Nat) (n : Nat) (x : ByteArray) (g gs B : Nat) (w : World) (hn : n ≤ 4294967296) (hx : x.size ≤ 4294967296) (f : ByteArray → Nat) (hf : f x ≤ 4294967296)
 (hg : w.cell? ⟨g, 0, none⟩ = some (.map (some B))) (hgs : w.cell? ⟨gs, 0, none⟩ = some (.slice (some ⟨b, o, none⟩) n c)) (hgB : g ≠ B) (hgsB : gs ≠ B) (hbB : b ≠ B) (j : Nat) (hj : j < n) (hcell : w.cell? ⟨b, o + j, none⟩ = some (.string x)) (hc : Cnt w B j f) :
 Calls Tryz.prog 183 #[.int .i64 j, .pointer (some ⟨g, 0, none⟩), .pointer (some ⟨gs, 0, none⟩)] w fun e w' => e = .returned (.bool (decide (1 < f x + 1))) ∧ w.grownBy w' (some B) ∧ Cnt w' B (j + 1) (fun t => if t = x then f x + 1 else f t) := by
 have hx2 : x.size ≤ maxLen := by unfold maxLen; omega
 have hlook := hc.drew.look hx2
 have hg0 := World.block_lt_of_cell? w _ hg
 have hgs0 := World.block_lt_of_cell? w _ hgs
 have hb0 := World.block_lt_of_cell? w _ hcell
 have HX2 := zh hx2; clear hx2
 go_enter Tryz.func183, Tryz.ntmps183
 go_wp2
 go_still_tail 7, (by kernel_rfl)
 change wpList _ _ _ _ _ w.drew
 refine wpList_cnt rfl _ _ _ rfl B j f rfl hc.drew (by unfold maxLen; omega) x HX2.out (f x + 1) (by omega) rfl (int_eq (by rw [IntWalk.i64_in _ ⟨by omega, by omega⟩]; rfl)) ?_
 intro w1 hc1 hgr
 have hgr2 : w.grownBy w1 (some B) := ⟨hgr.os, hgr.tape, hgr.output, hgr.size, hgr.block⟩
 clear hgr
 have hg1 : w1.cell? ⟨g, 0, none⟩ = some (.map (some B)) := hgr2.cell hg (by simp; exact hgB)
 have hgs1 : w1.cell? ⟨gs, 0, none⟩ = some (.slice (some ⟨b, o, none⟩) n c) := hgr2.cell hgs (by simp; exact hgsB)
 have hcell1 : w1.cell? ⟨b, o + j, none⟩ = some (.string x) := hgr2.cell hcell (by simp; exact hbB)
 have hlook1 : ∀ m, (Instr.lookup 154 (.map (some B)) (.string x) false).run Tryz.prog (w1.drewN m) = .ok (.int .i64 ((f x : Int) + 1)) (w1.drewN m) := by
  intro m
  have h := (hc1.drewN m).look HX2.out
  simpa using h
 have HC1 := zh hc1
 have HGR := zh hgr2
 clear hlook hg hgs hcell hc hc1 hgr2
 simp only [Act.put]
 go_wp2
 go_quiet (fail)
 go_wp2
 go_ret
 refine ⟨ret_eq (bool_eq ?_), ?_, HC1.out.drewN _⟩
 ·rw [Bool.eq_iff_iff]; simp <;> omega
 ·exact ⟨HGR.out.os, HGR.out.tape, HGR.out.output, HGR.out.size, HGR.out.block⟩
def TwInv (w0 : World) (g gs B : Nat) (A : Option Addr) (n c : Nat) (xs : List ByteArray) (j : Nat) (W : World) : Prop :=
 Box W g 154 (.map (some B)) ∧ Box W gs 59 (.slice A n c) ∧ Cnt W B j (sct xs j) ∧ Below w0.heap.size w0 W
theorem twice_call (A : Option Addr) (c : Nat) (xs : List ByteArray) (w0 : World) (hl : xs.length ≤ 4294967296) (hs : ∀ x ∈ xs, x.size ≤ 4294967296) (hA : Strs w0 A xs) (g gs B : Nat) (hB : w0.heap.size ≤ B) (hgB : g ≠ B) (hgsB : gs ≠ B)
 (W : World) (hI : TwInv w0 g gs B A xs.length c xs 0 W) :
 Calls Tryz.prog 131 #[.int .i64 xs.length, .func (.func 183) #[] #[.pointer (some ⟨g, 0, none⟩), .pointer (some ⟨gs, 0, none⟩)]] W fun e w' => e = .returned (.int .i64 (twc xs)) ∧ Below w0.heap.size w0 w' := by
 refine (first_any xs.length (twice xs) 183 #[.pointer (some ⟨g, 0, none⟩), .pointer (some ⟨gs, 0, none⟩)] W hl (fun _ _ => by kernel_rfl) (TwInv w0 g gs B A xs.length c xs) hI ?_).mono ?_
 ·rintro j W hj ⟨hb1, hb2, hc, hbl⟩ _
  obtain ⟨b, o, rfl, hlt, hcs⟩ := hA (by unfold scells; intro e; rw [List.map_eq_nil_iff] at e; subst e; simp at hj)
  have hcell : w0.cell? ⟨b, o + j, none⟩ = some (.string (xs.getD j ⟨#[]⟩)) := by
   refine hcs j _ ?_
   unfold scells
   rw [List.getElem?_map, List.getD_eq_getElem?_getD, List.getElem?_eq_getElem hj]
   rfl
  have hmem : xs.getD j ⟨#[]⟩ ∈ xs := by
   rw [List.getD_eq_getElem?_getD, List.getElem?_eq_getElem hj]
   exact List.getElem_mem hj
  refine (twice1_any b o c xs.length (xs.getD j ⟨#[]⟩) g gs B W hl (hs _ hmem) (sct xs j) (zM (sct_le xs j _) (by omega)) hb1.cell hb2.cell hgB hgsB (by omega) j hj ((hbl.cell (p := ⟨b, o + j, none⟩) hlt).trans hcell) hc).mono ?_
  rintro e W' ⟨rfl, hgr, hc'⟩
  refine ⟨ret_eq (bool_eq (twice_sct xs j hj).symm), hb1.grown hgr (by simp; omega), hb2.grown hgr (by simp; omega), ?_, hbl.grown hgr hbl.size (fun k hk => by cases hk; exact hB)⟩
  have e : sct xs (j + 1) = fun t => if t = xs.getD j ⟨#[]⟩ then sct xs j (xs.getD j ⟨#[]⟩) + 1 else sct xs j t := funext (sct_succ xs j hj)
  rw [e]
  exact hc'
 ·rintro e w' ⟨rfl, j, _, _, _, hb⟩
  exact ⟨rfl, hb⟩
theorem tw_start (A : Option Addr) (n c : Nat) (xs : List ByteArray) (w : World) :
 TwInv w (w.heap.size + 1 + 1) w.heap.size (w.heap.size + 1) A n c xs 0 (((w.alloc (.cells #[.slice A n c] 59)).alloc (.map #[] 0)).alloc (.cells #[.map (some (w.heap.size + 1))] 154)) := by
 refine ⟨?_, ((Box.new w _ _).alloc _).alloc _, ?_, (((zB _ _).alloc (zL _) _).alloc (by simp) _).alloc (by simp; omega) _⟩
 ·have h := Box.new ((w.alloc (.cells #[.slice A n c] 59)).alloc (.map #[] 0)) 154 (.map (some (w.heap.size + 1)))
  rw [show ((w.alloc (.cells #[.slice A n c] 59)).alloc (.map #[] 0)).heap.size = w.heap.size + 1 + 1 by simp] at h
  exact h
 ·have h := (Cnt.new (w.alloc (.cells #[.slice A n c] 59))).kept (World.grownBy_alloc _ (.cells #[.map (some (w.heap.size + 1))] 154) none) (by simp)
  rw [show (w.alloc (.cells #[.slice A n c] 59)).heap.size = w.heap.size + 1 by simp] at h
  rw [sct_zero]
  exact h
theorem twice_any (A : Option Addr) (c : Nat) (xs : List ByteArray) (w : World) (hl : xs.length ≤ 4294967296) (hs : ∀ x ∈ xs, x.size ≤ 4294967296) (hA : Strs w A xs) :
 Calls Tryz.prog 162 #[.slice A xs.length c] w fun e w' => e = .returned (.int .i64 (twc xs)) ∧ Below w.heap.size w w' := by
 have hmm := @run_makeMap Tryz.prog
 have hmf : ∀ (fn : Fn) (first cap : Array Value) (w : World), (Instr.makeFunc fn first cap).run Tryz.prog w = .ok (.func fn first cap) w := fun _ _ _ _ => rfl
 have HC := zh (twice_call A c xs w hl hs hA)
 clear hA hs
 have hst := tw_start A xs.length c xs w
 have HS := zh hst; clear hst
 go_enter Tryz.func162, Tryz.ntmps162
 go_wp2_with fail
 refine (HC.out (w.heap.size + 1 + 1) w.heap.size (w.heap.size + 1) (by omega) (by omega) (by omega) _ HS.out).mono ?_
 rintro e w' ⟨rfl, hb⟩
 go_wp2
 go_ret
 exact ⟨rfl, hb⟩
end
section
namespace NM
def bl (s : ByteArray) : List UInt8 := s.data.toList
def lb (l : List UInt8) : ByteArray := ⟨l.toArray⟩
end NM
end
end Go.Proofs.YtnfndapgcpdcpaaGreatDoor
