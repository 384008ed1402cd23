/-
  The order of strings and names, as the program and the document's answer have them; the search under a condition. Conditions: strings below 2^32 bytes.
-/
import Derived.Test.YtjmhnbokojkceaaNameA
namespace Go.Proofs.Ytjmhnbokojkceaa
open Go.RowKit

theorem less_any (a b : ByteArray) (w : World) :
    Calls Try.prog 11 #[.string a, .string b] w fun e w' => e = .returned (.bool (NM.less a b)) ∧ w = w' := by
  go_enter Try.func11, Try.ntmps11
  go_wp2
  go_ret
  exact ⟨rfl, rfl⟩
set_option maxHeartbeats 400000 in
theorem refLess_any (a b : ByteArray) (w : World) (hla : a.size ≤ 4294967296) (hlb : b.size ≤ 4294967296) :
    Calls Try.prog 12 #[.string a, .string b] w fun e w' => e = .returned (.bool (NM.less a b)) ∧ Dr w w' := by
  go_enter Try.func12, Try.ntmps12
  go_wp2
  go_loopw [5] (fun iv wr => ∃ i : Nat, i ≤ a.size ∧ i ≤ b.size ∧ iv = .int .i64 i ∧ Hid (a.data.toList.take i = b.data.toList.take i) ∧ Dr w wr) (fun iv _ => a.size - (intOf iv).toNat)
  case atStart => exact ⟨0, by omega, by omega, rfl, rfl, Dr.refl w⟩
  case round =>
    obtain ⟨i, hi1, hi2, rfl, HT, hd⟩ := hrel
    by_cases hlt : i < a.size
    · by_cases hlt2 : i < b.size
      · have HLA := Lib.hid (@NM.less_at a b i hlt hlt2)
        have HTM := Lib.hid (@NM.take_more a b i hlt hlt2)
        go_wp2
        go_quiet (fail)
        go_wp2
        · rename_i hne _ _
          have hne2 : a[i].toNat ≠ b[i].toNat := by
            simp only [bne_iff_ne, ne_eq] at hne
            omega
          have HNE := Lib.hid hne2
          clear hne hne2
          go_quiet (fail)
          go_wp2
          go_ret
          refine ⟨ret_eq (bool_eq ?_), (hd.more _).more _⟩
          rw [HLA.out HT.out HNE.out]
        · have heq2 : a[i].toNat = b[i].toNat := by
            have h := ‹((a[i].toNat : Int) != (b[i].toNat : Int)) = false›
            simp at h
            omega
          go_roundw
          case rel => exact ⟨i + 1, by omega, by omega, by go_num, HTM.out HT.out heq2, hd.more _⟩
          case measure => simp [intOf]; omega
      · have HE := Lib.hid (@NM.less_end a b i hi1 hi2 HT.out (.inr (by omega)))
        have : i = b.size := by omega
        have hab : ¬ a.size < b.size := by omega
        go_wp2
        go_ret
        exact ⟨ret_eq (bool_eq (by rw [HE.out]; rw [Bool.eq_iff_iff]; simp <;> omega)), hd⟩
    · have HE := Lib.hid (@NM.less_end a b i hi1 hi2 HT.out (.inl (by omega)))
      go_wp2
      go_ret
      exact ⟨ret_eq (bool_eq (by rw [HE.out])), hd⟩

/-- The search, under whatever condition with whatever is captured: what is known behind j calls is handed on. -/
theorem first_any (n : Nat) (p : Nat → Bool) (f : FuncId) (cap : Array Value) (w : World) (hn : n ≤ 4294967296)
    (hf : ∀ args w, (callFunc f args).run Try.prog w = .ok (.enter f args) w) (Inv : Nat → World → Prop) (h0 : Inv 0 w)
    (H : ∀ j W, j < n → Inv j W → (∀ i, i < j → p i = false) → Calls Try.prog f (#[.int .i64 (j : Nat)] ++ cap) W fun e W' => e = .returned (.bool (p j)) ∧ Inv (j + 1) W') :
    Calls Try.prog 24 #[.int .i64 n, .func (.func f) #[] cap] w fun e w' => e = .returned (.int .i64 (NM.fst p n)) ∧ ∃ j, Inv j w' := by
  have HH := Lib.hid H; clear H
  have H0 := Lib.hid h0; clear h0
  go_enter Try.func24, Try.ntmps24
  go_wp2
  go_loopw [7] (fun iv wr => ∃ i : Nat, i ≤ n ∧ iv = .int .i64 i ∧ Hid (∀ j, j < i → p j = false) ∧ Hid (Inv i wr)) (fun iv _ => n - (intOf iv).toNat)
  case atStart => exact ⟨0, by omega, rfl, fun j hj => by omega, H0.out⟩
  case round =>
    obtain ⟨i, hi, rfl, HF, HI⟩ := hrel
    by_cases hlt : i < n
    · have HC := Lib.hid (HH.out i wr hlt HI.out HF.out)
      cases hp : p i
      all_goals
        rw [hp] at HC
        have HP := Lib.hid hp; clear hp
        go_wp2_with fail
        refine HC.out.mono ?_
        rintro e W ⟨rfl, hI2⟩
        have HI2 := Lib.hid hI2; clear hI2
        go_wp2
      · go_roundw
        case rel =>
          refine ⟨i + 1, by omega, by go_num, ?_, HI2.out⟩
          show ∀ j, j < i + 1 → p j = false
          intro j hj
          by_cases hjk : j = i
          · rw [hjk]; exact HP.out
          · exact HF.out j (by omega)
        case measure => simp [intOf]; omega
      · go_ret
        exact ⟨ret_eq (int_eq (NM.fst_hit hlt HP.out HF.out).symm), i + 1, HI2.out⟩
    · obtain rfl : i = n := by omega
      go_wp2
      go_ret
      exact ⟨ret_eq (int_eq (NM.fst_miss HF.out).symm), i, HI.out⟩
/-- The same under a condition that only reads. -/
theorem first_dr (n : Nat) (p : Nat → Bool) (f : FuncId) (cap : Array Value) (w : World) (hn : n ≤ 4294967296)
    (hf : ∀ args w, (callFunc f args).run Try.prog w = .ok (.enter f args) w)
    (H : ∀ j m, j < n → (∀ i, i < j → p i = false) → Calls Try.prog f (#[.int .i64 (j : Nat)] ++ cap) (w.drewN m) fun e W' => e = .returned (.bool (p j)) ∧ Dr (w.drewN m) W') :
    Calls Try.prog 24 #[.int .i64 n, .func (.func f) #[] cap] w fun e w' => e = .returned (.int .i64 (NM.fst p n)) ∧ Dr w w' := by
  refine (first_any n p f cap w hn hf (fun _ W => Dr w W) (Dr.refl w) ?_).mono ?_
  · rintro j W hj ⟨m, rfl⟩ h0
    refine (H j m hj h0).mono ?_
    rintro e W' ⟨rfl, hd⟩
    exact ⟨rfl, Dr.trans ⟨m, rfl⟩ hd⟩
  · rintro e w' ⟨rfl, j, hd⟩
    exact ⟨rfl, hd⟩

/-- The condition of Right. -/
theorem right1_any (s : ByteArray) (g : Nat) (w : World) (hs : w.cell? ⟨g, 0, none⟩ = some (.string s)) (j : Nat) (hj : j < s.size) (_hl : s.size ≤ 4294967296) :
    Calls Try.prog 25 #[.int .i64 j, .pointer (some ⟨g, 0, none⟩)] w fun e w' => e = .returned (.bool (!NM.innr (s.data.toList.getD j 0).toNat)) ∧ w = w' := by
  rw [NM.byte_at hj]
  go_enter Try.func25, Try.ntmps25
  go_wp2_with (go_at_call 26; refine (inner_any _ _).mono ?_; rintro e w' ⟨rfl, rfl⟩)
  go_ret
  exact ⟨rfl, rfl⟩
theorem drewN_cell (w : World) (n : Nat) (p : Addr) : (w.drewN n).cell? p = w.cell? p := rfl
theorem right_none (s : ByteArray) (w : World) (h : s.size < 1 ∨ 16 < s.size) :
    Calls Try.prog 9 #[.string s] w fun e w' => e = .returned (.bool (NM.right s)) ∧ Below w.heap.size w w' := by
  have e : NM.right s = false := by
    unfold NM.right
    rcases h with h | h
    · rw [show decide (1 ≤ s.size) = false by rw [decide_eq_false_iff_not]; omega]; simp
    · rw [show decide (s.size ≤ 16) = false by rw [decide_eq_false_iff_not]; omega]; simp
  rw [e]
  clear e
  rcases h with h | h
  all_goals
    try have h' : ¬ s.size < 1 := by omega
    go_enter Try.func9, Try.ntmps9
    go_wp2
    go_ret
    exact ⟨rfl, (Below.refl _ _).alloc (Nat.le_refl _) _⟩
theorem right_some (s : ByteArray) (w : World) (h1 : 1 ≤ s.size) (h16 : s.size ≤ 16) :
    Calls Try.prog 9 #[.string s] w fun e w' => e = .returned (.bool (NM.right s)) ∧ Below w.heap.size w w' := by
  have hb0 := @NM.byte_at s 0 (by omega)
  have h0 : 0 < s.size := by omega
  have e : NM.right s = (NM.lett (s.data.toList.getD 0 0).toNat && decide (NM.fst (fun j => !NM.innr (s.data.toList.getD j 0).toNat) s.size < 0)) := by
    unfold NM.right NM.tailOk
    rw [decide_eq_true h1, decide_eq_true h16, NM.fst_neg, Bool.true_and, Bool.true_and]
    cases hl : NM.lett (s.data.toList.getD 0 0).toNat
    · rfl
    · rw [Bool.true_and, Bool.true_and, decide_eq_decide]
      constructor
      · intro H j hj
        by_cases hj0 : j = 0
        · rw [hj0]; simp only [NM.innr, hl, Bool.true_or, Bool.not_true]
        · rw [H j hj (by omega)]; rfl
      · intro H j hj _
        have := H j hj
        simpa using this
  rw [e]
  rw [hb0]
  have HB0 := Lib.hid hb0; clear e hb0
  have hc := (Box.new w 9 (.string s)).cell
  cases hl : NM.lett s[0].toNat
  · have HL := Lib.hid hl; clear hl
    go_enter Try.func9, Try.ntmps9
    go_wp2_with (go_at_call 23; refine (letter_any _ _).mono ?_; rintro e w' ⟨rfl, rfl⟩; rw [HL.out])
    go_ret
    exact ⟨rfl, (Below.refl _ _).alloc (Nat.le_refl _) _⟩
  · have HL := Lib.hid hl; clear hl
    have hfb := NM.fst_bd (fun j => !NM.innr (s.data.toList.getD j 0).toNat) s.size
    have hmf : ∀ (fn : Fn) (first cap : Array Value) (w : World), (Instr.makeFunc fn first cap).run Try.prog w = .ok (.func fn first cap) w := fun _ _ _ _ => rfl
    go_enter Try.func9, Try.ntmps9
    go_wp2_with (go_at_call 23; refine (letter_any _ _).mono ?_; rintro e w' ⟨rfl, rfl⟩; rw [HL.out])
    refine (first_dr s.size (fun j => !NM.innr (s.data.toList.getD j 0).toNat) 25 #[.pointer (some ⟨w.heap.size, 0, none⟩)] _ (by omega) (fun _ _ => by kernel_rfl) ?_).mono ?_
    · intro j m hj _
      refine (right1_any s w.heap.size ((w.alloc (.cells #[.string s] 9)).drewN m) hc j hj (by omega)).mono ?_
      rintro e w' ⟨rfl, rfl⟩
      exact ⟨rfl, Dr.refl _⟩
    · rintro e w' ⟨rfl, hd⟩
      have HD := Lib.hid hd; clear hd
      go_wp2
      go_ret
      refine ⟨ret_eq (bool_eq (by simp)), ((Below.refl _ _).alloc (Nat.le_refl _) _).trans (HD.out.below.mono (by simp))⟩
theorem right_any (s : ByteArray) (w : World) :
    Calls Try.prog 9 #[.string s] w fun e w' => e = .returned (.bool (NM.right s)) ∧ Below w.heap.size w w' := by
  by_cases h : 1 ≤ s.size ∧ s.size ≤ 16
  · exact right_some s w h.1 h.2
  · exact right_none s w (by omega)
theorem refRight_none (s : ByteArray) (w : World) (h : s.size < 1 ∨ 16 < s.size) :
    Calls Try.prog 10 #[.string s] w fun e w' => e = .returned (.bool (NM.right s)) ∧ Dr w w' := by
  have e : NM.right s = false := by
    unfold NM.right
    rcases h with h | h
    · rw [show decide (1 ≤ s.size) = false by rw [decide_eq_false_iff_not]; omega]; simp
    · rw [show decide (s.size ≤ 16) = false by rw [decide_eq_false_iff_not]; omega]; simp
  rw [e]
  clear e
  rcases h with h | h
  all_goals
    try have h' : ¬ s.size < 1 := by omega
    go_enter Try.func10, Try.ntmps10
    go_wp2
    go_ret
    exact ⟨rfl, Dr.refl _⟩
set_option maxHeartbeats 400000 in
theorem refRight_some (s : ByteArray) (w : World) (h1 : 1 ≤ s.size) (h16 : s.size ≤ 16) :
    Calls Try.prog 10 #[.string s] w fun e w' => e = .returned (.bool (NM.right s)) ∧ Dr w w' := by
  have hb0 := @NM.byte_at s 0 (by omega)
  have h0 : 0 < s.size := by omega
  have e : NM.right s = (NM.lett (s.data.toList.getD 0 0).toNat && NM.tailOk s) := by
    unfold NM.right
    rw [decide_eq_true h1, decide_eq_true h16, Bool.true_and, Bool.true_and]
  rw [e, hb0]
  have HB0 := Lib.hid hb0; clear e hb0
  cases hl : NM.lett s[0].toNat
  · have HL := Lib.hid hl; clear hl
    go_enter Try.func10, Try.ntmps10
    go_wp2_with (go_at_call 27; refine (refLetter_any _ _).mono ?_; rintro e w' ⟨rfl, rfl⟩; rw [HL.out])
    go_ret
    exact ⟨rfl, Dr.refl _⟩
  · have HL := Lib.hid hl; clear hl
    rw [Bool.true_and]
    go_enter Try.func10, Try.ntmps10
    go_wp2_with (go_at_call 27; refine (refLetter_any _ _).mono ?_; rintro e w' ⟨rfl, rfl⟩; rw [HL.out])
    go_loopw [3] (fun iv wr => ∃ i : Nat, 1 ≤ i ∧ i ≤ s.size ∧ iv = .int .i64 i ∧ Hid (∀ j, j < i → 1 ≤ j → NM.innr (s.data.toList.getD j 0).toNat = true) ∧ Dr w wr) (fun iv _ => s.size - (intOf iv).toNat)
    case atStart => exact ⟨1, by omega, by omega, rfl, fun j hj => by omega, Dr.refl w⟩
    case round =>
      obtain ⟨i, hi1, hi2, rfl, HI, hd⟩ := hrel
      by_cases hlt : i < s.size
      · have HB := Lib.hid (@NM.byte_at s i hlt)
        have HNEXT : Hid (NM.innr s[i].toNat = true → ∀ j, j < i + 1 → 1 ≤ j → NM.innr (s.data.toList.getD j 0).toNat = true) := by
          show NM.innr s[i].toNat = true → ∀ j, j < i + 1 → 1 ≤ j → NM.innr (s.data.toList.getD j 0).toNat = true
          intro h j hj h1
          by_cases hji : j = i
          · rw [hji, HB.out]; exact h
          · exact HI.out j (by omega) h1
        have HSTOP : Hid (NM.innr s[i].toNat = false → NM.tailOk s = false) := by
          show NM.innr s[i].toNat = false → NM.tailOk s = false
          intro h
          unfold NM.tailOk
          rw [decide_eq_false_iff_not]
          intro H
          have := H i hlt hi1
          rw [HB.out, h] at this
          cases this
        cases hl : NM.lett s[i].toNat
        · have hin : NM.innr s[i].toNat = (decide (48 ≤ s[i].toNat) && decide (s[i].toNat ≤ 57) || decide (s[i].toNat = 95)) := by unfold NM.innr; rw [hl, Bool.false_or]
          have HLI := Lib.hid hl; clear hl
          by_cases h5 : 48 ≤ s[i].toNat ∧ s[i].toNat ≤ 57
          · obtain ⟨h5a, h5b⟩ := h5
            have hyes : NM.innr s[i].toNat = true := by rw [hin, decide_eq_true h5a, decide_eq_true h5b]; rfl
            have HN := Lib.hid (HNEXT.out hyes); clear hyes hin
            go_wp2_with (go_at_call 27; refine (refLetter_any _ _).mono ?_; rintro e w' ⟨rfl, rfl⟩; rw [HLI.out])
            go_roundw
            case rel => exact ⟨i + 1, by omega, by omega, by go_num, HN.out, hd⟩
            case measure => simp [intOf]; omega
          · by_cases h6 : s[i].toNat = 95
            · have hyes : NM.innr s[i].toNat = true := by rw [hin, decide_eq_true h6, Bool.or_true]
              have HN := Lib.hid (HNEXT.out hyes); clear hyes hin
              have h7 : ((s[i].toNat : Int) != 95) = false := by simp; omega
              have h8 : 57 < s[i].toNat := by omega
              clear h5 h6
              go_wp2_with (go_at_call 27; refine (refLetter_any _ _).mono ?_; rintro e w' ⟨rfl, rfl⟩; rw [HLI.out])
              go_roundw
              case rel => exact ⟨i + 1, by omega, by omega, by go_num, HN.out, hd⟩
              case measure => simp [intOf]; omega
            · have hno : NM.innr s[i].toNat = false := by
                rw [hin, decide_eq_false h6, Bool.or_false]
                by_cases h9 : 48 ≤ s[i].toNat
                · rw [decide_eq_false (show ¬ s[i].toNat ≤ 57 by omega), Bool.and_false]
                · rw [decide_eq_false h9, Bool.false_and]
              have HN := Lib.hid (HSTOP.out hno); clear hno hin
              have h7 : ((s[i].toNat : Int) != 95) = true := by simp; omega
              have h8 : s[i].toNat < 48 ∨ 57 < s[i].toNat := by omega
              clear h5 h6
              rcases h8 with h8 | h8
              all_goals
                go_wp2_with (go_at_call 27; refine (refLetter_any _ _).mono ?_; rintro e w' ⟨rfl, rfl⟩; rw [HLI.out])
                go_ret
                exact ⟨ret_eq (bool_eq HN.out.symm), hd⟩
        · have hyes : NM.innr s[i].toNat = true := by unfold NM.innr; rw [hl]; rfl
          have HLI := Lib.hid hl; clear hl
          have HN := Lib.hid (HNEXT.out hyes); clear hyes
          go_wp2_with (go_at_call 27; refine (refLetter_any _ _).mono ?_; rintro e w' ⟨rfl, rfl⟩; rw [HLI.out])
          go_roundw
          case rel => exact ⟨i + 1, by omega, by omega, by go_num, HN.out, hd⟩
          case measure => simp [intOf]; omega
      · go_wp2
        go_ret
        refine ⟨ret_eq (bool_eq (decide_eq_true fun j hj h1 => HI.out j (by omega) h1).symm), hd⟩
theorem refRight_any (s : ByteArray) (w : World) :
    Calls Try.prog 10 #[.string s] w fun e w' => e = .returned (.bool (NM.right s)) ∧ Dr w w' := by
  by_cases h : 1 ≤ s.size ∧ s.size ≤ 16
  · exact refRight_some s w h.1 h.2
  · exact refRight_none s w (by omega)
end Go.Proofs.Ytjmhnbokojkceaa
