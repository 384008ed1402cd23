/-
  The laws LexReads and LexBack return true. Conditions: none but what the laws ask themselves.
-/
import Derived.Test.YtfhmdambdkmmgaaLexI
namespace Go.Proofs.Ytfhmdambdkmmgaa
open Go.RowKit LX

theorem scan_len {s : ByteArray} (i : Nat) : ∀ (acc R : List Tk), scan s i acc = .ok R → R.length ≤ acc.length + (s.size - i) := by
  refine scan_induct (s := s) (C := fun i => ∀ (acc R : List Tk), scan s i acc = .ok R → R.length ≤ acc.length + (s.size - i)) ?_ ?_ i
  · intro i ih acc R h
    by_cases hlt : i < s.size
    · cases hs : st s i with
      | skip =>
        rw [scan_skip acc hlt hs] at h
        have := ih (i + 1) (by omega) acc R h
        omega
      | stop =>
        rw [scan_stop acc hlt hs] at h
        injection h with h
        rw [← h]; omega
      | bad => rw [scan_bad acc hlt hs] at h; cases h
      | tok k e =>
        rw [scan_tok acc hlt hs] at h
        have he := st_tok hlt hs
        have := ih e (by omega) _ R h
        rw [List.length_append, List.length_singleton] at this
        omega
    · rw [scan_end acc hlt] at h
      injection h with h
      rw [← h]; omega
  · intro i hlt acc R h
    rw [scan_end acc hlt] at h
    injection h with h
    rw [← h]; omega
theorem txt_bound : ∀ (l : List Tk) (b : Bool), (∀ t ∈ l, t.s.size ≤ 200) → (txt b l).length ≤ l.length * 201
  | [], _, _ => by simp [txt]
  | t :: l, b, h => by
    rw [txt, List.length_append, List.length_append, lst_length, List.length_cons]
    have h1 := h t (by simp)
    have h2 := txt_bound l (decide (t.k = 97)) fun u hu => h u (by simp [hu])
    have h3 : (if (b && decide (t.k = 97)) = true then [32] else ([] : List UInt8)).length ≤ 1 := by split <;> simp
    omega
theorem not_big {l : List Tk} (h : bigB l = false) : l.length ≤ 300 ∧ (txt false l).length ≤ 60300 := by
  unfold bigB at h
  rw [Bool.or_eq_false_iff, decide_eq_false_iff_not, List.any_eq_false] at h
  have h2 := txt_bound l false fun t ht => by have := h.2 t ht; simp at this; exact this
  exact ⟨by omega, by have := h.1; omega⟩

set_option maxHeartbeats 800000 in
theorem lexReads_any (s : ByteArray) (w : World) :
    Calls Try.prog 3 #[.string s] w fun e w' => e = .returned (.bool true) ∧ Below w.heap.size w w' := by
  by_cases hbig : 3000 < s.size
  · go_enter Try.func3, Try.ntmps3
    go_wp2_with fail
    refine (alive_any _).mono ?_
    rintro e w1 ⟨rfl, hb⟩
    have HB := Lib.hid hb; clear hb
    go_wp2
    go_ret
    exact ⟨rfl, HB.out⟩
  · have HR1 := Lib.hid (fun W => lexRead_any s W (by omega))
    have HR2 := Lib.hid (fun W => refRead8_any s W (by omega))
    cases hR : scan s 0 [] with
    | ok L =>
      have hl := scan_len 0 [] L hR
      simp only [List.length_nil, Nat.zero_add, Nat.sub_zero] at hl
      have HK1 : Hid (∀ W, Calls Try.prog 8 #[.string s] W fun e w' => Below W.heap.size W w' ∧ ∃ A c, e = .returned (.tuple #[.slice A L.length c, .agg #[.int .i64 0, .int .i64 0]]) ∧ w'.ownsRow W.heap.size 33 3 (.slice A L.length c) L.length (tkcells L)) :=
        fun W => (HR1.out W).mono fun e w' h => rd_ok hR h
      have HK2 : Hid (∀ W, Calls Try.prog 9 #[.string s] W fun e w' => Below W.heap.size W w' ∧ ∃ A c, e = .returned (.tuple #[.slice A L.length c, .agg #[.int .i64 0, .int .i64 0]]) ∧ w'.ownsRow W.heap.size 33 3 (.slice A L.length c) L.length (tkcells L)) :=
        fun W => (HR2.out W).mono fun e w' h => rd_ok hR h
      have HSA : Hid (∀ A B c d W, Toks W A L → Toks W B L → Calls Try.prog 10 #[.slice A L.length c, .slice B L.length d] W fun e w' => e = .returned (.bool true) ∧ Dr W w') := fun A B c d W hA hB => by
        have h := refSame8_any A B c d L L W (by omega) hA hB
        rw [decide_eq_true (rfl : L = L)] at h
        exact h
      clear HR1 HR2 hR hl
      generalize hn : L.length = n at *
      have HN := Lib.hid hn; clear hn
      go_enter Try.func3, Try.ntmps3
      go_wp2_with fail
      refine (HK1.out _).mono ?_
      rintro e w1 ⟨hb1, A, c, rfl, hown1⟩
      have HT1 : Hid (Toks w1 A L) := Sl.of_own hown1
      have HB1 := Lib.hid hb1
      clear hb1 hown1
      have HF1 := Lib.hid (RowAt.new w1 25 #[.int .i64 0, .int .i64 0])
      have HT2 := Lib.hid (HT1.out.alloc (.cells #[.int .i64 0, .int .i64 0] 25))
      have HB2 := Lib.hid (HB1.out.alloc HB1.out.size (.cells #[.int .i64 0, .int .i64 0] 25))
      go_wp2_with fail
      refine (HK2.out _).mono ?_
      rintro e w2 ⟨hb2, B, d, rfl, hown2⟩
      have HT3 := Lib.hid (HT2.out.below hb2)
      have HU3 : Hid (Toks w2 B L) := Sl.of_own hown2
      have HF3 := Lib.hid (HF1.out.below hb2 HF1.out.lt)
      have HB3 := Lib.hid (HB2.out.trans (hb2.mono HB2.out.size))
      clear hb2 hown2
      have HF4 := Lib.hid (HF3.out.alloc (.cells #[.int .i64 0, .int .i64 0] 25))
      have HG4 := Lib.hid (RowAt.new w2 25 #[.int .i64 0, .int .i64 0])
      have HT4 := Lib.hid (HT3.out.alloc (.cells #[.int .i64 0, .int .i64 0] 25))
      have HU4 := Lib.hid (HU3.out.alloc (.cells #[.int .i64 0, .int .i64 0] 25))
      have HB4 := Lib.hid (HB3.out.alloc HB3.out.size (.cells #[.int .i64 0, .int .i64 0] 25))
      go_wp2_with fail
      refine (HSA.out A B c d _ HT4.out HU4.out).mono ?_
      rintro e w3 ⟨rfl, hd⟩
      have hb3 := hd.below
      have a0 := ((HF4.out.below hb3 HF4.out.lt).cell 0).trans rfl
      have a1 := ((HF4.out.below hb3 HF4.out.lt).cell 1).trans rfl
      have b0 := ((HG4.out.below hb3 HG4.out.lt).cell 0).trans rfl
      have b1 := ((HG4.out.below hb3 HG4.out.lt).cell 1).trans rfl
      have HB5 := Lib.hid (HB4.out.trans (hb3.mono HB4.out.size))
      clear hd hb3
      go_wp2_with fail
      refine (alive_any _).mono ?_
      rintro e w4 ⟨rfl, hb⟩
      have HB6 := Lib.hid (HB5.out.trans (hb.mono HB5.out.size)); clear hb
      go_wp2
      go_ret
      exact ⟨rfl, HB6.out⟩
    | error f =>
      have HK1 : Hid (∀ W, Calls Try.prog 8 #[.string s] W fun e w' => Below W.heap.size W w' ∧ e = .returned (.tuple #[.slice none 0 0, .agg #[.int .i64 1, .int .i64 (f : Int)]])) :=
        fun W => (HR1.out W).mono fun e w' h => rd_err hR h
      have HK2 : Hid (∀ W, Calls Try.prog 9 #[.string s] W fun e w' => Below W.heap.size W w' ∧ e = .returned (.tuple #[.slice none 0 0, .agg #[.int .i64 1, .int .i64 (f : Int)]])) :=
        fun W => (HR2.out W).mono fun e w' h => rd_err hR h
      have HSA : Hid (∀ W, Calls Try.prog 10 #[.slice none 0 0, .slice none 0 0] W fun e w' => e = .returned (.bool true) ∧ Dr W w') := fun W => by
        have h := refSame8_any none none 0 0 [] [] W (by decide) (Toks.nil _ _) (Toks.nil _ _)
        exact h
      clear HR1 HR2 hR
      go_enter Try.func3, Try.ntmps3
      go_wp2_with fail
      refine (HK1.out _).mono ?_
      rintro e w1 ⟨hb1, rfl⟩
      have HB1 := Lib.hid hb1
      clear hb1
      have HF1 := Lib.hid (RowAt.new w1 25 #[.int .i64 1, .int .i64 (f : Int)])
      have HB2 := Lib.hid (HB1.out.alloc HB1.out.size (.cells #[.int .i64 1, .int .i64 (f : Int)] 25))
      go_wp2_with fail
      refine (HK2.out _).mono ?_
      rintro e w2 ⟨hb2, rfl⟩
      have HF3 := Lib.hid (HF1.out.below hb2 HF1.out.lt)
      have HB3 := Lib.hid (HB2.out.trans (hb2.mono HB2.out.size))
      clear hb2
      have HF4 := Lib.hid (HF3.out.alloc (.cells #[.int .i64 1, .int .i64 (f : Int)] 25))
      have HG4 := Lib.hid (RowAt.new w2 25 #[.int .i64 1, .int .i64 (f : Int)])
      have HB4 := Lib.hid (HB3.out.alloc HB3.out.size (.cells #[.int .i64 1, .int .i64 (f : Int)] 25))
      go_wp2_with fail
      refine (HSA.out _).mono ?_
      rintro e w3 ⟨rfl, hd⟩
      have hb3 := hd.below
      have a0 := ((HF4.out.below hb3 HF4.out.lt).cell 0).trans rfl
      have a1 := ((HF4.out.below hb3 HF4.out.lt).cell 1).trans rfl
      have b0 := ((HG4.out.below hb3 HG4.out.lt).cell 0).trans rfl
      have b1 := ((HG4.out.below hb3 HG4.out.lt).cell 1).trans rfl
      have HB5 := Lib.hid (HB4.out.trans (hb3.mono HB4.out.size))
      clear hd hb3
      go_wp2_with fail
      refine (alive_any _).mono ?_
      rintro e w4 ⟨rfl, hb⟩
      have HB6 := Lib.hid (HB5.out.trans (hb.mono HB5.out.size)); clear hb
      go_wp2
      go_ret
      exact ⟨rfl, HB6.out⟩

set_option maxHeartbeats 800000 in
theorem lexBack_any (A : Option Addr) (c : Nat) (l : List Tk) (w : World) (hA : Toks w A l) :
    Calls Try.prog 6 #[.slice A l.length c] w fun e w' => e = .returned (.bool true) ∧ Below w.heap.size w w' := by
  have HBG := Lib.hid (fun W (h : Toks W A l) => big_any A c l W h)
  have HA := Lib.hid hA; clear hA
  cases hbig : bigB l
  · have HAL := Lib.hid (fun W (h : Toks W A l) => all_any A c l W (by have := (not_big hbig).1; omega) h)
    cases hall : allR l
    · rw [hbig] at HBG
      rw [hall] at HAL
      clear hbig hall
      generalize l.length = n at *
      go_enter Try.func6, Try.ntmps6
      go_wp2_with fail
      refine (HBG.out _ HA.out).mono ?_
      rintro e w' ⟨rfl, rfl⟩
      go_wp2_with fail
      refine (HAL.out _ HA.out).mono ?_
      rintro e w1 ⟨rfl, hb1⟩
      have HB1 := Lib.hid hb1; clear hb1
      go_wp2_with fail
      refine (alive_any _).mono ?_
      rintro e w2 ⟨rfl, hb⟩
      have HB2 := Lib.hid (HB1.out.trans (hb.mono HB1.out.size)); clear hb
      go_wp2
      go_ret
      exact ⟨rfl, HB2.out⟩
    · obtain ⟨h300, htx⟩ := not_big hbig
      obtain ⟨M, hsc, hlk, htM⟩ := back (allR_iff.1 hall)
      have hsz : (text l).size = (txt false l).length := rfl
      have hszM : (txt false M).length = (txt false l).length := congrArg ByteArray.size htM
      have hlM := scan_len 0 [] M hsc
      simp only [List.length_nil, Nat.zero_add, Nat.sub_zero] at hlM
      have HTX := Lib.hid (fun W (h : Toks W A l) => lexText_any A c l W (by omega) (by omega) h)
      have HTM := Lib.hid (fun B d W (h : Toks W B M) => lexText_any B d M W (by omega) (by omega) h)
      have HK : Hid (∀ W, Calls Try.prog 8 #[.string (text l)] W fun e w' => Below W.heap.size W w' ∧ ∃ B d, e = .returned (.tuple #[.slice B M.length d, .agg #[.int .i64 0, .int .i64 0]]) ∧ w'.ownsRow W.heap.size 33 3 (.slice B M.length d) M.length (tkcells M)) :=
        fun W => (lexRead_any (text l) W (by omega)).mono fun e w' h => rd_ok hsc h
      have HLK : Hid (∀ B d W, Toks W A l → Toks W B M → Calls Try.prog 16 #[.slice A l.length c, .slice B M.length d] W fun e w' => e = .returned (.bool true) ∧ Below W.heap.size W w') := fun B d W hA hB => by
        have h := lexSame_any A B c d l M W (by omega) hA hB
        rw [hlk] at h
        exact h
      rw [htM] at HTM
      rw [hbig] at HBG
      rw [hall] at HAL
      clear hbig hall h300 htx hsc hlk htM hsz hszM hlM
      generalize text l = x at *
      generalize hn : l.length = n at *
      generalize hm : M.length = m at *
      clear hn hm
      go_enter Try.func6, Try.ntmps6
      go_wp2_with fail
      refine (HBG.out _ HA.out).mono ?_
      rintro e w' ⟨rfl, rfl⟩
      go_wp2_with fail
      refine (HAL.out _ HA.out).mono ?_
      rintro e w1 ⟨rfl, hb1⟩
      have HA1 := Lib.hid (HA.out.below hb1)
      have HB1 := Lib.hid hb1; clear hb1
      go_wp2_with fail
      refine (HTX.out _ HA1.out).mono ?_
      rintro e w2 ⟨rfl, hb2⟩
      have HA2 := Lib.hid (HA1.out.below hb2)
      have HB2 := Lib.hid (HB1.out.trans (hb2.mono HB1.out.size)); clear hb2
      go_wp2_with fail
      refine (HK.out _).mono ?_
      rintro e w3 ⟨hb3, B, d, rfl, hown⟩
      have HM3 : Hid (Toks w3 B M) := Sl.of_own hown
      have HA3 := Lib.hid (HA2.out.below hb3)
      have HB3 := Lib.hid (HB2.out.trans (hb3.mono HB2.out.size))
      clear hb3 hown
      have HF4 := Lib.hid (RowAt.new w3 25 #[.int .i64 0, .int .i64 0])
      have HA4 := Lib.hid (HA3.out.alloc (.cells #[.int .i64 0, .int .i64 0] 25))
      have HM4 := Lib.hid (HM3.out.alloc (.cells #[.int .i64 0, .int .i64 0] 25))
      have HB4 := Lib.hid (HB3.out.alloc HB3.out.size (.cells #[.int .i64 0, .int .i64 0] 25))
      go_wp2_with fail
      refine (HLK.out B d _ HA4.out HM4.out).mono ?_
      rintro e w4 ⟨rfl, hb4⟩
      have HM5 := Lib.hid (HM4.out.below hb4)
      have HB5 := Lib.hid (HB4.out.trans (hb4.mono HB4.out.size)); clear hb4
      go_wp2_with fail
      refine (HTM.out B d _ HM5.out).mono ?_
      rintro e w5 ⟨rfl, hb5⟩
      have HB6 := Lib.hid (HB5.out.trans (hb5.mono HB5.out.size)); clear hb5
      go_wp2_with fail
      refine (alive_any _).mono ?_
      rintro e w6 ⟨rfl, hb⟩
      have HB7 := Lib.hid (HB6.out.trans (hb.mono HB6.out.size)); clear hb
      go_wp2
      go_ret
      exact ⟨rfl, HB7.out⟩
  · rw [hbig] at HBG
    clear hbig
    generalize l.length = n at *
    go_enter Try.func6, Try.ntmps6
    go_wp2_with fail
    refine (HBG.out _ HA.out).mono ?_
    rintro e w' ⟨rfl, rfl⟩
    go_wp2_with fail
    refine (alive_any _).mono ?_
    rintro e w2 ⟨rfl, hb⟩
    have HB2 := Lib.hid hb; clear hb
    go_wp2
    go_ret
    exact ⟨rfl, HB2.out⟩
end Go.Proofs.Ytfhmdambdkmmgaa
