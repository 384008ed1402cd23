/-
  What Same of package lex returns. Conditions: lists below 2^32 tokens.
-/
import Derived.Test.YtfhmdambdkmmgaaLexC
namespace Go.Proofs.Ytfhmdambdkmmgaa
open Go.RowKit LX

set_option maxHeartbeats 400000 in
theorem same1_tok (t u : Tk) (w : World) :
    Calls Try.prog 33 #[.agg (tv t), .agg (tv u)] w fun e w' => e = .returned (.bool (likeT t u)) ∧ Below w.heap.size w w' := by
  obtain ⟨k1, s1, p1⟩ := t
  obtain ⟨k2, s2, p2⟩ := u
  show Calls Try.prog 33 #[.agg #[.int .u8 (k1 : Int), .string s1, .int .i64 p1], .agg #[.int .u8 (k2 : Int), .string s2, .int .i64 p2]] w fun e w' => e = .returned (.bool (decide (k1 = k2) && decide (s1 = s2))) ∧ Below w.heap.size w w'
  have q1 := int_beq k1 k2
  have q2 := NM.str_eq s1 s2
  generalize decide (k1 = k2) = d1 at *
  generalize decide (s1 = s2) = d2 at *
  cases d1 <;> cases d2
  all_goals
    go_enter Try.func33, Try.ntmps33
    go_wp2
    try go_quiet (fail)
    try go_wp2
    go_ret
    exact ⟨rfl, by first | exact ((Below.refl _ _).alloc (Nat.le_refl _) _).alloc (by simp) _ | exact bdrewN (((Below.refl _ _).alloc (Nat.le_refl _) _).alloc (by simp) _) _⟩
set_option maxHeartbeats 400000 in
theorem equalTok_any (A B : Option Addr) (c d : Nat) (a b : List Tk) (F : FuncId) (hf : ∀ args w, (callFunc F args).run Try.prog w = .ok (.enter F args) w) (w : World) (hl : a.length ≤ 4294967296) (hA : Toks w A a) (hB : Toks w B b)
    (hC : ∀ t u w, Calls Try.prog F #[.agg (tv t), .agg (tv u)] w fun e w' => e = .returned (.bool (likeT t u)) ∧ Below w.heap.size w w') :
    Calls Try.prog 32 #[.slice A a.length c, .slice B b.length d, .func (.func F) #[] #[]] w fun e w' => e = .returned (.bool (like a b)) ∧ Below w.heap.size w w' := by
  have HA := Lib.hid hA; clear hA
  have HB := Lib.hid hB; clear hB
  have HC := Lib.hid hC; clear hC
  unfold tv at HC
  by_cases hab : a.length = b.length
  · have HIT := Lib.hid (fun i => @like_hit a b hab i)
    have MISS := Lib.hid (like_at hab).2
    generalize like a b = r at *
    have HM := Lib.hid hab.symm
    rw [← hab]
    clear hab
    generalize hn : a.length = n at *
    have HN := Lib.hid hn; clear hn
    go_enter Try.func32, Try.ntmps32
    go_wp2
    go_loopw [17] (fun iv wr => ∃ i : Nat, i ≤ n ∧ iv = .int .i64 i ∧ Hid (∀ j, j < i → likeT (a.getD j t0) (b.getD j t0) = true) ∧ Hid (Below w.heap.size w wr)) (fun iv _ => n - (intOf iv).toNat)
    case atStart => exact ⟨0, by omega, rfl, fun j hj => by omega, Below.refl _ _⟩
    case round =>
      obtain ⟨i, hi, rfl, HF, HW⟩ := hrel
      by_cases hlt : i < n
      · obtain ⟨ba, oa, rfl, hla, hca⟩ := (HA.out.below HW.out).at (k := i) (by rw [HN.out]; exact hlt)
        obtain ⟨bb, ob, rfl, hlb, hcb⟩ := (HB.out.below HW.out).at (k := i) (by rw [HM.out]; exact hlt)
        obtain ⟨ha0, ha1, ha2⟩ := hca i (by rw [HN.out]; exact hlt)
        obtain ⟨hb0, hb1, hb2⟩ := hcb i (by rw [HM.out]; exact hlt)
        clear hca hcb
        have HIN : Hid (likeT (a.getD i t0) (b.getD i t0) = true → ∀ j, j < i + 1 → likeT (a.getD j t0) (b.getD j t0) = true) := fun h j hj => by
          by_cases hji : j = i
          · rw [hji]; exact h
          · exact HF.out j (by omega)
        have HNO : Hid (likeT (a.getD i t0) (b.getD i t0) = false → r = false) := fun h => HIT.out i hlt h
        clear HF
        have HCC : Hid (∀ w, Calls Try.prog F #[.agg #[.int .u8 ((a.getD i t0).k : Int), .string (a.getD i t0).s, .int .i64 (a.getD i t0).p], .agg #[.int .u8 ((b.getD i t0).k : Int), .string (b.getD i t0).s, .int .i64 (b.getD i t0).p]] w fun e w' => e = .returned (.bool (likeT (a.getD i t0) (b.getD i t0))) ∧ Below w.heap.size w w') :=
          fun w => HC.out (a.getD i t0) (b.getD i t0) w
        generalize likeT (a.getD i t0) (b.getD i t0) = q at *
        generalize (a.getD i t0).k = k1 at *
        generalize (a.getD i t0).s = s1 at *
        generalize (a.getD i t0).p = p1 at *
        generalize (b.getD i t0).k = k2 at *
        generalize (b.getD i t0).s = s2 at *
        generalize (b.getD i t0).p = p2 at *
        have HB2 : Hid (Below w.heap.size w ((wr.alloc (.cells #[.int .u8 (k1 : Int), .string s1, .int .i64 p1] 33)).alloc (.cells #[.int .u8 (k2 : Int), .string s2, .int .i64 p2] 33))) :=
          (HW.out.alloc HW.out.size _).alloc (by have := HW.out.size; simp; omega) _
        cases q
        · have HT := Lib.hid (HNO.out rfl)
          clear HNO HIN
          go_wp2_with fail
          refine (HCC.out _).mono ?_
          rintro e w1 ⟨rfl, hb⟩
          have HW1 := Lib.hid (HB2.out.trans (hb.mono HB2.out.size)); clear hb
          go_wp2
          go_ret
          exact ⟨ret_eq (bool_eq HT.out.symm), HW1.out⟩
        · have HT := Lib.hid (HIN.out rfl)
          clear HNO HIN
          go_wp2_with fail
          refine (HCC.out _).mono ?_
          rintro e w1 ⟨rfl, hb⟩
          have HW1 := Lib.hid (HB2.out.trans (hb.mono HB2.out.size)); clear hb
          go_wp2
          go_roundw
          case rel => exact ⟨i + 1, by omega, by go_num, HT, HW1⟩
          case measure => simp [intOf]; omega
      · obtain rfl : i = n := by omega
        have HR := Lib.hid (MISS.out HF.out)
        go_wp2
        go_ret
        exact ⟨ret_eq (bool_eq HR.out.symm), HW.out⟩
  · rw [like_len hab]
    have hne : ((a.length : Int) != (b.length : Int)) = true := by simp; omega
    clear hab
    generalize a.length = n at *
    generalize b.length = m at *
    go_enter Try.func32, Try.ntmps32
    go_wp2
    go_ret
    exact ⟨rfl, Below.refl _ _⟩
theorem lexSame_any (A B : Option Addr) (c d : Nat) (a b : List Tk) (w : World) (hl : a.length ≤ 4294967296) (hA : Toks w A a) (hB : Toks w B b) :
    Calls Try.prog 16 #[.slice A a.length c, .slice B b.length d] w fun e w' => e = .returned (.bool (like a b)) ∧ Below w.heap.size w w' := by
  have HC := Lib.hid (equalTok_any A B c d a b 33 (fun _ _ => by kernel_rfl) w hl hA hB same1_tok)
  clear hA hB
  generalize like a b = r at *
  generalize a.length = n at *
  generalize b.length = m at *
  go_enter Try.func16, Try.ntmps16
  go_wp2_with fail
  refine HC.out.mono ?_
  rintro e w' ⟨rfl, hb⟩
  have HB := Lib.hid hb; clear hb
  go_wp2
  go_ret
  exact ⟨rfl, HB.out⟩
end Go.Proofs.Ytfhmdambdkmmgaa
