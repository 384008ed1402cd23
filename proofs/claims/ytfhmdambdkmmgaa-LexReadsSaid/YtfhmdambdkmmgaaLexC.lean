/-
  The document's answers on lists of tokens: whether one is big, whether all are right, whether two are the same or alike. Conditions: lists below 2^32 tokens.
-/
import Derived.Test.YtfhmdambdkmmgaaLexB
namespace Go.Proofs.Ytfhmdambdkmmgaa
open Go.RowKit LX

def bigB (l : List Tk) : Bool := decide (300 < l.length) || l.any fun t => decide (200 < t.s.size)
theorem any_hit {l : List Tk} {p : Tk → Bool} {i : Nat} (hi : i < l.length) (h : p (l.getD i t0) = true) : l.any p = true := by
  rw [List.any_eq_true]
  refine ⟨l.getD i t0, ?_, h⟩
  rw [List.getD_eq_getElem?_getD, List.getElem?_eq_getElem hi]; exact List.getElem_mem hi
theorem any_miss {l : List Tk} {p : Tk → Bool} (h : ∀ i, i < l.length → p (l.getD i t0) = false) : l.any p = false := by
  rw [List.any_eq_false]
  intro t ht
  obtain ⟨i, hi, rfl⟩ := List.mem_iff_getElem.1 ht
  have := h i hi
  rw [List.getD_eq_getElem?_getD, List.getElem?_eq_getElem hi, Option.getD_some] at this
  rw [this]; simp
set_option maxHeartbeats 400000 in
theorem big_any (A : Option Addr) (c : Nat) (l : List Tk) (w : World) (hA : Toks w A l) :
    Calls Try.prog 11 #[.slice A l.length c] w fun e w' => e = .returned (.bool (bigB l)) ∧ w = w' := by
  have HA := Lib.hid hA; clear hA
  have HIT := Lib.hid (fun i => @any_hit l (fun t => decide (200 < t.s.size)) i)
  have MISS := Lib.hid (@any_miss l (fun t => decide (200 < t.s.size)))
  have hB : bigB l = (decide (300 < l.length) || l.any fun t => decide (200 < t.s.size)) := rfl
  by_cases h300 : 300 < l.length
  · rw [hB, decide_eq_true h300, Bool.true_or]
    clear hB
    generalize l.length = n at *
    go_enter Try.func11, Try.ntmps11
    go_wp2
    go_ret
    exact ⟨rfl, rfl⟩
  · rw [hB, decide_eq_false h300, Bool.false_or]
    clear hB
    generalize (l.any fun t => decide (200 < t.s.size)) = r at *
    generalize hn : l.length = n at *
    have HN := Lib.hid hn; clear hn
    go_enter Try.func11, Try.ntmps11
    go_wp2
    go_loop [3] (fun iv => ∃ i : Nat, i ≤ n ∧ iv = .int .i64 i ∧ Hid (∀ j, j < i → decide (200 < (l.getD j t0).s.size) = false)) (fun iv => n - (intOf iv).toNat)
    case atStart => exact ⟨0, by omega, rfl, fun j hj => by omega⟩
    case round =>
      obtain ⟨i, hi, rfl, HF⟩ := hrel
      by_cases hlt : i < n
      · obtain ⟨b, o, rfl, _, hc⟩ := HA.out.at (k := i) (by rw [HN.out]; exact hlt)
        obtain ⟨_, hci, _⟩ := hc i (by rw [HN.out]; exact hlt)
        clear hc
        have HX : Hid ((l.getD i t0).s = (l.getD i t0).s) := rfl
        generalize hx : (l.getD i t0).s = x at *
        have HXE := Lib.hid hx; clear hx
        by_cases hs : 200 < x.size
        · have HR := Lib.hid (HIT.out i hlt (by rw [HXE.out]; exact decide_eq_true hs))
          go_wp2
          go_ret
          exact ⟨ret_eq (bool_eq HR.out.symm), rfl⟩
        · go_wp2
          go_round
          case rel =>
            refine ⟨i + 1, by omega, by go_num, ?_⟩
            show ∀ j, j < i + 1 → decide (200 < (l.getD j t0).s.size) = false
            intro j hj
            by_cases hji : j = i
            · rw [hji, HXE.out]; exact decide_eq_false hs
            · exact HF.out j (by omega)
          case measure => simp [intOf]; omega
      · obtain rfl : i = n := by omega
        have HR := Lib.hid (MISS.out HF.out)
        go_wp2
        go_ret
        exact ⟨ret_eq (bool_eq HR.out.symm), rfl⟩

def allR (l : List Tk) : Bool := !l.any fun t => !rightT t
theorem allR_iff {l : List Tk} : allR l = true ↔ ∀ t ∈ l, rightT t = true := by
  unfold allR
  rw [Bool.not_eq_true', List.any_eq_false]
  constructor
  · intro h t ht; have := h t ht; simpa using this
  · intro h t ht; rw [h t ht]; simp
set_option maxHeartbeats 400000 in
theorem all_any (A : Option Addr) (c : Nat) (l : List Tk) (w : World) (hl : l.length ≤ 4294967296) (hA : Toks w A l) :
    Calls Try.prog 18 #[.slice A l.length c] w fun e w' => e = .returned (.bool (allR l)) ∧ Below w.heap.size w w' := by
  have HA := Lib.hid hA; clear hA
  have HIT := Lib.hid (fun i => @any_hit l (fun t => !rightT t) i)
  have MISS := Lib.hid (@any_miss l (fun t => !rightT t))
  have hB : allR l = !l.any fun t => !rightT t := rfl
  rw [hB]; clear hB
  generalize (l.any fun t => !rightT t) = r at *
  generalize hn : l.length = n at *
  have HN := Lib.hid hn; clear hn
  go_enter Try.func18, Try.ntmps18
  go_wp2
  go_loopw [3] (fun iv wr => ∃ i : Nat, i ≤ n ∧ iv = .int .i64 i ∧ Hid (∀ j, j < i → (!rightT (l.getD j t0)) = false) ∧ Hid (Below w.heap.size w wr)) (fun iv _ => n - (intOf iv).toNat)
  case atStart => exact ⟨0, by omega, rfl, fun j hj => by omega, Below.refl _ _⟩
  case round =>
    obtain ⟨i, hi, rfl, HF, HB⟩ := hrel
    by_cases hlt : i < n
    · obtain ⟨b, o, rfl, _, hc⟩ := (HA.out.below HB.out).at (k := i) (by rw [HN.out]; exact hlt)
      obtain ⟨hc0, hc1, hc2⟩ := hc i (by rw [HN.out]; exact hlt)
      clear hc
      have HC := Lib.hid (refRight8_any (l.getD i t0) wr)
      unfold tv at HC
      have hr : rightT (l.getD i t0) = rightT (l.getD i t0) := rfl
      generalize hrr : rightT (l.getD i t0) = rr at *
      have HRR := Lib.hid hrr; clear hrr hr
      generalize (l.getD i t0).k = k at *
      generalize (l.getD i t0).s = s at *
      generalize (l.getD i t0).p = p at *
      cases rr
      · have HR := Lib.hid (HIT.out i hlt (by rw [HRR.out]; rfl))
        go_wp2_with fail
        refine HC.out.mono ?_
        rintro e w1 ⟨rfl, hb⟩
        have HB1 := Lib.hid (HB.out.trans (hb.mono HB.out.size)); clear hb
        go_wp2
        go_ret
        exact ⟨ret_eq (bool_eq (by rw [HR.out]; rfl)), HB1.out⟩
      · go_wp2_with fail
        refine HC.out.mono ?_
        rintro e w1 ⟨rfl, hb⟩
        have HB1 := Lib.hid (HB.out.trans (hb.mono HB.out.size)); clear hb
        go_wp2
        go_roundw
        case rel =>
          refine ⟨i + 1, by omega, by go_num, ?_, HB1.out⟩
          show ∀ j, j < i + 1 → (!rightT (l.getD j t0)) = false
          intro j hj
          by_cases hji : j = i
          · rw [hji, HRR.out]; rfl
          · exact HF.out j (by omega)
        case measure => simp [intOf]; omega
    · obtain rfl : i = n := by omega
      have HR := Lib.hid (MISS.out HF.out)
      go_wp2
      go_ret
      exact ⟨ret_eq (bool_eq (by rw [HR.out]; rfl)), HB.out⟩

theorem int_beq (a b : Nat) : ((a : Int) == (b : Int)) = decide (a = b) := by rw [Bool.eq_iff_iff]; simp; omega
theorem int_bne (a b : Nat) : ((a : Int) != (b : Int)) = !decide (a = b) := by rw [bne, int_beq]
theorem str_ne (a b : ByteArray) : (a.toList != b.toList) = !decide (a = b) := by rw [bne, NM.str_eq]
theorem tk_eq (t u : Tk) : decide (t = u) = (decide (t.k = u.k) && (decide (t.s = u.s) && decide (t.p = u.p))) := by
  obtain ⟨k1, s1, p1⟩ := t
  obtain ⟨k2, s2, p2⟩ := u
  rw [Bool.eq_iff_iff]
  simp
theorem same_hit {a b : List Tk} {i : Nat} (h : a.getD i t0 ≠ b.getD i t0) : decide (a = b) = false := by
  rw [decide_eq_false_iff_not]
  rintro rfl; exact h rfl
theorem same_miss {a b : List Tk} (hl : a.length = b.length) (h : ∀ i, i < a.length → a.getD i t0 = b.getD i t0) : decide (a = b) = true := by
  rw [decide_eq_true_eq]
  refine List.ext_getElem hl fun i h1 h2 => ?_
  have := h i h1
  simpa [List.getD_eq_getElem?_getD, List.getElem?_eq_getElem h1, List.getElem?_eq_getElem h2] using this
set_option maxHeartbeats 400000 in
theorem refSame8_any (A B : Option Addr) (c d : Nat) (a b : List Tk) (w : World) (hl : a.length ≤ 4294967296) (hA : Toks w A a) (hB : Toks w B b) :
    Calls Try.prog 10 #[.slice A a.length c, .slice B b.length d] w fun e w' => e = .returned (.bool (decide (a = b))) ∧ Dr w w' := by
  have HA := Lib.hid hA; clear hA
  have HB := Lib.hid hB; clear hB
  have HIT := Lib.hid (fun i => @same_hit a b i)
  by_cases hab : a.length = b.length
  · have MISS := Lib.hid (@same_miss a b hab)
    generalize decide (a = b) = r at *
    have HM := Lib.hid hab.symm
    rw [← hab]
    clear hab
    generalize hn : a.length = n at *
    have HN := Lib.hid hn; clear hn
    go_enter Try.func10, Try.ntmps10
    go_wp2
    go_loopw [5] (fun iv wr => ∃ i : Nat, i ≤ n ∧ iv = .int .i64 i ∧ Hid (∀ j, j < i → a.getD j t0 = b.getD j t0) ∧ Dr w wr) (fun iv _ => n - (intOf iv).toNat)
    case atStart => exact ⟨0, by omega, rfl, fun j hj => by omega, Dr.refl _⟩
    case round =>
      obtain ⟨i, hi, rfl, HF, hd⟩ := hrel
      by_cases hlt : i < n
      · obtain ⟨ba, oa, rfl, _, hca⟩ := (HA.out.dr hd).at (k := i) (by rw [HN.out]; exact hlt)
        obtain ⟨bb, ob, rfl, _, hcb⟩ := (HB.out.dr hd).at (k := i) (by rw [HM.out]; exact hlt)
        obtain ⟨ha0, ha1, ha2⟩ := hca i (by rw [HN.out]; exact hlt)
        obtain ⟨hb0, hb1, hb2⟩ := hcb i (by rw [HM.out]; exact hlt)
        clear hca hcb
        have HEQ := Lib.hid (tk_eq (a.getD i t0) (b.getD i t0))
        have HIN : Hid ((a.getD i t0 = b.getD i t0) → ∀ j, j < i + 1 → a.getD j t0 = b.getD j t0) := fun h j hj => by
          by_cases hji : j = i
          · rw [hji]; exact h
          · exact HF.out j (by omega)
        have HNO : Hid (¬ (a.getD i t0 = b.getD i t0) → r = false) := fun h => HIT.out i h
        clear HF
        generalize a.getD i t0 = t at *
        generalize b.getD i t0 = u at *
        obtain ⟨k1, s1, p1⟩ := t
        obtain ⟨k2, s2, p2⟩ := u
        replace ha0 : wr.cell? ⟨ba, oa + i * 3, none⟩ = some (.int .u8 (k1 : Int)) := ha0
        replace ha1 : wr.cell? ⟨ba, oa + i * 3 + 1, none⟩ = some (.string s1) := ha1
        replace ha2 : wr.cell? ⟨ba, oa + i * 3 + 2, none⟩ = some (.int .i64 p1) := ha2
        replace hb0 : wr.cell? ⟨bb, ob + i * 3, none⟩ = some (.int .u8 (k2 : Int)) := hb0
        replace hb1 : wr.cell? ⟨bb, ob + i * 3 + 1, none⟩ = some (.string s2) := hb1
        replace hb2 : wr.cell? ⟨bb, ob + i * 3 + 2, none⟩ = some (.int .i64 p2) := hb2
        have q1 : ((k1 : Int) == (k2 : Int)) = decide (k1 = k2) := int_beq _ _
        have q2 := NM.str_eq s1 s2
        have q3 : (p1 == p2) = decide (p1 = p2) := by rw [Bool.eq_iff_iff]; simp
        have HEQ2 : Hid (decide ((⟨k1, s1, p1⟩ : Tk) = ⟨k2, s2, p2⟩) = (decide (k1 = k2) && (decide (s1 = s2) && decide (p1 = p2)))) := HEQ.out
        clear HEQ
        generalize decide (k1 = k2) = d1 at *
        generalize decide (s1 = s2) = d2 at *
        generalize decide (p1 = p2) = d3 at *
        cases d1 <;> cases d2 <;> cases d3
        all_goals
          first
          | (have HT := Lib.hid (HIN.out (of_decide_eq_true HEQ2.out))
             clear HNO HIN HEQ2
             go_wp2_with fail
             go_quiet (fail)
             go_wp2
             go_roundw
             case rel => exact ⟨i + 1, by omega, by go_num, HT, hd.more _⟩
             case measure => simp [intOf]; omega)
          | (have HT := Lib.hid (HNO.out (of_decide_eq_false HEQ2.out))
             clear HNO HIN HEQ2
             go_wp2_with fail
             go_quiet (fail)
             go_wp2
             go_ret
             exact ⟨ret_eq (bool_eq HT.out.symm), hd.more _⟩)
      · obtain rfl : i = n := by omega
        have HR := Lib.hid (MISS.out HF.out)
        go_wp2
        go_ret
        exact ⟨ret_eq (bool_eq HR.out.symm), hd⟩
  · have hr : decide (a = b) = false := by rw [decide_eq_false_iff_not]; rintro rfl; exact hab rfl
    rw [hr]
    have hne : ((a.length : Int) != (b.length : Int)) = true := by simp; omega
    clear hr hab
    generalize a.length = n at *
    generalize b.length = m at *
    go_enter Try.func10, Try.ntmps10
    go_wp2
    go_ret
    exact ⟨rfl, Dr.refl _⟩

def likeT (t u : Tk) : Bool := decide (t.k = u.k) && decide (t.s = u.s)
theorem like_len {a b : List Tk} (h : ¬ a.length = b.length) : like a b = false := by
  unfold like
  rw [decide_eq_false_iff_not]
  intro e
  have := congrArg List.length e
  rw [List.length_map, List.length_map] at this
  exact h this
theorem like_at {a b : List Tk} (hl : a.length = b.length) : like a b = true ↔ ∀ i, i < a.length → likeT (a.getD i t0) (b.getD i t0) = true := by
  unfold like likeT
  rw [decide_eq_true_eq]
  constructor
  · intro h i hi
    have h1 : (a.map fun t => (t.k, t.s))[i]? = (b.map fun t => (t.k, t.s))[i]? := by rw [h]
    rw [List.getElem?_map, List.getElem?_map, List.getElem?_eq_getElem hi, List.getElem?_eq_getElem (by omega)] at h1
    simp only [Option.map_some, Option.some.injEq, Prod.mk.injEq] at h1
    simp only [List.getD_eq_getElem?_getD, List.getElem?_eq_getElem hi, List.getElem?_eq_getElem (show i < b.length by omega), Option.getD_some, h1, decide_true, Bool.and_self]
  · intro h
    refine List.ext_getElem (by simp [hl]) fun i h1 h2 => ?_
    rw [List.length_map] at h1 h2
    have := h i h1
    simp only [List.getD_eq_getElem?_getD, List.getElem?_eq_getElem h1, List.getElem?_eq_getElem h2, Option.getD_some, Bool.and_eq_true, decide_eq_true_eq] at this
    rw [List.getElem_map, List.getElem_map, this.1, this.2]
theorem like_hit {a b : List Tk} (hl : a.length = b.length) {i : Nat} (hi : i < a.length) (h : likeT (a.getD i t0) (b.getD i t0) = false) : like a b = false := by
  rw [Bool.eq_false_iff]
  intro h2
  rw [(like_at hl).1 h2 i hi] at h; cases h
set_option maxHeartbeats 400000 in
theorem refLike_any (A B : Option Addr) (c d : Nat) (a b : List Tk) (w : World) (hl : a.length ≤ 4294967296) (hA : Toks w A a) (hB : Toks w B b) :
    Calls Try.prog 17 #[.slice A a.length c, .slice B b.length d] w fun e w' => e = .returned (.bool (like a b)) ∧ Dr w w' := by
  have HA := Lib.hid hA; clear hA
  have HB := Lib.hid hB; clear hB
  by_cases hab : a.length = b.length
  · have HIT := Lib.hid (fun i => @like_hit a b hab i)
    have MISS := Lib.hid (like_at hab).2
    generalize like a b = r at *
    have HM := Lib.hid hab.symm
    rw [← hab]
    clear hab
    generalize hn : a.length = n at *
    have HN := Lib.hid hn; clear hn
    go_enter Try.func17, Try.ntmps17
    go_wp2
    go_loopw [5] (fun iv wr => ∃ i : Nat, i ≤ n ∧ iv = .int .i64 i ∧ Hid (∀ j, j < i → likeT (a.getD j t0) (b.getD j t0) = true) ∧ Dr w wr) (fun iv _ => n - (intOf iv).toNat)
    case atStart => exact ⟨0, by omega, rfl, fun j hj => by omega, Dr.refl _⟩
    case round =>
      obtain ⟨i, hi, rfl, HF, hd⟩ := hrel
      by_cases hlt : i < n
      · obtain ⟨ba, oa, rfl, _, hca⟩ := (HA.out.dr hd).at (k := i) (by rw [HN.out]; exact hlt)
        obtain ⟨bb, ob, rfl, _, hcb⟩ := (HB.out.dr hd).at (k := i) (by rw [HM.out]; exact hlt)
        obtain ⟨ha0, ha1, _⟩ := hca i (by rw [HN.out]; exact hlt)
        obtain ⟨hb0, hb1, _⟩ := hcb i (by rw [HM.out]; exact hlt)
        clear hca hcb
        have HIN : Hid (likeT (a.getD i t0) (b.getD i t0) = true → ∀ j, j < i + 1 → likeT (a.getD j t0) (b.getD j t0) = true) := fun h j hj => by
          by_cases hji : j = i
          · rw [hji]; exact h
          · exact HF.out j (by omega)
        have HNO : Hid (likeT (a.getD i t0) (b.getD i t0) = false → r = false) := fun h => HIT.out i hlt h
        clear HF
        have HEQ : Hid (likeT (a.getD i t0) (b.getD i t0) = (decide ((a.getD i t0).k = (b.getD i t0).k) && decide ((a.getD i t0).s = (b.getD i t0).s))) := rfl
        generalize likeT (a.getD i t0) (b.getD i t0) = q at *
        generalize (a.getD i t0).k = k1 at *
        generalize (a.getD i t0).s = s1 at *
        generalize (b.getD i t0).k = k2 at *
        generalize (b.getD i t0).s = s2 at *
        have q1 : ((k1 : Int) != (k2 : Int)) = !decide (k1 = k2) := int_bne _ _
        have q2 := NM.str_eq s1 s2
        generalize decide (k1 = k2) = d1 at *
        generalize decide (s1 = s2) = d2 at *
        cases d1 <;> cases d2
        all_goals
          first
          | (have HT := Lib.hid (HIN.out HEQ.out)
             clear HNO HIN HEQ
             go_wp2_with fail
             go_quiet (fail)
             go_wp2
             go_roundw
             case rel => exact ⟨i + 1, by omega, by go_num, HT, hd.more _⟩
             case measure => simp [intOf]; omega)
          | (have HT := Lib.hid (HNO.out HEQ.out)
             clear HNO HIN HEQ
             go_wp2_with fail
             go_quiet (fail)
             go_wp2
             go_ret
             exact ⟨ret_eq (bool_eq HT.out.symm), hd.more _⟩)
      · obtain rfl : i = n := by omega
        have HR := Lib.hid (MISS.out HF.out)
        go_wp2
        go_ret
        exact ⟨ret_eq (bool_eq HR.out.symm), hd⟩
  · rw [like_len hab]
    have hne : ((a.length : Int) != (b.length : Int)) = true := by simp; omega
    clear hab
    generalize a.length = n at *
    generalize b.length = m at *
    go_enter Try.func17, Try.ntmps17
    go_wp2
    go_ret
    exact ⟨rfl, Dr.refl _⟩
end Go.Proofs.Ytfhmdambdkmmgaa
