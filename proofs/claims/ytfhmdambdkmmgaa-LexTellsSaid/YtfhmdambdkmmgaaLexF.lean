/-
  The text of tokens, by the program: a strings.Builder. Conditions: a text below 2^32 bytes.
-/
import Derived.Test.YtfhmdambdkmmgaaLexE
namespace Go.Proofs.Ytfhmdambdkmmgaa
open Go.RowKit LX

theorem bld_below {T e : TypeId} {B b : Nat} {bs : List Value} {w w' : World} (h : Lib.IsBuilder T e B b bs w) (hb : Below w.heap.size w w') : Lib.IsBuilder T e B b bs w' := by
  have go : ∀ p, Lib.BuilderAt T e B b p bs w → Lib.BuilderAt T e B b p bs w' := fun p h => by
    have hlt := h.lt
    obtain ⟨hB, v, hbk, hown, hne⟩ := h
    exact ⟨hB, v, (hb.block b hlt).trans hbk, own_below hown hb (Nat.le_refl _), hne⟩
  exact h.elim (fun h => .inl (go _ h)) fun h => .inr (go _ h)
theorem bld_lt {T e : TypeId} {B b : Nat} {bs : List Value} {w : World} (h : Lib.IsBuilder T e B b bs w) : b < w.heap.size := h.elim (fun h => h.lt) fun h => h.lt
theorem others_row {w w' : World} {e t : TypeId} {b g : Nat} {cs : Array Value} (h : Lib.OthersKept e (some b) w w') (hr : RowAt w g t cs) (hg : g ≠ b) (ht : t ≠ e) : RowAt w' g t cs :=
  h g _ hr (fun e => hg (by injection e)) fun c fz e => by
    injection e with _ e2 _
    exact ht e2
theorem str_cells (x : List UInt8) (s : ByteArray) : Lib.byteCells x ++ Lib.strCells s = Lib.byteCells (x ++ lst s) := by rw [Lib.strCells_eq, Lib.byteCells_append]; rfl
theorem byte_cells (x : List UInt8) (c : UInt8) : Lib.byteCells x ++ [.int .u8 (c.toNat : Int)] = Lib.byteCells (x ++ [c]) := by rw [Lib.byteCells_append]; rfl

set_option maxHeartbeats 800000 in
theorem lexText_any (A : Option Addr) (c : Nat) (l : List Tk) (w : World) (hl : l.length ≤ 4294967296) (hs : (txt false l).length ≤ 4294967296) (hA : Toks w A l) :
    Calls Try.prog 14 #[.slice A l.length c] w fun e w' => e = .returned (.string (text l)) ∧ Below w.heap.size w w' := by
  have HA := Lib.hid hA; clear hA
  have HT := Lib.hid (fun i (h : i < l.length) => txt_take h)
  have HLE := Lib.hid (txt_le l)
  have HE : Hid (text l = ⟨(txt false (l.take l.length)).toArray⟩) := by
    show text l = _
    rw [List.take_length]; rfl
  generalize hm : (txt false l).length = M at *
  clear hm
  have HFB : Hid (Lib.IsBuilder 43 5 w.heap.size w.heap.size [] (w.alloc (.cells #[.pointer none, .slice none 0 0] 43))) := Lib.fresh_isBuilder _ _ _
  generalize hn : l.length = n at *
  have HN := Lib.hid hn; clear hn
  go_enter Try.func14, Try.ntmps14
  go_wp2
  go_loopw [8] (fun iv wr => ∃ i : Nat, i ≤ n ∧ iv = .int .i64 i ∧ Hid (Lib.IsBuilder 43 5 w.heap.size w.heap.size (Lib.byteCells (txt false (l.take i))) wr) ∧ Hid (Below w.heap.size w wr)) (fun iv _ => n - (intOf iv).toNat)
  case atStart => exact ⟨0, by omega, rfl, HFB.out, (Below.refl _ _).alloc (Nat.le_refl _) _⟩
  case round =>
    obtain ⟨i, hi, rfl, HBU, HW⟩ := hrel
    by_cases hlt : i < n
    · obtain ⟨b, o, rfl, _, hc⟩ := (HA.out.below HW.out).at (k := i) (by rw [HN.out]; exact hlt)
      obtain ⟨hc0, hc1, hc2⟩ := hc i (by rw [HN.out]; exact hlt)
      have HC := Lib.hid hc; clear hc
      have HTI := Lib.hid (HT.out i hlt)
      have hnx : (txt false (l.take (i + 1))).length ≤ 4294967296 := Nat.le_trans (HLE.out _) hs
      have HNX := Lib.hid hnx; clear hnx
      have HSEP : Hid (sepB l i = (decide (0 < i) && (decide ((l.getD (i - 1) t0).k = 97) && decide ((l.getD i t0).k = 97)))) := rfl
      have q2 := is97 (l.getD i t0).k
      generalize (l.getD i t0).k = k at *
      generalize (l.getD i t0).s = s at *
      generalize (l.getD i t0).p = p at *
      have hrow := RowAt.new wr 33 #[.int .u8 (k : Int), .string s, .int .i64 p]
      have HROW := Lib.hid hrow; clear hrow
      have hlt2 := bld_lt HBU.out
      have HB2 := Lib.hid (bld_below HBU.out ((Below.refl _ wr).alloc (Nat.le_refl _) (.cells #[.int .u8 (k : Int), .string s, .int .i64 p] 33)))
      have HW2 := Lib.hid (HW.out.alloc HW.out.size (.cells #[.int .u8 (k : Int), .string s, .int .i64 p] 33))
      have HSZ : Hid (w.heap.size ≤ (wr.alloc (.cells #[.int .u8 (k : Int), .string s, .int .i64 p] 33)).heap.size) := HW2.out.size
      cases hsp : sepB l i
      · rw [hsp] at HTI HSEP
        have HT2 : Hid (txt false (l.take (i + 1)) = txt false (l.take i) ++ lst s) := by
          show txt false (l.take (i + 1)) = _
          rw [HTI.out]; simp
        have HL2 : Hid ((Lib.byteCells (txt false (l.take i))).length + s.size ≤ 140737488355328) := by
          show (Lib.byteCells (txt false (l.take i))).length + s.size ≤ 140737488355328
          rw [Lib.byteCells_length]
          have h1 := HNX.out
          rw [HT2.out, List.length_append, lst_length] at h1
          omega
        clear HTI hsp
        by_cases h0 : 0 < i
        · obtain ⟨j, rfl⟩ : ∃ j, i = j + 1 := ⟨i - 1, by omega⟩
          obtain ⟨hp0, _, _⟩ := HC.out j (by rw [HN.out]; omega)
          rw [Nat.add_sub_cancel, decide_eq_true h0] at HSEP
          have q1 := is97 (l.getD j t0).k
          generalize (l.getD j t0).k = kp at *
          generalize decide (kp = 97) = d1 at *
          generalize decide (k = 97) = d2 at *
          clear h0 HC
          cases d1 <;> cases d2
          all_goals
            first
            | exact absurd HSEP.out (by decide)
            | (clear HSEP
               go_wp2_with fail
               refine (writeString_any w.heap.size w.heap.size _ s _ HB2.out HL2.out HSZ.out).mono ?_
               rintro e w1 ⟨rfl, hb1, hb2, _⟩
               have HN1 : Hid (Lib.IsBuilder 43 5 w.heap.size w.heap.size (Lib.byteCells (txt false (l.take (j + 1 + 1)))) w1) := by
                 rw [HT2.out, ← str_cells]; exact .inr hb1
               have HW3 := Lib.hid (HW2.out.trans hb2)
               clear hb1 hb2
               go_wp2
               go_roundw
               case rel => exact ⟨j + 1 + 1, by omega, by go_num, HN1, HW3⟩
               case measure => simp [intOf]; omega)
        · obtain rfl : i = 0 := by omega
          clear h0 HSEP HC q2
          simp only [Nat.zero_mul, Nat.add_zero] at hc0 hc1 hc2
          go_wp2_with fail
          refine (writeString_any w.heap.size w.heap.size _ s _ HB2.out HL2.out HSZ.out).mono ?_
          rintro e w1 ⟨rfl, hb1, hb2, _⟩
          have HN1 : Hid (Lib.IsBuilder 43 5 w.heap.size w.heap.size (Lib.byteCells (txt false (l.take (0 + 1)))) w1) := by
            rw [HT2.out, ← str_cells]; exact .inr hb1
          have HW3 := Lib.hid (HW2.out.trans hb2)
          clear hb1 hb2
          go_wp2
          go_roundw
          case rel => exact ⟨1, by omega, rfl, HN1, HW3⟩
          case measure => simp [intOf]; omega
      · rw [hsp] at HTI HSEP
        have h0 : 0 < i := by
          have h := HSEP.out
          by_cases h0 : 0 < i
          · exact h0
          · rw [decide_eq_false h0] at h; cases h
        have HT2 : Hid (txt false (l.take (i + 1)) = (txt false (l.take i) ++ [32]) ++ lst s) := by
          show txt false (l.take (i + 1)) = _
          rw [HTI.out]; simp
        have HL2 : Hid ((Lib.byteCells (txt false (l.take i) ++ [32])).length + s.size ≤ 140737488355328) := by
          show (Lib.byteCells (txt false (l.take i) ++ [32])).length + s.size ≤ 140737488355328
          rw [Lib.byteCells_length]
          have h1 := HNX.out
          rw [HT2.out, List.length_append, lst_length] at h1
          omega
        have HL1 : Hid ((Lib.byteCells (txt false (l.take i))).length + 1 ≤ 140737488355328) := by
          show (Lib.byteCells (txt false (l.take i))).length + 1 ≤ 140737488355328
          have h1 := HL2.out
          rw [Lib.byteCells_length, List.length_append, List.length_singleton] at h1
          rw [Lib.byteCells_length]
          omega
        clear HTI hsp
        obtain ⟨j, rfl⟩ : ∃ j, i = j + 1 := ⟨i - 1, by omega⟩
        obtain ⟨hp0, _, _⟩ := HC.out j (by rw [HN.out]; omega)
        rw [Nat.add_sub_cancel, decide_eq_true h0] at HSEP
        have q1 := is97 (l.getD j t0).k
        generalize (l.getD j t0).k = kp at *
        generalize decide (kp = 97) = d1 at *
        generalize decide (k = 97) = d2 at *
        clear h0 HC
        cases d1 <;> cases d2
        all_goals
          first
          | exact absurd HSEP.out (by decide)
          | skip
        clear HSEP
        go_wp2_with fail
        refine (writeByte_any w.heap.size w.heap.size _ 32 _ HB2.out HL1.out HSZ.out).mono ?_
        rintro e w1 ⟨rfl, hb1, hb2, hk1⟩
        have HN1 : Hid (Lib.IsBuilder 43 5 w.heap.size w.heap.size (Lib.byteCells (txt false (l.take (j + 1)) ++ [32])) w1) := by
          rw [← byte_cells]; exact .inr hb1
        have hr1 := others_row hk1 HROW.out (by omega) (by decide)
        have hcell := (hr1.cell 1).trans rfl
        have HW3 := Lib.hid (HW2.out.trans hb2)
        have HSZ3 := Lib.hid HW3.out.size
        clear hb1 hb2 hk1 hr1
        go_wp2_with fail
        refine (writeString_any w.heap.size w.heap.size _ s _ HN1.out HL2.out HSZ3.out).mono ?_
        rintro e w2 ⟨rfl, hb1, hb2, _⟩
        have HN2 : Hid (Lib.IsBuilder 43 5 w.heap.size w.heap.size (Lib.byteCells (txt false (l.take (j + 1 + 1)))) w2) := by
          rw [HT2.out, ← str_cells]; exact .inr hb1
        have HW4 := Lib.hid (HW3.out.trans hb2)
        clear hb1 hb2
        go_wp2
        go_roundw
        case rel => exact ⟨j + 1 + 1, by omega, by go_num, HN2, HW4⟩
        case measure => simp [intOf]; omega
    · obtain rfl : i = n := by omega
      go_wp2_with fail
      refine (Try.Builder_String_any w.heap.size w.heap.size _ _ HBU.out HW.out.size).mono ?_
      rintro e w1 ⟨rfl, hb⟩
      have HW1 := Lib.hid (HW.out.trans hb); clear hb
      go_wp2
      go_ret
      exact ⟨ret_eq (by rw [HE.out]; rfl), HW1.out⟩
end Go.Proofs.Ytfhmdambdkmmgaa
