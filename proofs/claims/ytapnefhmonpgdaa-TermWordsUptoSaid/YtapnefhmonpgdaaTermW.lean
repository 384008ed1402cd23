/-
  TermWords. Conditions: at most 2^20 trees.
-/
import Derived.Test.YtapnefhmonpgdaaTermV
namespace Go.Proofs.Ytapnefhmonpgdaa
open Go.RowKit LX TR TM

set_option maxRecDepth 100000 in
set_option maxHeartbeats 800000 in
theorem words2_any (A B : Option Addr) (c d : Nat) (ws : List Wd) (K : Nat) (w : World) (hK : K ≤ w.heap.size) (hA : Sl w K A (wcs ws)) (hB : Sl w K B (wcs ws)) (hl : ws.length ≤ 2147483648) :
    Calls Try.prog 11 #[.slice A ws.length c, .slice B ws.length d] w fun e w' => e = .returned (.bool true) ∧ Dr w w' := by
  have HA := Lib.hid hA; clear hA
  have HB := Lib.hid hB; clear hB
  generalize hn : ws.length = n at *
  have HN := Lib.hid hn; clear hn
  go_enter Try.func11, Try.ntmps11
  go_wp2_with fail
  go_loopw [5] (fun iv wr => ∃ i : Nat, i ≤ n ∧ iv = .int .i64 i ∧ Hid (Dr w wr)) (fun iv _ => n - (intOf iv).toNat)
  case atStart => exact ⟨0, by omega, rfl, Dr.refl _⟩
  case round =>
    obtain ⟨i, hi, rfl, HW⟩ := hrel
    by_cases hlt : i < n
    · have hb := HW.out.below
      obtain ⟨b1, o1, rfl, _, hc1⟩ := sl_at (z := w0) wcells_length (HA.out.below (hb.mono hK)) (k := i) (by rw [HN.out]; exact hlt) (by omega)
      obtain ⟨b2, o2, rfl, _, hc2⟩ := sl_at (z := w0) wcells_length (HB.out.below (hb.mono hK)) (k := i) (by rw [HN.out]; exact hlt) (by omega)
      have p0 := hc1 i 0 _ (by rw [HN.out]; exact hlt) (by omega) rfl
      have p1 := hc1 i 1 _ (by rw [HN.out]; exact hlt) (by omega) rfl
      have q0 := hc2 i 0 _ (by rw [HN.out]; exact hlt) (by omega) rfl
      have q1 := hc2 i 1 _ (by rw [HN.out]; exact hlt) (by omega) rfl
      rw [Nat.add_zero] at p0 q0
      rw [← Nat.add_assoc] at p1 q1
      have hin : (i : Int) < (n : Int) := by omega
      clear hc1 hc2 hb
      generalize (ws.getD i w0) = x at *
      obtain ⟨s, p⟩ := x
      simp only at p0 p1 q0 q1
      go_wp2_with fail
      go_quiet (fail)
      go_wp2_with fail
      go_roundw
      case rel => exact ⟨i + 1, by omega, by go_num, HW.out.more _⟩
      case measure => simp [intOf]; omega
    · obtain rfl : i = n := by omega
      go_wp2_with fail
      go_ret
      exact ⟨rfl, HW.out⟩
set_option maxRecDepth 100000 in
set_option maxHeartbeats 3200000 in
theorem termWords_any (A : Option Addr) (c : Nat) (l : List Tr) (i e : Int) (w : World) (hT : Trs w w.heap.size A l) (hn : (nodes l).length ≤ 1048576) :
    Calls Try.prog 3 #[.slice A l.length c, .int .i64 i, .int .i64 e] w fun e' w' => e' = .returned (.bool true) ∧ Below w.heap.size w w' := by
  have HM := Lib.hid (many_any _ l A c w (Nat.le_refl _) (by omega) hT)
  by_cases h300 : 300 < (nodes l).length
  · clear hT
    generalize (nodes l).length = T at *
    generalize l.length = n at *
    go_enter Try.func3, Try.ntmps3
    go_wp2_with fail
    refine HM.out.mono ?_
    rintro e' w' ⟨rfl, rfl⟩
    go_wp2_with fail
    refine (alive10_any _).mono ?_
    rintro e' w9 ⟨rfl, hb⟩
    have HB9 := Lib.hid hb
    clear hb
    go_wp2_with fail
    go_ret
    exact ⟨rfl, HB9.out⟩
  · have hsz : l.length ≤ 2199023255552 ∧ ∀ x ∈ nodes l, x.ks.length ≤ 2199023255552 := by
      have h1 := length_nodes l
      exact ⟨by omega, fun x hx => by have := kids_few l x hx; omega⟩
    have HC := Lib.hid (words_call A c l i e w hT hsz)
    have hkl : ∀ x ∈ l, x.ks.length ≤ 300 := fun x hx => by have := kids_few l x (mem_nodes hx); omega
    have HRF := Lib.hid (fun w1 (hb : Below w.heap.size w w1) => refwords_any A c l i e w1 ((hT.below hb).mono hb.size) hkl)
    have hwf : ∀ ws r, namesR (rest l i) e = .ok (ws, r) → ws.length ≤ 2147483648 := fun ws r h => by
      cases hr : rest l i with
      | nil => rw [hr] at h; cases h
      | cons x q =>
        rw [hr] at h
        by_cases hk : x.t.k = 123
        · rw [names_whole hk] at h
          cases hq : wholeR x.ks x.e with
          | error p => rw [hq] at h; cases h
          | ok y =>
            rw [hq] at h
            simp only [Except.ok.injEq, Prod.mk.injEq] at h
            have h1 := whole_few hq
            have h2 : x ∈ l := by
              have h3 : x ∈ rest l i := by rw [hr]; simp
              unfold rest at h3
              split at h3
              · cases h3
              · exact List.mem_of_mem_drop h3
            have h4 := hkl x h2
            rw [← h.1]; omega
        · rw [names_miss (by exact hk)] at h; cases h
    clear hT hsz hkl
    unfold HandedW at HC
    generalize hnn : (nodes l).length = T at *
    clear hnn
    generalize l.length = n at *
    cases hR : namesR (rest l i) e with
    | error p =>
      rw [hR] at HC HRF
      clear hR hwf
      go_enter Try.func3, Try.ntmps3
      go_wp2_with fail
      refine HM.out.mono ?_
      rintro e' w' ⟨rfl, rfl⟩
      go_wp2_with fail
      refine HC.out.mono ?_
      rintro e' w1 ⟨v, rfl, hv, hb1⟩
      obtain rfl : v = .tuple #[.slice none 0 0, .agg #[.int .i64 2, .int .i64 p]] := hv
      have hb2 : Below w.heap.size w (w1.alloc (.cells #[.int .i64 2, .int .i64 p] 27)) := hb1.alloc hb1.size _
      have HF := Lib.hid (HRF.out _ hb2)
      have HB2 := Lib.hid hb2
      have HG2 := Lib.hid (RowAt.new w1 27 #[.int .i64 2, .int .i64 p])
      clear hb1 hb2
      go_wp2_with fail
      refine HF.out.mono ?_
      rintro e' w3 ⟨⟨Y, m, dd, rfl⟩, hb3⟩
      have hz3 : w1.heap.size < w3.heap.size := Nat.lt_of_lt_of_le HG2.out.lt hb3.size
      have hbz : Below w3.heap.size w3 (w3.alloc (.cells #[.int .i64 0, .int .i64 0, .string ⟨#[]⟩, .slice none 0 0, .slice none 0 0, .int .i64 0, .bool true, .int .i64 p] 34)) := (Below.refl _ _).alloc (Nat.le_refl _) _
      have HG3 := Lib.hid ((HG2.out.below hb3 HG2.out.lt).below hbz hz3)
      have HB3 := Lib.hid ((HB2.out.trans (hb3.mono HB2.out.size)).trans (hbz.mono (Nat.le_trans HB2.out.size hb3.size)))
      have HGG := Lib.hid (RowAt.new w3 34 #[.int .i64 0, .int .i64 0, .string ⟨#[]⟩, .slice none 0 0, .slice none 0 0, .int .i64 0, .bool true, .int .i64 p])
      clear hb3 hbz
      unfold gbad
      go_upto_region 5 with fail
      generalize w3.alloc (.cells #[.int .i64 0, .int .i64 0, .string ⟨#[]⟩, .slice none 0 0, .slice none 0 0, .int .i64 0, .bool true, .int .i64 p] 34) = w4 at *
      obtain ⟨⟨h0, h1, h2, h3, h4, h5, h6, h7⟩, ff⟩ := row8 HGG.out
      obtain ⟨f0, f1, _, _⟩ := row2 HG3.out
      go_wp2_with fail
      refine (alive10_any _).mono ?_
      rintro e' w9 ⟨rfl, hb⟩
      have HB9 := Lib.hid (HB3.out.trans (hb.mono HB3.out.size))
      clear hb
      go_wp2_with fail
      go_ret
      exact ⟨rfl, HB9.out⟩
    | ok yr =>
      obtain ⟨ws, r⟩ := yr
      rw [hR] at HC HRF
      have hwl := hwf ws r hR
      clear hR hwf
      go_enter Try.func3, Try.ntmps3
      go_wp2_with fail
      refine HM.out.mono ?_
      rintro e' w' ⟨rfl, rfl⟩
      go_wp2_with fail
      refine HC.out.mono ?_
      rintro e' w1 ⟨v, rfl, hv, hb1⟩
      obtain ⟨X, cx, rfl, _, hslx⟩ := hv
      have hb2 : Below w.heap.size w (w1.alloc (.cells #[.int .i64 0, .int .i64 0] 27)) := hb1.alloc hb1.size _
      have HF := Lib.hid (HRF.out _ hb2)
      have HB2 := Lib.hid hb2
      have HG2 := Lib.hid (RowAt.new w1 27 #[.int .i64 0, .int .i64 0])
      have HSX := Lib.hid (hslx.keep9 (wb := w1.alloc (.cells #[.int .i64 0, .int .i64 0] 27)) fun k hk _ => heap_alloc_old _ _ hk)
      clear hb1 hb2 hslx
      go_wp2_with fail
      refine HF.out.mono ?_
      rintro e' w3 ⟨⟨Y, dd, s9, p9, i2, rfl, hsly⟩, hb3⟩
      have hz3 : w1.heap.size < w3.heap.size := Nat.lt_of_lt_of_le HG2.out.lt hb3.size
      have hbz : Below w3.heap.size w3 (w3.alloc (.cells #[.int .i64 0, .int .i64 p9, .string s9, .slice none 0 0, .slice none 0 0, .int .i64 i2, .bool false, .int .i64 0] 34)) := (Below.refl _ _).alloc (Nat.le_refl _) _
      have HG3 := Lib.hid ((HG2.out.below hb3 HG2.out.lt).below hbz hz3)
      have HB3 := Lib.hid ((HB2.out.trans (hb3.mono HB2.out.size)).trans (hbz.mono (Nat.le_trans HB2.out.size hb3.size)))
      have HGG := Lib.hid (RowAt.new w3 34 #[.int .i64 0, .int .i64 p9, .string s9, .slice none 0 0, .slice none 0 0, .int .i64 i2, .bool false, .int .i64 0])
      have HSX3 := Lib.hid (((HSX.out.sl.below hb3).mono hb3.size).below hbz)
      have HSY3 := Lib.hid (hsly.sl.below hbz)
      clear hb3 hsly
      unfold gok
      go_upto_region 5 with fail
      have hW2 := words2_any X Y cx dd ws w3.heap.size _ hbz.size HSX3.out HSY3.out hwl
      clear hbz
      generalize w3.alloc (.cells #[.int .i64 0, .int .i64 p9, .string s9, .slice none 0 0, .slice none 0 0, .int .i64 i2, .bool false, .int .i64 0] 34) = w4 at *
      have HW2 := Lib.hid hW2; clear hW2
      obtain ⟨⟨h0, h1, h2, h3, h4, h5, h6, h7⟩, ff⟩ := row8 HGG.out
      go_wp2_with fail
      refine HW2.out.mono ?_
      rintro e' w5 ⟨rfl, hd5⟩
      have HB5 := Lib.hid (HB3.out.trans (hd5.below.mono HB3.out.size))
      obtain ⟨f0, f1, _, _⟩ := row2 (HG3.out.below hd5.below HG3.out.lt)
      clear hd5
      go_wp2_with fail
      refine (alive10_any _).mono ?_
      rintro e' w9 ⟨rfl, hb⟩
      have HB9 := Lib.hid (HB5.out.trans (hb.mono HB5.out.size))
      clear hb
      go_wp2_with fail
      go_ret
      exact ⟨rfl, HB9.out⟩
end Go.Proofs.Ytapnefhmonpgdaa
