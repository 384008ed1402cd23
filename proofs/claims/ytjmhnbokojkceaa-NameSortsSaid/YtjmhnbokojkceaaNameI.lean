/-
  The statements NameRight, NameFinds and NameSorts of layer 2: their functions return true. Conditions: the slices read as lists.
-/
import Derived.Test.YtjmhnbokojkceaaNameH
namespace Go.Proofs.Ytjmhnbokojkceaa
open Go.RowKit

set_option maxHeartbeats 800000 in
theorem nameRight_law (a b : ByteArray) (w : World) :
    Calls Try.prog 3 #[.string a, .string b] w fun e w' => e = .returned (.bool true) ∧ Below w.heap.size w w' := by
  have hlong := long_any (some ⟨w.heap.size, 0, none⟩) 2 [a, b] (w.alloc (.cells #[.string a, .string b] 9)) (new_strs w [a, b] 9)
  have HB1 : Hid (Below w.heap.size w (w.alloc (.cells #[.string a, .string b] 9))) := (Below.refl _ _).alloc (Nat.le_refl _) _
  cases hb : longB [a, b]
  · rw [hb] at hlong
    have HL := Lib.hid hlong; clear hlong
    obtain ⟨_, hs⟩ := longB_no hb
    have hsa := hs a (by simp)
    have hsb := hs b (by simp)
    clear hb hs
    go_enter Try.func3, Try.ntmps3
    go_wp2_with fail
    refine HL.out.mono ?_
    rintro e w1 ⟨rfl, rfl⟩
    go_wp2_with fail
    refine (right_any a _).mono ?_
    rintro e w2 ⟨rfl, hb2⟩
    have HB2 := Lib.hid (HB1.out.trans (hb2.mono HB1.out.size)); clear hb2
    go_wp2_with fail
    refine (refRight_any a _).mono ?_
    rintro e w3 ⟨rfl, hd3⟩
    have HB3 := Lib.hid (HB2.out.trans (hd3.below.mono HB2.out.size)); clear hd3
    go_wp2_with fail
    refine (less_any a b _).mono ?_
    rintro e w4 ⟨rfl, rfl⟩
    go_wp2_with fail
    refine (refLess_any a b _ (by omega) (by omega)).mono ?_
    rintro e w4 ⟨rfl, hd4⟩
    have HB4 := Lib.hid (HB3.out.trans (hd4.below.mono HB3.out.size)); clear hd4
    go_wp2_with fail
    refine (alive_any _).mono ?_
    rintro e w5 ⟨rfl, hb5⟩
    have HB5 := Lib.hid (HB4.out.trans (hb5.mono HB4.out.size)); clear hb5
    go_wp2
    go_ret
    exact ⟨rfl, HB5.out⟩
  · rw [hb] at hlong
    have HL := Lib.hid hlong; clear hlong hb
    go_enter Try.func3, Try.ntmps3
    go_wp2_with fail
    refine HL.out.mono ?_
    rintro e w1 ⟨rfl, rfl⟩
    go_wp2_with fail
    refine (alive_any _).mono ?_
    rintro e w5 ⟨rfl, hb5⟩
    have HB5 := Lib.hid (HB1.out.trans (hb5.mono HB1.out.size)); clear hb5
    go_wp2
    go_ret
    exact ⟨rfl, HB5.out⟩

set_option maxHeartbeats 800000 in
theorem nameFinds_law (A B : Option Addr) (c cb : Nat) (xs ys : List ByteArray) (s : ByteArray) (w : World) (hA : Strs w A xs) (hB : Strs w B ys) :
    Calls Try.prog 4 #[.slice A xs.length c, .slice B ys.length cb, .string s] w fun e w' => e = .returned (.bool true) ∧ Below w.heap.size w w' := by
  have hl1 := long_any A c xs w hA
  have hl2 := long_any B cb ys w hB
  have HA := Lib.hid hA; have HB := Lib.hid hB
  clear hA hB
  by_cases hno : longB xs = false ∧ longB ys = false ∧ s.size ≤ 200
  · obtain ⟨h1, h2, h3⟩ := hno
    rw [h1] at hl1; rw [h2] at hl2
    obtain ⟨hx1, hx2⟩ := longB_no h1
    obtain ⟨hy1, hy2⟩ := longB_no h2
    have HF := Lib.hid (fun W hW => find_any A c xs s W (by omega) (HA.out.below hW))
    have HFR := Lib.hid (fun W hW => refFind_any A c xs s W (by omega) (HA.out.below hW))
    have HT := Lib.hid (fun W hW => twice_any A c xs W (by omega) (fun x hx => by have := hx2 x hx; omega) (HA.out.below hW))
    have HTR := Lib.hid (fun W hW => refTwice_any A c xs W (by omega) (HA.out.below hW))
    have HS := Lib.hid (fun W hW => same_any A B c cb xs ys W (by omega) (HA.out.below hW) (HB.out.below hW))
    have HSR := Lib.hid (fun W hW => refSame_any A B c cb xs ys W (by omega) (HA.out.below hW) (HB.out.below hW))
    have HL1 := Lib.hid hl1; have HL2 := Lib.hid hl2
    clear hl1 hl2 h1 h2 hx2 hy2 hx1 hy1
    generalize idx xs s = qf at *
    generalize twc xs = qt at *
    generalize same xs ys = qs at *
    generalize xs.length = n at *
    generalize ys.length = m at *
    go_enter Try.func4, Try.ntmps4
    go_wp2_with fail
    refine HL1.out.mono ?_
    rintro e w1 ⟨rfl, rfl⟩
    go_wp2_with fail
    refine HL2.out.mono ?_
    rintro e w1 ⟨rfl, rfl⟩
    go_wp2_with fail
    refine (HF.out _ (Below.refl _ _)).mono ?_
    rintro e w1 ⟨rfl, hb1⟩
    have HB1 := Lib.hid hb1; clear hb1
    go_wp2_with fail
    refine (HFR.out _ HB1.out).mono ?_
    rintro e w2 ⟨rfl, rfl⟩
    go_wp2_with fail
    refine (HT.out _ HB1.out).mono ?_
    rintro e w2 ⟨rfl, hb2⟩
    have HB2 := Lib.hid (HB1.out.trans (hb2.mono HB1.out.size)); clear hb2
    go_wp2_with fail
    refine (HTR.out _ HB2.out).mono ?_
    rintro e w3 ⟨rfl, rfl⟩
    go_wp2_with fail
    refine (HS.out _ HB2.out).mono ?_
    rintro e w3 ⟨rfl, hb3⟩
    have HB3 := Lib.hid (HB2.out.trans (hb3.mono HB2.out.size)); clear hb3
    go_wp2_with fail
    refine (HSR.out _ HB3.out).mono ?_
    rintro e w4 ⟨rfl, hd4⟩
    have HB4 := Lib.hid (HB3.out.trans (hd4.below.mono HB3.out.size)); clear hd4
    go_wp2_with fail
    refine (alive_any _).mono ?_
    rintro e w5 ⟨rfl, hb5⟩
    have HB5 := Lib.hid (HB4.out.trans (hb5.mono HB4.out.size)); clear hb5
    go_wp2
    go_ret
    exact ⟨rfl, HB5.out⟩
  · have HL1 := Lib.hid hl1; have HL2 := Lib.hid hl2
    clear hl1 hl2
    have hcases : longB xs = true ∨ (longB xs = false ∧ longB ys = true) ∨ (longB xs = false ∧ longB ys = false ∧ 200 < s.size) := by
      cases h1 : longB xs
      · cases h2 : longB ys
        · exact .inr (.inr ⟨rfl, rfl, by rw [h1, h2] at hno; simp at hno; omega⟩)
        · exact .inr (.inl ⟨rfl, rfl⟩)
      · exact .inl rfl
    clear hno
    generalize longB xs = p1 at *
    generalize longB ys = p2 at *
    generalize xs.length = n at *
    generalize ys.length = m at *
    have HAL := Lib.hid (alive_any w)
    rcases hcases with rfl | ⟨rfl, rfl⟩ | ⟨rfl, rfl, h3⟩
    all_goals
      go_enter Try.func4, Try.ntmps4
      go_wp2_with ((first | (with_reducible refine HL1.out.mono ?_) | (with_reducible refine HL2.out.mono ?_)); rintro e w1 ⟨rfl, rfl⟩)
      refine HAL.out.mono ?_
      rintro e w5 ⟨rfl, hb5⟩
      have HB5 := Lib.hid hb5; clear hb5
      go_wp2
      go_ret
      exact ⟨rfl, HB5.out⟩

set_option maxHeartbeats 800000 in
theorem nameSorts_law (A : Option Addr) (c : Nat) (xs : List ByteArray) (b : ByteArray) (w : World) (hc : xs.length ≤ c) (hA : Strs w A xs) :
    Calls Try.prog 5 #[.slice A xs.length c, .string b] w fun e w' => e = .returned (.bool true) ∧ Below w.heap.size w w' := by
  have hl1 := long_any A c xs w hA
  have HA := Lib.hid hA
  clear hA
  by_cases hno : longB xs = false ∧ b.size ≤ 20
  · obtain ⟨h1, h3⟩ := hno
    rw [h1] at hl1
    obtain ⟨hx1, hx2⟩ := longB_no h1
    have hsl := NM.srt_len xs
    have HF := Lib.hid (fun W hW => sort_any A c xs W (by omega) (HA.out.below hW))
    have HFR := Lib.hid (fun W hW => refSort_any A c xs W (by omega) (fun x hx => by have := hx2 x hx; omega) (HA.out.below hW))
    have HT := Lib.hid (fun W hW => join_any A c xs b W hx1 hc hx2 h3 (HA.out.below hW))
    have HTR := Lib.hid (fun W hW => refJoin_any A c xs b W hx1 hx2 h3 (HA.out.below hW))
    have HS := Lib.hid (fun A' B' c' cb' W hW hW2 => refSame_any A' B' c' cb' (NM.srt xs) (NM.srt xs) W (by omega) hW hW2)
    have HL1 := Lib.hid hl1
    clear hl1 h1 hx2 hsl
    have hss : same (NM.srt xs) (NM.srt xs) = true := decide_eq_true rfl
    rw [hss] at HS
    clear hss
    generalize NM.srt xs = T at *
    generalize NM.jn xs b = J at *
    generalize xs.length = n at *
    generalize T.length = m at *
    go_enter Try.func5, Try.ntmps5
    go_wp2_with fail
    refine HL1.out.mono ?_
    rintro e w1 ⟨rfl, rfl⟩
    go_wp2_with fail
    refine (HF.out _ (Below.refl _ _)).mono ?_
    rintro e w1 ⟨A1, c1, rfl, hs1, hb1⟩
    have HB1 := Lib.hid hb1; have HS1 := Lib.hid hs1; clear hb1 hs1
    go_wp2_with fail
    refine (HFR.out _ HB1.out).mono ?_
    rintro e w2 ⟨A2, c2, rfl, hs2, hb2⟩
    have HS1' := Lib.hid (HS1.out.below hb2)
    have HS2 := Lib.hid hs2
    have HB2 := Lib.hid (HB1.out.trans (hb2.mono HB1.out.size)); clear hb2 hs2
    go_wp2_with fail
    refine (HS.out A1 A2 c1 c2 _ HS1'.out HS2.out).mono ?_
    rintro e w3 ⟨rfl, hd3⟩
    have HB3 := Lib.hid (HB2.out.trans (hd3.below.mono HB2.out.size)); clear hd3
    go_wp2_with fail
    refine (HT.out _ HB3.out).mono ?_
    rintro e w4 ⟨rfl, hb4⟩
    have HB4 := Lib.hid (HB3.out.trans (hb4.mono HB3.out.size)); clear hb4
    go_wp2_with fail
    refine (HTR.out _ HB4.out).mono ?_
    rintro e w5 ⟨rfl, rfl⟩
    go_wp2_with fail
    refine (alive_any _).mono ?_
    rintro e w5 ⟨rfl, hb5⟩
    have HB5 := Lib.hid (HB4.out.trans (hb5.mono HB4.out.size)); clear hb5
    go_wp2
    go_ret
    exact ⟨rfl, HB5.out⟩
  · have HL1 := Lib.hid hl1
    clear hl1
    have hcases : longB xs = true ∨ (longB xs = false ∧ 20 < b.size) := by
      cases h1 : longB xs
      · exact .inr ⟨rfl, by rw [h1] at hno; simp at hno; omega⟩
      · exact .inl rfl
    clear hno
    generalize longB xs = p1 at *
    generalize xs.length = n at *
    have HAL := Lib.hid (alive_any w)
    rcases hcases with rfl | ⟨rfl, h3⟩
    all_goals
      go_enter Try.func5, Try.ntmps5
      go_wp2_with ((with_reducible refine HL1.out.mono ?_); rintro e w1 ⟨rfl, rfl⟩)
      refine HAL.out.mono ?_
      rintro e w5 ⟨rfl, hb5⟩
      have HB5 := Lib.hid hb5; clear hb5
      go_wp2
      go_ret
      exact ⟨rfl, HB5.out⟩
end Go.Proofs.Ytjmhnbokojkceaa
