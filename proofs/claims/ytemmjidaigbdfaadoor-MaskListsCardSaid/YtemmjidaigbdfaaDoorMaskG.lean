/-
  The statement MaskLists of layer 1: its function returns true. Conditions: the table of math/bits in memory.
-/
import Derived.Test.YtemmjidaigbdfaaDoorMaskE
namespace Go.Proofs.YtemmjidaigbdfaaDoor
open Go.RowKit

set_option maxHeartbeats 400000 in
theorem lists_zero_neg (s : Nat) (hz : s = 0) (k : Int) (hk : k < 0) (hs : s < 18446744073709551616) (w : World) (hT : Tab w) :
    Calls Tryd.prog 5 #[.int .u64 s, .int .i64 k] w fun e w' => e = .returned (.bool true) ∧ Below w.heap.size w w' := by
  have HT := Lib.hid hT; clear hT
  have h64 := MM.els_length s
  have hlist := fun W hW => list_any s hs W hW
  have HLI := Lib.hid hlist; clear hlist
  have hreflist := refList_any s hs w
  have hm0 : (MM.els s).length ≤ 0 := by rw [hz, MM.els_zero]; exact Nat.le_refl _
  have hlz : ∀ W : World, Calls Tryd.prog 21 #[.int .u64 s] W fun e w' => e = .returned (.tuple #[.int .i64 0, .bool false]) ∧ W = w' := fun W => by rw [hz]; exact least_zero W
  have HLZ := Lib.hid hlz; clear hlz hz
  have h0k : decide (0 ≤ k) = false := by simp; omega
  generalize hm : (MM.els s).length = m at *
  have HM := Lib.hid hm; clear hm
  have HRL := Lib.hid hreflist; clear hreflist
  go_enter Tryd.func5, Tryd.ntmps5
  go_wp2_with fail
  refine HRL.out.mono ?_
  rintro e w1 ⟨B, cb, rfl, hown, hb1⟩
  have HB1 := Lib.hid hb1; clear hb1
  have HT1 := Lib.hid (HT.out.below HB1.out)
  have HI := Lib.hid hown.ints; clear hown
  go_wp2_with fail
  refine (HLZ.out _).mono ?_
  rintro e w2 ⟨rfl, rfl⟩
  go_wp2_with fail
  refine (nth_out s hs k _ (.inl hk)).mono ?_
  rintro e w2 ⟨rfl, rfl⟩
  go_wp2_with fail
  refine (HLI.out _ HT1.out).mono ?_
  rintro e w2 ⟨A2, c2, rfl, hown2, hb2⟩
  have HB2 := Lib.hid (HB1.out.trans (hb2.mono HB1.out.size))
  have hints := ints_any A2 _ c2 cb (ei (MM.els s)) (ei (MM.els s)) w2 (by rw [ei_length, HM.out]; omega) hown2.ints (HI.out.below hb2)
  rw [ei_length, HM.out] at hints
  have HIN := Lib.hid hints
  clear hints hb2 hown2
  go_wp2_with fail
  refine HIN.out.mono ?_
  rintro e w3 ⟨rfl, hb3⟩
  have HB3 := Lib.hid (HB2.out.trans (hb3.mono HB2.out.size))
  clear hb3
  go_wp2_with fail
  refine (alive_any _ (HT.out.below HB3.out)).mono ?_
  rintro e w4 ⟨rfl, hb4⟩
  have HB4 := Lib.hid (HB3.out.trans (hb4.mono HB3.out.size))
  clear hb4
  go_wp2
  go_ret
  exact ⟨rfl, HB4.out⟩

set_option maxHeartbeats 400000 in
theorem lists_zero_pos (s : Nat) (hz : s = 0) (k : Int) (hk : 0 ≤ k) (hs : s < 18446744073709551616) (w : World) (hT : Tab w) :
    Calls Tryd.prog 5 #[.int .u64 s, .int .i64 k] w fun e w' => e = .returned (.bool true) ∧ Below w.heap.size w w' := by
  have HT := Lib.hid hT; clear hT
  have h64 := MM.els_length s
  have hlist := fun W hW => list_any s hs W hW
  have HLI := Lib.hid hlist; clear hlist
  have hreflist := refList_any s hs w
  have hm0 : (MM.els s).length ≤ 0 := by rw [hz, MM.els_zero]; exact Nat.le_refl _
  have hlz : ∀ W : World, Calls Tryd.prog 21 #[.int .u64 s] W fun e w' => e = .returned (.tuple #[.int .i64 0, .bool false]) ∧ W = w' := fun W => by rw [hz]; exact least_zero W
  have HLZ := Lib.hid hlz; clear hlz hz
  generalize hm : (MM.els s).length = m at *
  have HM := Lib.hid hm; clear hm
  have HRL := Lib.hid hreflist; clear hreflist
  go_enter Tryd.func5, Tryd.ntmps5
  go_wp2_with fail
  refine HRL.out.mono ?_
  rintro e w1 ⟨B, cb, rfl, hown, hb1⟩
  have HB1 := Lib.hid hb1; clear hb1
  have HT1 := Lib.hid (HT.out.below HB1.out)
  have HI := Lib.hid hown.ints; clear hown
  go_wp2_with fail
  refine (HLZ.out _).mono ?_
  rintro e w2 ⟨rfl, rfl⟩
  go_wp2_with fail
  refine (nth_out s hs k _ (.inr (by rw [HM.out]; omega))).mono ?_
  rintro e w2 ⟨rfl, rfl⟩
  go_wp2_with fail
  refine (HLI.out _ HT1.out).mono ?_
  rintro e w2 ⟨A2, c2, rfl, hown2, hb2⟩
  have HB2 := Lib.hid (HB1.out.trans (hb2.mono HB1.out.size))
  have hints := ints_any A2 _ c2 cb (ei (MM.els s)) (ei (MM.els s)) w2 (by rw [ei_length, HM.out]; omega) hown2.ints (HI.out.below hb2)
  rw [ei_length, HM.out] at hints
  have HIN := Lib.hid hints
  clear hints hb2 hown2
  go_wp2_with fail
  refine HIN.out.mono ?_
  rintro e w3 ⟨rfl, hb3⟩
  have HB3 := Lib.hid (HB2.out.trans (hb3.mono HB2.out.size))
  clear hb3
  go_wp2_with fail
  refine (alive_any _ (HT.out.below HB3.out)).mono ?_
  rintro e w4 ⟨rfl, hb4⟩
  have HB4 := Lib.hid (HB3.out.trans (hb4.mono HB3.out.size))
  clear hb4
  go_wp2
  go_ret
  exact ⟨rfl, HB4.out⟩

set_option maxHeartbeats 400000 in
theorem lists_neg (s : Nat) (h0 : s ≠ 0) (k : Int) (hk : k < 0) (hs : s < 18446744073709551616) (w : World) (hT : Tab w) :
    Calls Tryd.prog 5 #[.int .u64 s, .int .i64 k] w fun e w' => e = .returned (.bool true) ∧ Below w.heap.size w w' := by
  have HT := Lib.hid hT; clear hT
  have h64 := MM.els_length s
  have hlist := fun W hW => list_any s hs W hW
  have HLI := Lib.hid hlist; clear hlist
  have hreflist := refList_any s hs w
  have hm0 : 0 < (MM.els s).length := by
    obtain ⟨_, _, _, h3, _⟩ := low_ex s hs h0
    rw [h3]; simp
  obtain ⟨t, ht, hctz, hels, _⟩ := low_ex s hs h0
  have HCZ := Lib.hid hctz; clear hctz
  have ht0 : (ei (MM.els s)).getD 0 0 = (t : Int) := by rw [hels]; simp [ei]
  have HT0 := Lib.hid ht0; clear ht0 hels
  have H0 := Lib.hid h0; clear h0
  generalize hm : (MM.els s).length = m at *
  have HM := Lib.hid hm; clear hm
  have HRL := Lib.hid hreflist; clear hreflist
  go_enter Tryd.func5, Tryd.ntmps5
  go_wp2_with fail
  refine HRL.out.mono ?_
  rintro e w1 ⟨B, cb, rfl, hown, hb1⟩
  have HB1 := Lib.hid hb1; clear hb1
  have HT1 := Lib.hid (HT.out.below HB1.out)
  have HI := Lib.hid hown.ints; clear hown
  go_wp2_with fail
  refine (least_pos s t hs H0.out HCZ.out _ HT1.out).mono ?_
  rintro e w2 ⟨rfl, rfl⟩
  go_wp2_with fail
  refine (nth_out s hs k _ (.inl hk)).mono ?_
  rintro e w2 ⟨rfl, rfl⟩
  obtain ⟨g, off, rfl, hc⟩ := HI.out.cell (by intro h; have := congrArg List.length h; rw [ei_length, HM.out] at this; simp at this; omega)
  have hc0 : w1.cell? ⟨g, off, none⟩ = some (.int .i64 t) := by
    have := hc 0 (by rw [ei_length, HM.out]; omega)
    rw [HT0.out] at this
    exact this
  go_wp2_with fail
  refine (HLI.out _ HT1.out).mono ?_
  rintro e w2 ⟨A2, c2, rfl, hown2, hb2⟩
  have HB2 := Lib.hid (HB1.out.trans (hb2.mono HB1.out.size))
  have hints := ints_any A2 _ c2 cb (ei (MM.els s)) (ei (MM.els s)) w2 (by rw [ei_length, HM.out]; omega) hown2.ints (HI.out.below hb2)
  rw [ei_length, HM.out] at hints
  have HIN := Lib.hid hints
  clear hints hb2 hown2
  go_wp2_with fail
  refine HIN.out.mono ?_
  rintro e w3 ⟨rfl, hb3⟩
  have HB3 := Lib.hid (HB2.out.trans (hb3.mono HB2.out.size))
  clear hb3
  go_wp2_with fail
  refine (alive_any _ (HT.out.below HB3.out)).mono ?_
  rintro e w4 ⟨rfl, hb4⟩
  have HB4 := Lib.hid (HB3.out.trans (hb4.mono HB3.out.size))
  clear hb4
  go_wp2
  go_ret
  exact ⟨rfl, HB4.out⟩

set_option maxHeartbeats 400000 in
theorem lists_past (s : Nat) (h0 : s ≠ 0) (k : Int) (hk : ((MM.els s).length : Int) ≤ k) (hs : s < 18446744073709551616) (w : World) (hT : Tab w) :
    Calls Tryd.prog 5 #[.int .u64 s, .int .i64 k] w fun e w' => e = .returned (.bool true) ∧ Below w.heap.size w w' := by
  have HT := Lib.hid hT; clear hT
  have h64 := MM.els_length s
  have hlist := fun W hW => list_any s hs W hW
  have HLI := Lib.hid hlist; clear hlist
  have hreflist := refList_any s hs w
  have hm0 : 0 < (MM.els s).length := by
    obtain ⟨_, _, _, h3, _⟩ := low_ex s hs h0
    rw [h3]; simp
  obtain ⟨t, ht, hctz, hels, _⟩ := low_ex s hs h0
  have HCZ := Lib.hid hctz; clear hctz
  have ht0 : (ei (MM.els s)).getD 0 0 = (t : Int) := by rw [hels]; simp [ei]
  have HT0 := Lib.hid ht0; clear ht0 hels
  have H0 := Lib.hid h0; clear h0
  generalize hm : (MM.els s).length = m at *
  have HM := Lib.hid hm; clear hm
  have HRL := Lib.hid hreflist; clear hreflist
  go_enter Tryd.func5, Tryd.ntmps5
  go_wp2_with fail
  refine HRL.out.mono ?_
  rintro e w1 ⟨B, cb, rfl, hown, hb1⟩
  have HB1 := Lib.hid hb1; clear hb1
  have HT1 := Lib.hid (HT.out.below HB1.out)
  have HI := Lib.hid hown.ints; clear hown
  go_wp2_with fail
  refine (least_pos s t hs H0.out HCZ.out _ HT1.out).mono ?_
  rintro e w2 ⟨rfl, rfl⟩
  go_wp2_with fail
  refine (nth_out s hs k _ (.inr (by rw [HM.out]; exact hk))).mono ?_
  rintro e w2 ⟨rfl, rfl⟩
  obtain ⟨g, off, rfl, hc⟩ := HI.out.cell (by intro h; have := congrArg List.length h; rw [ei_length, HM.out] at this; simp at this; omega)
  have hc0 : w1.cell? ⟨g, off, none⟩ = some (.int .i64 t) := by
    have := hc 0 (by rw [ei_length, HM.out]; omega)
    rw [HT0.out] at this
    exact this
  go_wp2_with fail
  refine (HLI.out _ HT1.out).mono ?_
  rintro e w2 ⟨A2, c2, rfl, hown2, hb2⟩
  have HB2 := Lib.hid (HB1.out.trans (hb2.mono HB1.out.size))
  have hints := ints_any A2 _ c2 cb (ei (MM.els s)) (ei (MM.els s)) w2 (by rw [ei_length, HM.out]; omega) hown2.ints (HI.out.below hb2)
  rw [ei_length, HM.out] at hints
  have HIN := Lib.hid hints
  clear hints hb2 hown2
  go_wp2_with fail
  refine HIN.out.mono ?_
  rintro e w3 ⟨rfl, hb3⟩
  have HB3 := Lib.hid (HB2.out.trans (hb3.mono HB2.out.size))
  clear hb3
  go_wp2_with fail
  refine (alive_any _ (HT.out.below HB3.out)).mono ?_
  rintro e w4 ⟨rfl, hb4⟩
  have HB4 := Lib.hid (HB3.out.trans (hb4.mono HB3.out.size))
  clear hb4
  go_wp2
  go_ret
  exact ⟨rfl, HB4.out⟩

set_option maxHeartbeats 400000 in
theorem lists_in (s : Nat) (h0 : s ≠ 0) (j : Nat) (hk : j < (MM.els s).length) (hs : s < 18446744073709551616) (w : World) (hT : Tab w) :
    Calls Tryd.prog 5 #[.int .u64 s, .int .i64 j] w fun e w' => e = .returned (.bool true) ∧ Below w.heap.size w w' := by
  have HT := Lib.hid hT; clear hT
  have h64 := MM.els_length s
  have hlist := fun W hW => list_any s hs W hW
  have HLI := Lib.hid hlist; clear hlist
  have hreflist := refList_any s hs w
  have hm0 : 0 < (MM.els s).length := by
    obtain ⟨_, _, _, h3, _⟩ := low_ex s hs h0
    rw [h3]; simp
  obtain ⟨t, ht, hctz, hels, _⟩ := low_ex s hs h0
  have HCZ := Lib.hid hctz; clear hctz
  have ht0 : (ei (MM.els s)).getD 0 0 = (t : Int) := by rw [hels]; simp [ei]
  have HT0 := Lib.hid ht0; clear ht0 hels
  have H0 := Lib.hid h0; clear h0
  have hnth := fun W hW => nth_in s hs j W hk hW
  have hvj : (ei (MM.els s)).getD j 0 = (((MM.els s).getD j 0 : Nat) : Int) := by simp [ei, List.getD_eq_getElem?_getD, List.getElem?_eq_getElem hk]
  generalize hv : (MM.els s).getD j 0 = v at *
  clear hv
  have HN := Lib.hid hnth; clear hnth
  have HVJ := Lib.hid hvj; clear hvj
  generalize hm : (MM.els s).length = m at *
  have HM := Lib.hid hm; clear hm
  have HRL := Lib.hid hreflist; clear hreflist
  go_enter Tryd.func5, Tryd.ntmps5
  go_wp2_with fail
  refine HRL.out.mono ?_
  rintro e w1 ⟨B, cb, rfl, hown, hb1⟩
  have HB1 := Lib.hid hb1; clear hb1
  have HT1 := Lib.hid (HT.out.below HB1.out)
  have HI := Lib.hid hown.ints; clear hown
  go_wp2_with fail
  refine (least_pos s t hs H0.out HCZ.out _ HT1.out).mono ?_
  rintro e w2 ⟨rfl, rfl⟩
  go_wp2_with fail
  refine (HN.out _ HT1.out).mono ?_
  rintro e w2 ⟨rfl, rfl⟩
  obtain ⟨g, off, rfl, hc⟩ := HI.out.cell (by intro h; have := congrArg List.length h; rw [ei_length, HM.out] at this; simp at this; omega)
  have hc0 : w1.cell? ⟨g, off, none⟩ = some (.int .i64 t) := by
    have := hc 0 (by rw [ei_length, HM.out]; omega)
    rw [HT0.out] at this
    exact this
  have hcj : w1.cell? ⟨g, off + j, none⟩ = some (.int .i64 v) := by
    have := hc j (by rw [ei_length, HM.out]; omega)
    rw [HVJ.out] at this
    exact this
  go_wp2_with fail
  refine (HLI.out _ HT1.out).mono ?_
  rintro e w2 ⟨A2, c2, rfl, hown2, hb2⟩
  have HB2 := Lib.hid (HB1.out.trans (hb2.mono HB1.out.size))
  have hints := ints_any A2 _ c2 cb (ei (MM.els s)) (ei (MM.els s)) w2 (by rw [ei_length, HM.out]; omega) hown2.ints (HI.out.below hb2)
  rw [ei_length, HM.out] at hints
  have HIN := Lib.hid hints
  clear hints hb2 hown2
  go_wp2_with fail
  refine HIN.out.mono ?_
  rintro e w3 ⟨rfl, hb3⟩
  have HB3 := Lib.hid (HB2.out.trans (hb3.mono HB2.out.size))
  clear hb3
  go_wp2_with fail
  refine (alive_any _ (HT.out.below HB3.out)).mono ?_
  rintro e w4 ⟨rfl, hb4⟩
  have HB4 := Lib.hid (HB3.out.trans (hb4.mono HB3.out.size))
  clear hb4
  go_wp2
  go_ret
  exact ⟨rfl, HB4.out⟩

theorem maskLists_law (s : Nat) (k : Int) (hs : s < 18446744073709551616) (w : World) (hT : Tab w) :
    Calls Tryd.prog 5 #[.int .u64 s, .int .i64 k] w fun e w' => e = .returned (.bool true) ∧ Below w.heap.size w w' := by
  by_cases hz : s = 0
  · by_cases hk : k < 0
    · exact lists_zero_neg s hz k hk hs w hT
    · exact lists_zero_pos s hz k (by omega) hs w hT
  · by_cases hk : k < 0
    · exact lists_neg s hz k hk hs w hT
    · by_cases hk2 : ((MM.els s).length : Int) ≤ k
      · exact lists_past s hz k hk2 hs w hT
      · obtain ⟨j, rfl⟩ := Int.eq_ofNat_of_zero_le (show 0 ≤ k by omega)
        exact lists_in s hz j (by omega) hs w hT
end Go.Proofs.YtemmjidaigbdfaaDoor
