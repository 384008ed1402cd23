/-
  The laws TreeReads and TreeBack return true. Conditions: none but what the laws ask themselves.
-/
import Derived.Test.YtnaaejemanmgnaaTreeN
namespace Go.Proofs.Ytnaaejemanmgnaa
open Go.RowKit LX TR

theorem not_big9 {l : List Tk} (h : bigB l = false) : l.length ≤ 300 := by
  unfold bigB at h
  rw [Bool.or_eq_false_iff, decide_eq_false_iff_not] at h
  omega
theorem parse_nodes {l : List Tk} {ts us : List Tr} (h : parse l = .ok ts) (hu : er us = ts) : (nodes us).length ≤ l.length := by
  rw [← nodes_er, hu]; exact spells_length (parse_spells h).1

set_option maxHeartbeats 1600000 in
theorem treeReads_any (A : Option Addr) (c : Nat) (l : List Tk) (w : World) (hA : Toks w A l) :
    Calls Try.prog 3 #[.slice A l.length c] w fun e w' => e = .returned (.bool true) ∧ Below w.heap.size w w' := by
  have HBG := Lib.hid (big_any A c l w hA)
  cases hbig : bigB l
  · have h300 := not_big9 hbig
    have HR1 := Lib.hid (treeRead_any A c l w (by omega) hA)
    have HR2 := Lib.hid (fun W (h : Toks W A l) => refRead9_any A c l W (by omega) h)
    have HA := Lib.hid hA; clear hA
    rw [hbig] at HBG
    clear hbig
    cases hR : parse l with
    | ok ts =>
      have HK1 := Lib.hid (HR1.out.mono fun e w' h => rt_ok hR h)
      have HK2 := Lib.hid (fun W h => (HR2.out W h).mono fun e w' h => rt_ok hR h)
      have HND : Hid (∀ us, er us = ts → (nodes us).length ≤ 300) := fun us hu => Nat.le_trans (parse_nodes hR hu) h300
      clear HR1 HR2 hR
      generalize l.length = n at *
      go_enter Try.func3, Try.ntmps3
      go_wp2_with fail
      refine HBG.out.mono ?_
      rintro e w' ⟨rfl, rfl⟩
      go_wp2_with fail
      refine HK1.out.mono ?_
      rintro e w1 ⟨hb1, X, d, us, rfl, hus, hcap, htr⟩
      have hba : Below w1.heap.size w1 (w1.alloc (.cells #[.int .i64 0, .int .i64 0] 27)) := (Below.refl _ _).alloc (Nat.le_refl _) _
      have HF1 := Lib.hid (RowAt.new w1 27 #[.int .i64 0, .int .i64 0])
      have HT1 := Lib.hid (Trs.mono (htr.below hba) hba.size)
      have HA1 := Lib.hid ((HA.out.below hb1).alloc (.cells #[.int .i64 0, .int .i64 0] 27))
      have HB1 := Lib.hid (hb1.alloc hb1.size (.cells #[.int .i64 0, .int .i64 0] 27))
      have HU1 := Lib.hid hus
      clear hb1 hus hcap htr hba
      go_wp2_with fail
      refine (HK2.out _ HA1.out).mono ?_
      rintro e w2 ⟨hb2, Y, d2, vs, rfl, hvs, hcap, htr⟩
      have hba : Below w2.heap.size w2 (w2.alloc (.cells #[.int .i64 0, .int .i64 0] 27)) := (Below.refl _ _).alloc (Nat.le_refl _) _
      have HF2 := Lib.hid ((HF1.out.below hb2 HF1.out.lt).alloc (.cells #[.int .i64 0, .int .i64 0] 27))
      have HG2 := Lib.hid (RowAt.new w2 27 #[.int .i64 0, .int .i64 0])
      have HT2 := Lib.hid (Trs.mono (((HT1.out.below hb2).mono hb2.size).below hba) hba.size)
      have HV2 := Lib.hid (Trs.mono (htr.below hba) hba.size)
      have HB2 := Lib.hid ((HB1.out.trans (hb2.mono HB1.out.size)).alloc (by have := HB1.out.size; have := hb2.size; omega) (.cells #[.int .i64 0, .int .i64 0] 27))
      have hsm := refSame9_any 300 us vs X Y d d2 _ (HND.out us HU1.out) (by decide) HT2.out HV2.out
      have hst : TR.same us vs = true := (same_er us vs).2 (HU1.out.trans hvs.symm)
      rw [hst] at hsm
      have HSM := Lib.hid hsm
      clear hb2 hvs hcap htr hba hsm hst
      generalize us.length = nu at *
      generalize vs.length = nv at *
      go_wp2_with fail
      refine HSM.out.mono ?_
      rintro e w3 ⟨rfl, hd⟩
      have hb3 := hd.below
      have a0 := ((HF2.out.below hb3 HF2.out.lt).cell 0).trans rfl
      have a1 := ((HF2.out.below hb3 HF2.out.lt).cell 1).trans rfl
      have b0 := ((HG2.out.below hb3 HG2.out.lt).cell 0).trans rfl
      have b1 := ((HG2.out.below hb3 HG2.out.lt).cell 1).trans rfl
      have HB3 := Lib.hid (HB2.out.trans (hb3.mono HB2.out.size))
      clear hd hb3
      go_wp2_with fail
      refine (alive9_any _).mono ?_
      rintro e w4 ⟨rfl, hb⟩
      have HB4 := Lib.hid (HB3.out.trans (hb.mono HB3.out.size)); clear hb
      go_wp2
      go_ret
      exact ⟨rfl, HB4.out⟩
    | error p =>
      have HK1 := Lib.hid (HR1.out.mono fun e w' h => rt_err hR h)
      have HK2 := Lib.hid (fun W h => (HR2.out W h).mono fun e w' h => rt_err hR h)
      have HSA : Hid (∀ W, Calls Try.prog 11 #[.slice none 0 0, .slice none 0 0] W fun e w' => e = .returned (.bool true) ∧ Dr W w') := fun W => by
        have h := refSame9_any 0 [] [] none none 0 0 W (by simp [nodes]) (by decide) (Trs.nil _ _ _) (Trs.nil _ _ _)
        rw [TR.same_refl] at h
        exact h
      clear HR1 HR2 hR
      generalize l.length = n at *
      go_enter Try.func3, Try.ntmps3
      go_wp2_with fail
      refine HBG.out.mono ?_
      rintro e w' ⟨rfl, rfl⟩
      go_wp2_with fail
      refine HK1.out.mono ?_
      rintro e w1 ⟨hb1, rfl⟩
      have HF1 := Lib.hid (RowAt.new w1 27 #[.int .i64 2, .int .i64 p])
      have HA1 := Lib.hid ((HA.out.below hb1).alloc (.cells #[.int .i64 2, .int .i64 p] 27))
      have HB1 := Lib.hid (hb1.alloc hb1.size (.cells #[.int .i64 2, .int .i64 p] 27))
      clear hb1
      go_wp2_with fail
      refine (HK2.out _ HA1.out).mono ?_
      rintro e w2 ⟨hb2, rfl⟩
      have HF2 := Lib.hid ((HF1.out.below hb2 HF1.out.lt).alloc (.cells #[.int .i64 2, .int .i64 p] 27))
      have HG2 := Lib.hid (RowAt.new w2 27 #[.int .i64 2, .int .i64 p])
      have HB2 := Lib.hid ((HB1.out.trans (hb2.mono HB1.out.size)).alloc (by have := HB1.out.size; have := hb2.size; omega) (.cells #[.int .i64 2, .int .i64 p] 27))
      clear hb2
      go_wp2_with fail
      refine (HSA.out _).mono ?_
      rintro e w3 ⟨rfl, hd⟩
      have hb3 := hd.below
      have a0 := ((HF2.out.below hb3 HF2.out.lt).cell 0).trans rfl
      have a1 := ((HF2.out.below hb3 HF2.out.lt).cell 1).trans rfl
      have b0 := ((HG2.out.below hb3 HG2.out.lt).cell 0).trans rfl
      have b1 := ((HG2.out.below hb3 HG2.out.lt).cell 1).trans rfl
      have HB3 := Lib.hid (HB2.out.trans (hb3.mono HB2.out.size))
      clear hd hb3
      go_wp2_with fail
      refine (alive9_any _).mono ?_
      rintro e w4 ⟨rfl, hb⟩
      have HB4 := Lib.hid (HB3.out.trans (hb.mono HB3.out.size)); clear hb
      go_wp2
      go_ret
      exact ⟨rfl, HB4.out⟩
  · rw [hbig] at HBG
    clear hbig hA
    generalize l.length = n at *
    go_enter Try.func3, Try.ntmps3
    go_wp2_with fail
    refine HBG.out.mono ?_
    rintro e w' ⟨rfl, rfl⟩
    go_wp2_with fail
    refine (alive9_any _).mono ?_
    rintro e w2 ⟨rfl, hb⟩
    have HB2 := Lib.hid hb; clear hb
    go_wp2
    go_ret
    exact ⟨rfl, HB2.out⟩

set_option maxHeartbeats 1600000 in
theorem treeBack_any (A : Option Addr) (c : Nat) (l : List Tk) (w : World) (hA : Toks w A l) :
    Calls Try.prog 5 #[.slice A l.length c] w fun e w' => e = .returned (.bool true) ∧ Below w.heap.size w w' := by
  have HBG := Lib.hid (big_any A c l w hA)
  cases hbig : bigB l
  · have h300 := not_big9 hbig
    have HAL := Lib.hid (all_any A c l w (by omega) hA)
    have HR1 := Lib.hid (fun W (h : Toks W A l) => treeRead_any A c l W (by omega) h)
    have HA := Lib.hid hA; clear hA
    rw [hbig] at HBG
    clear hbig
    cases hall : allR l
    · rw [hall] at HAL
      clear hall HR1
      generalize l.length = n at *
      go_enter Try.func5, Try.ntmps5
      go_wp2_with fail
      refine HBG.out.mono ?_
      rintro e w' ⟨rfl, rfl⟩
      go_wp2_with fail
      refine HAL.out.mono ?_
      rintro e w1 ⟨rfl, hb1⟩
      have HB1 := Lib.hid hb1; clear hb1
      go_wp2_with fail
      refine (alive9_any _).mono ?_
      rintro e w2 ⟨rfl, hb⟩
      have HB2 := Lib.hid (HB1.out.trans (hb.mono HB1.out.size)); clear hb
      go_wp2
      go_ret
      exact ⟨rfl, HB2.out⟩
    · rw [hall] at HAL
      cases hR : parse l with
      | ok ts =>
        have HK1 := Lib.hid (fun W h => (HR1.out W h).mono fun e w' h => rt_ok hR h)
        have HND : Hid (∀ us, er us = ts → (nodes us).length ≤ 300) := fun us hu => Nat.le_trans (parse_nodes hR hu) h300
        have HFL : Hid (∀ us, er us = ts → flat us = l) := fun us hu => by rw [← flat_er, hu]; exact spells_flat (parse_spells hR).1 (allR_iff.1 hall)
        have HDP : Hid (∀ us, er us = ts → dep us ≤ 24) := fun us hu => by rw [← dep_er, hu]; exact (parse_spells hR).2
        have HSA : Hid (∀ X d W, Toks W X l → Toks W A l → Calls Try.prog 13 #[.slice X l.length d, .slice A l.length c] W fun e w' => e = .returned (.bool true) ∧ Dr W w') := fun X d W h1 h2 => by
          have h := refSame8_any X A d c l l W (by omega) h1 h2
          rw [decide_eq_true (rfl : l = l)] at h
          exact h
        clear HR1 hR hall
        generalize hn : l.length = n at *
        have HN := Lib.hid hn; clear hn
        go_enter Try.func5, Try.ntmps5
        go_wp2_with fail
        refine HBG.out.mono ?_
        rintro e w' ⟨rfl, rfl⟩
        go_wp2_with fail
        refine HAL.out.mono ?_
        rintro e w0 ⟨rfl, hb0⟩
        have HA0 := Lib.hid (HA.out.below hb0)
        have HB0 := Lib.hid hb0; clear hb0
        go_wp2_with fail
        refine (HK1.out _ HA0.out).mono ?_
        rintro e w1 ⟨hb1, X, d, us, rfl, hus, hcap, htr⟩
        have hba : Below w1.heap.size w1 (w1.alloc (.cells #[.int .i64 0, .int .i64 0] 27)) := (Below.refl _ _).alloc (Nat.le_refl _) _
        have HF1 := Lib.hid (RowAt.new w1 27 #[.int .i64 0, .int .i64 0])
        have HT1 := Lib.hid (Trs.mono (htr.below hba) hba.size)
        have HA1 := Lib.hid ((HA0.out.below hb1).alloc (.cells #[.int .i64 0, .int .i64 0] 27))
        have HB1 := Lib.hid ((HB0.out.trans (hb1.mono HB0.out.size)).alloc (by have := HB0.out.size; have := hb1.size; omega) (.cells #[.int .i64 0, .int .i64 0] 27))
        have hfe := HFL.out us hus
        have hflat := flat9_any X d us _ (Nat.le_trans (HND.out us hus) (by decide)) HT1.out hcap
        rw [hfe, HN.out] at hflat
        have HFC := Lib.hid hflat
        have HDC := Lib.hid (fun W (h : Trs W W.heap.size X us) => depth9_any X d us W (Nat.le_trans (HND.out us hus) (by decide)) h hcap)
        have hdp := HDP.out us hus
        have a0 := (HF1.out.cell 0).trans rfl
        have a1 := (HF1.out.cell 1).trans rfl
        clear hb1 hus hcap htr hba hflat hfe
        generalize us.length = nu at *
        generalize dep us = du at *
        go_wp2_with fail
        refine HFC.out.mono ?_
        rintro e w2 ⟨⟨Y, d2, rfl, hown⟩, hb2⟩
        have HY2 : Hid (Toks w2 Y l) := Sl.of_own hown
        have HA2 := Lib.hid (HA1.out.below hb2)
        have HT2 := Lib.hid ((HT1.out.below hb2).mono hb2.size)
        have HB2 := Lib.hid (HB1.out.trans (hb2.mono HB1.out.size))
        clear hb2 hown a0 a1
        go_wp2_with fail
        refine (HSA.out Y d2 _ HY2.out HA2.out).mono ?_
        rintro e w3 ⟨rfl, hd⟩
        have hb3 := hd.below
        have HT3 := Lib.hid ((HT2.out.below hb3).mono hb3.size)
        have HB3 := Lib.hid (HB2.out.trans (hb3.mono HB2.out.size))
        clear hd hb3
        go_wp2_with fail
        refine (HDC.out _ HT3.out).mono ?_
        rintro e w4 ⟨rfl, hb4⟩
        have HB4 := Lib.hid (HB3.out.trans (hb4.mono HB3.out.size)); clear hb4
        go_wp2_with fail
        refine (alive9_any _).mono ?_
        rintro e w5 ⟨rfl, hb⟩
        have HB5 := Lib.hid (HB4.out.trans (hb.mono HB4.out.size)); clear hb
        go_wp2
        go_ret
        exact ⟨rfl, HB5.out⟩
      | error p =>
        have HK1 := Lib.hid (fun W h => (HR1.out W h).mono fun e w' h => rt_err hR h)
        clear HR1 hR hall
        generalize l.length = n at *
        go_enter Try.func5, Try.ntmps5
        go_wp2_with fail
        refine HBG.out.mono ?_
        rintro e w' ⟨rfl, rfl⟩
        go_wp2_with fail
        refine HAL.out.mono ?_
        rintro e w0 ⟨rfl, hb0⟩
        have HA0 := Lib.hid (HA.out.below hb0)
        have HB0 := Lib.hid hb0; clear hb0
        go_wp2_with fail
        refine (HK1.out _ HA0.out).mono ?_
        rintro e w1 ⟨hb1, rfl⟩
        have HF1 := Lib.hid (RowAt.new w1 27 #[.int .i64 2, .int .i64 p])
        have HB1 := Lib.hid ((HB0.out.trans (hb1.mono HB0.out.size)).alloc (by have := HB0.out.size; have := hb1.size; omega) (.cells #[.int .i64 2, .int .i64 p] 27))
        have a0 := (HF1.out.cell 0).trans rfl
        have a1 := (HF1.out.cell 1).trans rfl
        clear hb1
        go_wp2_with fail
        refine (alive9_any _).mono ?_
        rintro e w2 ⟨rfl, hb⟩
        have HB2 := Lib.hid (HB1.out.trans (hb.mono HB1.out.size)); clear hb
        go_wp2
        go_ret
        exact ⟨rfl, HB2.out⟩
  · rw [hbig] at HBG
    clear hbig hA
    generalize l.length = n at *
    go_enter Try.func5, Try.ntmps5
    go_wp2_with fail
    refine HBG.out.mono ?_
    rintro e w' ⟨rfl, rfl⟩
    go_wp2_with fail
    refine (alive9_any _).mono ?_
    rintro e w2 ⟨rfl, hb⟩
    have HB2 := Lib.hid hb; clear hb
    go_wp2
    go_ret
    exact ⟨rfl, HB2.out⟩
end Go.Proofs.Ytnaaejemanmgnaa
