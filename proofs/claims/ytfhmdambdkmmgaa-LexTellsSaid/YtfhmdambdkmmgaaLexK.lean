/-
  The law LexTells returns true. Conditions: kinds below 256.
-/
import Derived.Test.YtfhmdambdkmmgaaLexJ
import Derived.Deep.CutRange
namespace Go.Proofs.Ytfhmdambdkmmgaa
open Go.RowKit LX

theorem Toks.cells {w : World} {b o : Nat} {l : List Tk} (h : Toks w (some ⟨b, o, none⟩) l) {i : Nat} (hi : i < l.length) :
    w.cell? ⟨b, o + i * 3, none⟩ = some (.int .u8 ((l.getD i t0).k : Int)) ∧ w.cell? ⟨b, o + i * 3 + 1, none⟩ = some (.string (l.getD i t0).s) ∧ w.cell? ⟨b, o + i * 3 + 2, none⟩ = some (.int .i64 (l.getD i t0).p) := by
  obtain ⟨b', o', e, _, hc⟩ := h.at hi
  injection e with e
  injection e with e1 e2
  subst e1 e2
  exact hc i hi
/-- What a region may be told of the worlds that come: something that old memory decides. -/
theorem ex_keep (B : Nat) (K : World → Prop) (hst : ∀ wa wb, K wa → Below wa.heap.size wa wb → K wb) (w0 w : World) (h1 : K w) (hb : Below B w0 w) :
    ∃ S : World → Prop, Hid (S w.drew) ∧ Hid (∀ w', S w' → K w') ∧ Hid (∀ w', S w' → Below B w0 w') ∧ Hid (B ≤ w.heap.size → ∀ wa wb, S wa → Below wa.heap.size wa wb → S wb) :=
  ⟨fun w' => K w' ∧ Below B w0 w' ∧ w.heap.size ≤ w'.heap.size, ⟨hst _ _ h1 (Below.refl _ _).drew, hb.drew, Nat.le_refl _⟩, fun _ h => h.1, fun _ h => h.2.1,
    fun hB _ _ h hb => ⟨hst _ _ h.1 hb, h.2.1.trans (hb.mono (Nat.le_trans hB h.2.2)), Nat.le_trans h.2.2 hb.size⟩⟩

set_option maxHeartbeats 1600000 in
theorem lexTells_any (A B : Option Addr) (c d : Nat) (a b : List Tk) (w : World) (hk : ∀ i, i < a.length → (a.getD i t0).k < 256) (hA : Toks w A a) (hB : Toks w B b) :
    Calls Try.prog 4 #[.slice A a.length c, .slice B b.length d] w fun e w' => e = .returned (.bool true) ∧ Below w.heap.size w w' := by
  have HGA := Lib.hid (fun W (h : Toks W A a) => big_any A c a W h)
  have HGB := Lib.hid (fun W (h : Toks W B b) => big_any B d b W h)
  have HA := Lib.hid hA; clear hA
  have HB := Lib.hid hB; clear hB
  cases hba : bigB a
  · cases hbb : bigB b
    · obtain ⟨h300, htx⟩ := not_big hba
      have HTX := Lib.hid (fun W (h : Toks W A a) => lexText_any A c a W (by omega) (by omega) h)
      have HTR := Lib.hid (fun W (h : Toks W A a) => refText_any A c a W (by omega) (by omega) h)
      have HSM := Lib.hid (fun W (h : Toks W A a) (h2 : Toks W B b) => lexSame_any A B c d a b W (by omega) h h2)
      have HLK := Lib.hid (fun W (h : Toks W A a) (h2 : Toks W B b) => refLike_any A B c d a b W (by omega) h h2)
      have HK := Lib.hid hk; clear hk
      rw [hba] at HGA
      rw [hbb] at HGB
      clear hba hbb htx
      generalize text a = x at *
      generalize like a b = q at *
      generalize hm : b.length = m at *
      clear hm
      generalize hn : a.length = n at *
      have HN := Lib.hid hn; clear hn
      go_enter Try.func4, Try.ntmps4
      go_wp2_with fail
      refine (HGA.out _ HA.out).mono ?_
      rintro e w' ⟨rfl, rfl⟩
      go_wp2_with fail
      refine (HGB.out _ HB.out).mono ?_
      rintro e w' ⟨rfl, rfl⟩
      go_wp2_with fail
      go_loopw [5] (fun iv wr => ∃ i : Nat, i ≤ n ∧ iv = .int .i64 i ∧ Hid (Below w.heap.size w wr)) (fun iv _ => n - (intOf iv).toNat)
      case atStart => exact ⟨0, by omega, rfl, Below.refl _ _⟩
      case round =>
        obtain ⟨i, hi, rfl, HW⟩ := hrel
        have HA1 := Lib.hid (HA.out.below HW.out)
        have HB1 := Lib.hid (HB.out.below HW.out)
        by_cases hlt : i < n
        · obtain ⟨bk, o, rfl, _, _⟩ := HA1.out.at (k := i) (by rw [HN.out]; exact hlt)
          obtain ⟨S, HS, HTO, HBEL, keep⟩ := ex_keep w.heap.size (fun W => Toks W (some ⟨bk, o, none⟩) a) (fun _ _ h hb => h.below hb) w _ HA1.out HW.out
          have keepS := keep.out HW.out.size
          clear keep
          have C0 : ∀ w', S w' → w'.cell? ⟨bk, o + i * 3, none⟩ = some (.int .u8 ((a.getD i t0).k : Int)) := fun w' h => ((HTO.out w' h).cells (by rw [HN.out]; exact hlt)).1
          have C1 : ∀ w', S w' → w'.cell? ⟨bk, o + i * 3 + 1, none⟩ = some (.string (a.getD i t0).s) := fun w' h => ((HTO.out w' h).cells (by rw [HN.out]; exact hlt)).2.1
          have C2 : ∀ w', S w' → w'.cell? ⟨bk, o + i * 3 + 2, none⟩ = some (.int .i64 (a.getD i t0).p) := fun w' h => ((HTO.out w' h).cells (by rw [HN.out]; exact hlt)).2.2
          have HRA := Lib.hid (fun W => lexRight_any (a.getD i t0) W (HK.out i hlt))
          have HRB := Lib.hid (fun W => refRight8_any (a.getD i t0) W)
          unfold tv at HRA HRB
          generalize rightT (a.getD i t0) = r at *
          generalize (a.getD i t0).k = k at *
          generalize (a.getD i t0).s = s at *
          generalize (a.getD i t0).p = p at *
          go_upto_region 6 with fail
          refine wp_region_ord S [(0, true), (1, true), (2, true), (3, true), (5, true), (6, true), (7, true), (8, true), (4, false), (9, false), (10, true)] (by kernel_rfl) (by kernel_rfl) rfl (by kernel_rfl) HS.out ?_
          iterate 8
            (refine wpOrd_step (o := ?_) ?_ ?_; rotate_left 1; (simp only [List.getElem?_toArray, List.getElem?_cons_succ, List.getElem?_cons_zero]; with_reducible rfl))
            (first
                | (refine wpOrd_skip (by rfl) ?_)
                | (refine wpOrd_take (v := ?_) (by rfl) ?_ ?_; rotate_left 1; (intro wx hSx; have hc_0 := C0 wx hSx; have hc_1 := C1 wx hSx; have hc_2 := C2 wx hSx; go_simp; try with_reducible rfl)))
            (try simp only [Act.put, List.setIfInBounds_toArray, List.set_cons_zero, List.set_cons_succ])
          (refine wpOrd_solo (o := ?_) ?_ ?_; rotate_left 1; (simp only [List.getElem?_toArray, List.getElem?_cons_succ, List.getElem?_cons_zero]; with_reducible rfl))
          intro K hK
          go_simp
          go_at_call 12
          refine (HRA.out _).mono ?_
          rintro e w1 ⟨rfl, hb⟩
          have hS := keepS _ _ HS.out hb
          clear HS
          have HS := Lib.hid hS; clear hS hb
          refine hK.out _ _ HS.out ?_
          clear hK K
          (try simp only [Act.put, List.setIfInBounds_toArray, List.set_cons_zero, List.set_cons_succ])
          (refine wpOrd_solo (o := ?_) ?_ ?_; rotate_left 1; (simp only [List.getElem?_toArray, List.getElem?_cons_succ, List.getElem?_cons_zero]; with_reducible rfl))
          intro K hK
          go_simp
          go_at_call 13
          refine (HRB.out _).mono ?_
          rintro e w2 ⟨rfl, hb⟩
          have hS := keepS _ _ HS.out hb
          clear HS
          have HS := Lib.hid hS; clear hS hb
          refine hK.out _ _ HS.out ?_
          clear hK K
          (try simp only [Act.put, List.setIfInBounds_toArray, List.set_cons_zero, List.set_cons_succ])
          iterate 1
            (refine wpOrd_step (o := ?_) ?_ ?_; rotate_left 1; (simp only [List.getElem?_toArray, List.getElem?_cons_succ, List.getElem?_cons_zero]; with_reducible rfl))
            (first
                | (refine wpOrd_skip (by rfl) ?_)
                | (refine wpOrd_take (v := ?_) (by rfl) ?_ ?_; rotate_left 1; (intro wx hSx; go_simp; try with_reducible rfl)))
            (try simp only [Act.put, List.setIfInBounds_toArray, List.set_cons_zero, List.set_cons_succ])
          refine wpOrd_done ?_
          go_wp2_with fail
          go_roundw
          case rel => exact ⟨i + 1, by omega, by go_num, HBEL.out _ HS.out⟩
          case measure => simp [intOf]; omega
        · obtain rfl : i = n := by omega
          go_wp2_with fail
          refine (HTX.out _ HA1.out).mono ?_
          rintro e w1 ⟨rfl, hb1⟩
          have HA2 := Lib.hid (HA1.out.below hb1)
          have HB2 := Lib.hid (HB1.out.below hb1)
          have HW2 := Lib.hid (HW.out.trans (hb1.mono HW.out.size)); clear hb1
          go_wp2_with fail
          refine (HTR.out _ HA2.out).mono ?_
          rintro e w' ⟨rfl, rfl⟩
          go_wp2_with fail
          refine (HSM.out _ HA2.out HB2.out).mono ?_
          rintro e w3 ⟨rfl, hb3⟩
          have HA3 := Lib.hid (HA2.out.below hb3)
          have HB3 := Lib.hid (HB2.out.below hb3)
          have HW3 := Lib.hid (HW2.out.trans (hb3.mono HW2.out.size)); clear hb3
          go_wp2_with fail
          refine (HLK.out _ HA3.out HB3.out).mono ?_
          rintro e w4 ⟨rfl, hd⟩
          have HW4 := Lib.hid (HW3.out.trans (hd.below.mono HW3.out.size)); clear hd
          go_wp2_with fail
          refine (alive_any _).mono ?_
          rintro e w5 ⟨rfl, hb⟩
          have HW5 := Lib.hid (HW4.out.trans (hb.mono HW4.out.size)); clear hb
          go_wp2
          go_ret
          exact ⟨rfl, HW5.out⟩
    · rw [hba] at HGA
      rw [hbb] at HGB
      clear hba hbb hk
      generalize a.length = n at *
      generalize b.length = m at *
      go_enter Try.func4, Try.ntmps4
      go_wp2_with fail
      refine (HGA.out _ HA.out).mono ?_
      rintro e w' ⟨rfl, rfl⟩
      go_wp2_with fail
      refine (HGB.out _ HB.out).mono ?_
      rintro e w' ⟨rfl, rfl⟩
      go_wp2_with fail
      refine (alive_any _).mono ?_
      rintro e w2 ⟨rfl, hb⟩
      have HB2 := Lib.hid hb; clear hb
      go_wp2
      go_ret
      exact ⟨rfl, HB2.out⟩
  · rw [hba] at HGA
    clear hba hk HGB
    generalize a.length = n at *
    generalize b.length = m at *
    go_enter Try.func4, Try.ntmps4
    go_wp2_with fail
    refine (HGA.out _ HA.out).mono ?_
    rintro e w' ⟨rfl, rfl⟩
    go_wp2_with fail
    refine (alive_any _).mono ?_
    rintro e w2 ⟨rfl, hb⟩
    have HB2 := Lib.hid hb; clear hb
    go_wp2
    go_ret
    exact ⟨rfl, HB2.out⟩
end Go.Proofs.Ytfhmdambdkmmgaa
