/-
  The law TreeTells returns true. Conditions: at most 2^20 trees each.
-/
import Derived.Test.YtnaaejemanmgnaaTreeN
namespace Go.Proofs.Ytnaaejemanmgnaa
open Go.RowKit LX TR

set_option maxRecDepth 100000 in
set_option maxHeartbeats 3200000 in
theorem treeTells_any (A B : Option Addr) (c d : Nat) (a b : List Tr) (w : World) (hA : Trs w w.heap.size A a) (hB : Trs w w.heap.size B b) (hca : a.length ≤ c) (hna : (nodes a).length ≤ 1048576) (hnb : (nodes b).length ≤ 1048576) :
    Calls Try.prog 4 #[.slice A a.length c, .slice B b.length d] w fun e w' => e = .returned (.bool true) ∧ Below w.heap.size w w' := by
  have HG1 := Lib.hid (big9_any a A c w (by omega) hA)
  have HG2 := Lib.hid (big9_any b B d w (by omega) hB)
  by_cases h1 : 300 < (nodes a).length
  · rw [decide_eq_true h1] at HG1
    clear HG2 hA hB h1
    generalize a.length = n at *
    generalize b.length = m at *
    go_enter Try.func4, Try.ntmps4
    go_wp2_with fail
    refine HG1.out.mono ?_
    rintro e w' ⟨rfl, rfl⟩
    go_wp2_with fail
    refine (alive9_any _).mono ?_
    rintro e w2 ⟨rfl, hb⟩
    have HB2 := Lib.hid hb; clear hb
    go_wp2
    go_ret
    exact ⟨rfl, HB2.out⟩
  · rw [decide_eq_false h1] at HG1
    by_cases h2 : 300 < (nodes b).length
    · rw [decide_eq_true h2] at HG2
      clear hA hB h1 h2
      generalize a.length = n at *
      generalize b.length = m at *
      go_enter Try.func4, Try.ntmps4
      go_wp2_with fail
      refine HG1.out.mono ?_
      rintro e w' ⟨rfl, rfl⟩
      go_wp2_with fail
      refine HG2.out.mono ?_
      rintro e w' ⟨rfl, rfl⟩
      go_wp2_with fail
      refine (alive9_any _).mono ?_
      rintro e w2 ⟨rfl, hb⟩
      have HB2 := Lib.hid hb; clear hb
      go_wp2
      go_ret
      exact ⟨rfl, HB2.out⟩
    · rw [decide_eq_false h2] at HG2
      have hfl := flat_length a
      have HTA := Lib.hid (fun W (hb : Below w.heap.size w W) => (hA.below hb).mono hb.size)
      have HTB := Lib.hid (fun W (hb : Below w.heap.size w W) => (hB.below hb).mono hb.size)
      have HF := Lib.hid (flat9_any A c a w (by omega) hA hca)
      have HFR := Lib.hid (fun W (h : Trs W W.heap.size A a) => refFlat_any 300 a A c W (by omega) (by decide) h)
      have HSM : Hid (∀ X Y p q W, Toks W X (flat a) → Toks W Y (flat a) → Calls Try.prog 13 #[.slice X (flat a).length p, .slice Y (flat a).length q] W fun e w' => e = .returned (.bool true) ∧ Dr W w') := fun X Y p q W hx hy => by
        have h := refSame8_any X Y p q (flat a) (flat a) W (by omega) hx hy
        rw [decide_eq_true (rfl : flat a = flat a)] at h
        exact h
      have HDC := Lib.hid (fun W (h : Trs W W.heap.size A a) => depth9_any A c a W (by omega) h hca)
      have HDR := Lib.hid (fun W (h : Trs W W.heap.size A a) => refDepth_any 300 a A c W (by omega) (by decide) h)
      have HS1 := Lib.hid (fun W (h : Trs W W.heap.size A a) (h2 : Trs W W.heap.size B b) => treeSame_any A B c d a b W (by omega) h h2)
      have HS2 := Lib.hid (fun W (h : Trs W W.heap.size A a) (h2 : Trs W W.heap.size B b) => refSame9_any 300 a b A B c d W (by omega) (by decide) h h2)
      have HS3 : Hid (∀ W, Trs W W.heap.size A a → Calls Try.prog 18 #[.slice A a.length c, .slice A a.length c] W fun e w' => e = .returned (.bool true) ∧ Below W.heap.size W w') := fun W h => by
        have h3 := treeSame_any A A c c a a W (by omega) h h
        rw [TR.same_refl] at h3
        exact h3
      clear hA hB h1 h2 hfl hca hna hnb
      generalize TR.same a b = sm at *
      generalize dep a = dp at *
      generalize flat a = F at *
      generalize a.length = n at *
      generalize b.length = m at *
      cases sm
      all_goals
        go_enter Try.func4, Try.ntmps4
        go_wp2_with fail
        refine HG1.out.mono ?_
        rintro e w' ⟨rfl, rfl⟩
        go_wp2_with fail
        refine HG2.out.mono ?_
        rintro e w' ⟨rfl, rfl⟩
        go_wp2_with fail
        refine HF.out.mono ?_
        rintro e w1 ⟨⟨X, p, rfl, hown⟩, hb1⟩
        have HX1 : Hid (Toks w1 X F) := Sl.of_own hown
        have HB1 := Lib.hid hb1
        clear hown hb1
        go_wp2_with fail
        refine (HFR.out _ (HTA.out _ HB1.out)).mono ?_
        rintro e w2 ⟨⟨Y, q, rfl, hown⟩, hb2⟩
        have HY2 : Hid (Toks w2 Y F) := Sl.of_own hown
        have HX2 := Lib.hid (HX1.out.below hb2)
        have HB2 := Lib.hid (HB1.out.trans (hb2.mono HB1.out.size))
        clear hown hb2
        go_wp2_with fail
        refine (HSM.out X Y p q _ HX2.out HY2.out).mono ?_
        rintro e w3 ⟨rfl, hd⟩
        have HB3 := Lib.hid (HB2.out.trans (hd.below.mono HB2.out.size))
        clear hd
        go_wp2_with fail
        refine (HDC.out _ (HTA.out _ HB3.out)).mono ?_
        rintro e w4 ⟨rfl, hb4⟩
        have HB4 := Lib.hid (HB3.out.trans (hb4.mono HB3.out.size))
        clear hb4
        go_wp2_with fail
        refine (HDR.out _ (HTA.out _ HB4.out)).mono ?_
        rintro e w' ⟨rfl, rfl⟩
        go_wp2_with fail
        refine (HS1.out _ (HTA.out _ HB4.out) (HTB.out _ HB4.out)).mono ?_
        rintro e w5 ⟨rfl, hb5⟩
        have HB5 := Lib.hid (HB4.out.trans (hb5.mono HB4.out.size))
        clear hb5
        go_wp2_with fail
        refine (HS2.out _ (HTA.out _ HB5.out) (HTB.out _ HB5.out)).mono ?_
        rintro e w6 ⟨rfl, hd⟩
        have HB6 := Lib.hid (HB5.out.trans (hd.below.mono HB5.out.size))
        clear hd
        go_wp2_with fail
        refine (HS3.out _ (HTA.out _ HB6.out)).mono ?_
        rintro e w7 ⟨rfl, hb7⟩
        have HB7 := Lib.hid (HB6.out.trans (hb7.mono HB6.out.size))
        clear hb7
        go_wp2_with fail
        refine (alive9_any _).mono ?_
        rintro e w8 ⟨rfl, hb⟩
        have HB8 := Lib.hid (HB7.out.trans (hb.mono HB7.out.size)); clear hb
        go_wp2
        go_ret
        exact ⟨rfl, HB8.out⟩
end Go.Proofs.Ytnaaejemanmgnaa
