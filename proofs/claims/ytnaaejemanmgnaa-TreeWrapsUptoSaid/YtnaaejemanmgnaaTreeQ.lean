/-
  The law TreeWraps returns true. Conditions: at most 2^20 pieces each.
-/
import Derived.Test.YtnaaejemanmgnaaTreeO
namespace Go.Proofs.Ytnaaejemanmgnaa
open Go.RowKit LX TR

theorem own_ne_row {w : World} {base size n g : Nat} {e t : TypeId} {x : Value} {cs : List Value} {ds : Array Value} (h : w.ownsRow base e size x n cs) (hr : RowAt w g t ds) (he : e ≠ t) : x.ownBlock ≠ some g := by
  rcases h.2 with ⟨rfl, _⟩ | ⟨g', cap, cur, rfl, _, hh, _⟩
  · simp [Value.ownBlock]
  · intro hx
    have hx' : g' = g := by simpa [Value.ownBlock] using hx
    subst hx'
    have hb' : w.heap[g']? = some (.cells ds t (0, 0)) := hr
    rw [hh] at hb'
    simp only [Option.some.injEq, Obj.cells.injEq] at hb'
    exact he hb'.2.1
theorem sl_away {w : World} {B g : Nat} {t : TypeId} {A : Option Addr} {l : List Tr} {a b : Int} (h : Sl w B A (tcs l)) (hr : RowAt w g t #[.int .i64 a, .int .i64 b]) (cs : Array Value) : Sl (w.setRow g cs) B A (tcs l) := fun hne => by
  obtain ⟨bb, o, hA, hlt, hc⟩ := h hne
  have hbg : bb ≠ g := fun e => by
    subst e
    cases l with
    | nil => exact hne rfl
    | cons x l =>
      have h0 := hc 0 (.int .u8 (x.t.k : Int)) rfl
      rw [hr.cell] at h0
      match o, h0 with
      | 0, h0 => simp at h0
      | 1, h0 => simp at h0
      | n + 2, h0 => simp at h0
  exact ⟨bb, o, hA, hlt, fun j u hu => (World.cell?_of_block (a := ⟨bb, o + j, none⟩) (setRow_other w g bb cs hbg)).trans (hc j u hu)⟩
/-- What a Read of trees hands back, in one form. -/
def RtP (R : Except Int (List Tr)) (X : Option Addr) (n d : Nat) (c p : Int) (w : World) : Prop :=
  match R with
  | .ok ts => c = 0 ∧ p = 0 ∧ ∃ us : List Tr, n = us.length ∧ er us = ts ∧ us.length ≤ d ∧ Trs w w.heap.size X us
  | .error q => X = none ∧ n = 0 ∧ d = 0 ∧ c = 2 ∧ p = q
theorem RtP.below {R : Except Int (List Tr)} {X : Option Addr} {n d : Nat} {c p : Int} {w w' : World} (h : RtP R X n d c p w) (hb : Below w.heap.size w w') : RtP R X n d c p w' := by
  cases R with
  | error q => exact h
  | ok ts =>
    obtain ⟨h1, h2, us, h3, h4, h5, h6⟩ := h
    exact ⟨h1, h2, us, h3, h4, h5, (h6.below hb).mono hb.size⟩
theorem RtP.setRow {R : Except Int (List Tr)} {X : Option Addr} {n d g : Nat} {c p a b : Int} {t : TypeId} {w : World} (h : RtP R X n d c p w) (hr : RowAt w g t #[.int .i64 a, .int .i64 b]) (cs : Array Value) : RtP R X n d c p (w.setRow g cs) := by
  cases R with
  | error q => exact h
  | ok ts =>
    obtain ⟨h1, h2, us, h3, h4, h5, h6⟩ := h
    refine ⟨h1, h2, us, h3, h4, h5, ?_⟩
    rw [show (w.setRow g cs).heap.size = w.heap.size by simp]
    exact ⟨sl_away h6.1 hr cs, fun y hy => ⟨sl_away (h6.2 y hy).1 hr cs, (h6.2 y hy).2⟩⟩
theorem rt_gen {R : Except Int (List Tr)} {B : Nat} {e : Ending} {w w' : World} (h : Rt B R e w w') :
    Below B w w' ∧ ∃ X n d c p, e = .returned (.tuple #[.slice X n d, .agg #[.int .i64 c, .int .i64 p]]) ∧ RtP R X n d c p w' := by
  cases R with
  | error q => exact ⟨h.1, none, 0, 0, 2, q, h.2, rfl, rfl, rfl, rfl, rfl⟩
  | ok ts =>
    obtain ⟨hb, X, d, us, he, h1, h2, h3⟩ := h
    exact ⟨hb, X, us.length, d, 0, 0, he, rfl, rfl, us, rfl, h1, h2, h3⟩

set_option maxRecDepth 100000 in
set_option maxHeartbeats 8000000 in
theorem wraps_alive (A B : Option Addr) (c d : Nat) (l m : List Tk) (w : World) (hA : Toks w A l) (hB : Toks w B m) (hl : l.length ≤ 1048576) (hm : m.length ≤ 1048576)
    (h : ¬ (l.length ≤ 140 ∧ m.length ≤ 140 ∧ bigB l = false ∧ bigB m = false ∧ (∃ ts, parse l = .ok ts) ∧ ∃ ts, parse m = .ok ts)) :
    Calls Try.prog 6 #[.slice A l.length c, .slice B m.length d] w fun e w' => e = .returned (.bool true) ∧ Below w.heap.size w w' := by
  have HG1 := Lib.hid (fun W (h : Toks W A l) => big_any A c l W h)
  have HG2 := Lib.hid (fun W (h : Toks W B m) => big_any B d m W h)
  have HR1 := Lib.hid (fun W (h : Toks W A l) => treeRead_any A c l W (by omega) h)
  have HR2 := Lib.hid (fun W (h : Toks W B m) => treeRead_any B d m W (by omega) h)
  have HA := Lib.hid hA; have HM := Lib.hid hB
  clear hA hB
  by_cases h1 : l.length ≤ 140
  · by_cases h2 : m.length ≤ 140
    · cases h3 : bigB l
      · rw [h3] at HG1
        cases h4 : bigB m
        · rw [h4] at HG2
          cases h5 : parse l with
          | error p1 =>
            have HK1 := Lib.hid (fun W h => (HR1.out W h).mono fun e w' h => rt_err h5 h)
            have HK2 := Lib.hid (fun W h => (HR2.out W h).mono fun e w' h => rt_gen h)
            have hd1 : decide (140 < l.length) = false := decide_eq_false (by omega)
            have hd1i : decide ((140 : Int) < (l.length : Int)) = false := decide_eq_false (by omega)
            have hd1n : (l.length : Int) ≤ 140 := by omega
            have hd2 : decide (140 < m.length) = false := decide_eq_false (by omega)
            have hd2i : decide ((140 : Int) < (m.length : Int)) = false := decide_eq_false (by omega)
            have hd2n : (m.length : Int) ≤ 140 := by omega
            clear HR1 HR2 h1 h2 h3 h4 h5 h hl hm
            generalize l.length = n at *
            generalize m.length = q at *
            go_enter Try.func6, Try.ntmps6
            go_wp2_with fail
            refine (HK1.out _ HA.out).mono ?_
            rintro e w1 ⟨hb1, rfl⟩
            have HF1 := Lib.hid (RowAt.new w1 27 #[.int .i64 2, .int .i64 p1])
            have HB1 := Lib.hid (hb1.alloc hb1.size (.cells #[.int .i64 2, .int .i64 p1] 27))
            clear hb1
            go_wp2_with fail
            refine (HK2.out _ (HM.out.below HB1.out)).mono ?_
            rintro e w2 ⟨hb2, X2, n2, d2, c2, p2, rfl, _⟩
            have HF2 := Lib.hid ((HF1.out.below hb2 HF1.out.lt).alloc (.cells #[.int .i64 c2, .int .i64 p2] 27))
            have HGR2 := Lib.hid (RowAt.new w2 27 #[.int .i64 c2, .int .i64 p2])
            have HB2 := Lib.hid ((HB1.out.trans (hb2.mono HB1.out.size)).alloc (by have := HB1.out.size; have := hb2.size; omega) (.cells #[.int .i64 c2, .int .i64 p2] 27))
            clear hb2
            have a0 := (HF2.out.cell 0).trans rfl
            have a1 := (HF2.out.cell 1).trans rfl
            go_wp2_with fail
            refine (HG1.out _ (HA.out.below HB2.out)).mono ?_
            rintro e w' ⟨rfl, rfl⟩
            go_wp2_with fail
            refine (HG2.out _ (HM.out.below HB2.out)).mono ?_
            rintro e w' ⟨rfl, rfl⟩
            go_wp2_with fail
            refine (alive9_any _).mono ?_
            rintro e wz ⟨rfl, hb⟩
            have HBZ := Lib.hid (HB2.out.trans (hb.mono HB2.out.size)); clear hb
            go_wp2
            go_ret
            exact ⟨rfl, HBZ.out⟩
          | ok t1 =>
            cases h6 : parse m with
            | error p2 =>
              have HK1 := Lib.hid (fun W h => (HR1.out W h).mono fun e w' h => rt_ok h5 h)
              have HK2 := Lib.hid (fun W h => (HR2.out W h).mono fun e w' h => rt_err h6 h)
              have hd1 : decide (140 < l.length) = false := decide_eq_false (by omega)
              have hd1i : decide ((140 : Int) < (l.length : Int)) = false := decide_eq_false (by omega)
              have hd1n : (l.length : Int) ≤ 140 := by omega
              have hd2 : decide (140 < m.length) = false := decide_eq_false (by omega)
              have hd2i : decide ((140 : Int) < (m.length : Int)) = false := decide_eq_false (by omega)
              have hd2n : (m.length : Int) ≤ 140 := by omega
              clear HR1 HR2 h1 h2 h3 h4 h5 h6 h hl hm
              generalize l.length = n at *
              generalize m.length = q at *
              go_enter Try.func6, Try.ntmps6
              go_wp2_with fail
              refine (HK1.out _ HA.out).mono ?_
              rintro e w1 ⟨hb1, X1, d1, us1, rfl, hus1, hcap1, htr1⟩
              have HF1 := Lib.hid (RowAt.new w1 27 #[.int .i64 0, .int .i64 0])
              have HB1 := Lib.hid (hb1.alloc hb1.size (.cells #[.int .i64 0, .int .i64 0] 27))
              have hba : Below w1.heap.size w1 (w1.alloc (.cells #[.int .i64 0, .int .i64 0] 27)) := (Below.refl _ _).alloc (Nat.le_refl _) _
              have HT1 := Lib.hid (Trs.mono (htr1.below hba) hba.size)
              have HU1 := Lib.hid hus1
              have HC1 := Lib.hid hcap1
              clear hba hus1 hcap1 htr1
              clear hb1
              go_wp2_with fail
              refine (HK2.out _ (HM.out.below HB1.out)).mono ?_
              rintro e w2 ⟨hb2, rfl⟩
              have HF2 := Lib.hid ((HF1.out.below hb2 HF1.out.lt).alloc (.cells #[.int .i64 2, .int .i64 p2] 27))
              have HGR2 := Lib.hid (RowAt.new w2 27 #[.int .i64 2, .int .i64 p2])
              have HB2 := Lib.hid ((HB1.out.trans (hb2.mono HB1.out.size)).alloc (by have := HB1.out.size; have := hb2.size; omega) (.cells #[.int .i64 2, .int .i64 p2] 27))
              have hba : Below w2.heap.size w2 (w2.alloc (.cells #[.int .i64 2, .int .i64 p2] 27)) := (Below.refl _ _).alloc (Nat.le_refl _) _
              have HT12 := Lib.hid (Trs.mono (((HT1.out.below hb2).mono hb2.size).below hba) hba.size)
              clear hba
              clear hb2
              clear HT1 HU1 HC1 HT12
              have a0 := (HF2.out.cell 0).trans rfl
              have a1 := (HF2.out.cell 1).trans rfl
              have b0 := (HGR2.out.cell 0).trans rfl
              have b1 := (HGR2.out.cell 1).trans rfl
              go_wp2_with fail
              refine (HG1.out _ (HA.out.below HB2.out)).mono ?_
              rintro e w' ⟨rfl, rfl⟩
              go_wp2_with fail
              refine (HG2.out _ (HM.out.below HB2.out)).mono ?_
              rintro e w' ⟨rfl, rfl⟩
              go_wp2_with fail
              refine (alive9_any _).mono ?_
              rintro e wz ⟨rfl, hb⟩
              have HBZ := Lib.hid (HB2.out.trans (hb.mono HB2.out.size)); clear hb
              go_wp2
              go_ret
              exact ⟨rfl, HBZ.out⟩
            | ok t2 => exact absurd ⟨h1, h2, h3, h4, ⟨t1, h5⟩, t2, h6⟩ h
        · rw [h4] at HG2
          have HK1 := Lib.hid (fun W h => (HR1.out W h).mono fun e w' h => rt_gen h)
          have HK2 := Lib.hid (fun W h => (HR2.out W h).mono fun e w' h => rt_gen h)
          have hd1 : decide (140 < l.length) = false := decide_eq_false (by omega)
          have hd1i : decide ((140 : Int) < (l.length : Int)) = false := decide_eq_false (by omega)
          have hd1n : (l.length : Int) ≤ 140 := by omega
          have hd2 : decide (140 < m.length) = false := decide_eq_false (by omega)
          have hd2i : decide ((140 : Int) < (m.length : Int)) = false := decide_eq_false (by omega)
          have hd2n : (m.length : Int) ≤ 140 := by omega
          clear HR1 HR2 h1 h2 h3 h4 h hl hm
          generalize l.length = n at *
          generalize m.length = q at *
          go_enter Try.func6, Try.ntmps6
          go_wp2_with fail
          refine (HK1.out _ HA.out).mono ?_
          rintro e w1 ⟨hb1, X1, n1, d1, c1, p1, rfl, _⟩
          have HF1 := Lib.hid (RowAt.new w1 27 #[.int .i64 c1, .int .i64 p1])
          have HB1 := Lib.hid (hb1.alloc hb1.size (.cells #[.int .i64 c1, .int .i64 p1] 27))
          clear hb1
          go_wp2_with fail
          refine (HK2.out _ (HM.out.below HB1.out)).mono ?_
          rintro e w2 ⟨hb2, X2, n2, d2, c2, p2, rfl, _⟩
          have HF2 := Lib.hid ((HF1.out.below hb2 HF1.out.lt).alloc (.cells #[.int .i64 c2, .int .i64 p2] 27))
          have HGR2 := Lib.hid (RowAt.new w2 27 #[.int .i64 c2, .int .i64 p2])
          have HB2 := Lib.hid ((HB1.out.trans (hb2.mono HB1.out.size)).alloc (by have := HB1.out.size; have := hb2.size; omega) (.cells #[.int .i64 c2, .int .i64 p2] 27))
          clear hb2
          go_wp2_with fail
          refine (HG1.out _ (HA.out.below HB2.out)).mono ?_
          rintro e w' ⟨rfl, rfl⟩
          go_wp2_with fail
          refine (HG2.out _ (HM.out.below HB2.out)).mono ?_
          rintro e w' ⟨rfl, rfl⟩
          go_wp2_with fail
          refine (alive9_any _).mono ?_
          rintro e wz ⟨rfl, hb⟩
          have HBZ := Lib.hid (HB2.out.trans (hb.mono HB2.out.size)); clear hb
          go_wp2
          go_ret
          exact ⟨rfl, HBZ.out⟩
      · rw [h3] at HG1
        have HK1 := Lib.hid (fun W h => (HR1.out W h).mono fun e w' h => rt_gen h)
        have HK2 := Lib.hid (fun W h => (HR2.out W h).mono fun e w' h => rt_gen h)
        have hd1 : decide (140 < l.length) = false := decide_eq_false (by omega)
        have hd1i : decide ((140 : Int) < (l.length : Int)) = false := decide_eq_false (by omega)
        have hd1n : (l.length : Int) ≤ 140 := by omega
        have hd2 : decide (140 < m.length) = false := decide_eq_false (by omega)
        have hd2i : decide ((140 : Int) < (m.length : Int)) = false := decide_eq_false (by omega)
        have hd2n : (m.length : Int) ≤ 140 := by omega
        clear HR1 HR2 h1 h2 h3 h hl hm
        generalize l.length = n at *
        generalize m.length = q at *
        go_enter Try.func6, Try.ntmps6
        go_wp2_with fail
        refine (HK1.out _ HA.out).mono ?_
        rintro e w1 ⟨hb1, X1, n1, d1, c1, p1, rfl, _⟩
        have HF1 := Lib.hid (RowAt.new w1 27 #[.int .i64 c1, .int .i64 p1])
        have HB1 := Lib.hid (hb1.alloc hb1.size (.cells #[.int .i64 c1, .int .i64 p1] 27))
        clear hb1
        go_wp2_with fail
        refine (HK2.out _ (HM.out.below HB1.out)).mono ?_
        rintro e w2 ⟨hb2, X2, n2, d2, c2, p2, rfl, _⟩
        have HF2 := Lib.hid ((HF1.out.below hb2 HF1.out.lt).alloc (.cells #[.int .i64 c2, .int .i64 p2] 27))
        have HGR2 := Lib.hid (RowAt.new w2 27 #[.int .i64 c2, .int .i64 p2])
        have HB2 := Lib.hid ((HB1.out.trans (hb2.mono HB1.out.size)).alloc (by have := HB1.out.size; have := hb2.size; omega) (.cells #[.int .i64 c2, .int .i64 p2] 27))
        clear hb2
        go_wp2_with fail
        refine (HG1.out _ (HA.out.below HB2.out)).mono ?_
        rintro e w' ⟨rfl, rfl⟩
        go_wp2_with fail
        refine (alive9_any _).mono ?_
        rintro e wz ⟨rfl, hb⟩
        have HBZ := Lib.hid (HB2.out.trans (hb.mono HB2.out.size)); clear hb
        go_wp2
        go_ret
        exact ⟨rfl, HBZ.out⟩
    · have HK1 := Lib.hid (fun W h => (HR1.out W h).mono fun e w' h => rt_gen h)
      have HK2 := Lib.hid (fun W h => (HR2.out W h).mono fun e w' h => rt_gen h)
      have hd1 : decide (140 < l.length) = false := decide_eq_false (by omega)
      have hd1i : decide ((140 : Int) < (l.length : Int)) = false := decide_eq_false (by omega)
      have hd1n : (l.length : Int) ≤ 140 := by omega
      have hd2 : decide (140 < m.length) = true := decide_eq_true (by omega)
      have hd2i : decide ((140 : Int) < (m.length : Int)) = true := decide_eq_true (by omega)
      have hd2n : (140 : Int) < (m.length : Int) := by omega
      clear HR1 HR2 h1 h2 h hl hm
      generalize l.length = n at *
      generalize m.length = q at *
      go_enter Try.func6, Try.ntmps6
      go_wp2_with fail
      refine (HK1.out _ HA.out).mono ?_
      rintro e w1 ⟨hb1, X1, n1, d1, c1, p1, rfl, _⟩
      have HF1 := Lib.hid (RowAt.new w1 27 #[.int .i64 c1, .int .i64 p1])
      have HB1 := Lib.hid (hb1.alloc hb1.size (.cells #[.int .i64 c1, .int .i64 p1] 27))
      clear hb1
      go_wp2_with fail
      refine (HK2.out _ (HM.out.below HB1.out)).mono ?_
      rintro e w2 ⟨hb2, X2, n2, d2, c2, p2, rfl, _⟩
      have HF2 := Lib.hid ((HF1.out.below hb2 HF1.out.lt).alloc (.cells #[.int .i64 c2, .int .i64 p2] 27))
      have HGR2 := Lib.hid (RowAt.new w2 27 #[.int .i64 c2, .int .i64 p2])
      have HB2 := Lib.hid ((HB1.out.trans (hb2.mono HB1.out.size)).alloc (by have := HB1.out.size; have := hb2.size; omega) (.cells #[.int .i64 c2, .int .i64 p2] 27))
      clear hb2
      go_wp2_with fail
      refine (alive9_any _).mono ?_
      rintro e wz ⟨rfl, hb⟩
      have HBZ := Lib.hid (HB2.out.trans (hb.mono HB2.out.size)); clear hb
      go_wp2
      go_ret
      exact ⟨rfl, HBZ.out⟩
  · have HK1 := Lib.hid (fun W h => (HR1.out W h).mono fun e w' h => rt_gen h)
    have HK2 := Lib.hid (fun W h => (HR2.out W h).mono fun e w' h => rt_gen h)
    have hd1 : decide (140 < l.length) = true := decide_eq_true (by omega)
    have hd1i : decide ((140 : Int) < (l.length : Int)) = true := decide_eq_true (by omega)
    have hd1n : (140 : Int) < (l.length : Int) := by omega
    clear HR1 HR2 h1 h hl hm
    generalize l.length = n at *
    generalize m.length = q at *
    go_enter Try.func6, Try.ntmps6
    go_wp2_with fail
    refine (HK1.out _ HA.out).mono ?_
    rintro e w1 ⟨hb1, X1, n1, d1, c1, p1, rfl, _⟩
    have HF1 := Lib.hid (RowAt.new w1 27 #[.int .i64 c1, .int .i64 p1])
    have HB1 := Lib.hid (hb1.alloc hb1.size (.cells #[.int .i64 c1, .int .i64 p1] 27))
    clear hb1
    go_wp2_with fail
    refine (HK2.out _ (HM.out.below HB1.out)).mono ?_
    rintro e w2 ⟨hb2, X2, n2, d2, c2, p2, rfl, _⟩
    have HF2 := Lib.hid ((HF1.out.below hb2 HF1.out.lt).alloc (.cells #[.int .i64 c2, .int .i64 p2] 27))
    have HGR2 := Lib.hid (RowAt.new w2 27 #[.int .i64 c2, .int .i64 p2])
    have HB2 := Lib.hid ((HB1.out.trans (hb2.mono HB1.out.size)).alloc (by have := HB1.out.size; have := hb2.size; omega) (.cells #[.int .i64 c2, .int .i64 p2] 27))
    clear hb2
    go_wp2_with fail
    refine (alive9_any _).mono ?_
    rintro e wz ⟨rfl, hb⟩
    have HBZ := Lib.hid (HB2.out.trans (hb.mono HB2.out.size)); clear hb
    go_wp2
    go_ret
    exact ⟨rfl, HBZ.out⟩
end Go.Proofs.Ytnaaejemanmgnaa
