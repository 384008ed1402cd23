/-
  What package shape's functions bottom, top and height return. Conditions: the factor's names are in memory, 64 words below 2^64; the table of math/bits in memory; top and height: the factor is valid.
-/
import Derived.Test.YtpgkcddhpeoiiaaDoorShapeA
namespace Go.Proofs.YtpgkcddhpeoiiaaDoor
open Go.RowKit RM

set_option maxRecDepth 8000 in
set_option maxHeartbeats 1000000 in
theorem sbottom_any (f : Fac) (w : World) (hT : Tab w) (hf : FacOk w f) :
    Calls Tryd.prog 21 #[.agg (fv f)] w fun e w' => e = .returned (.int .u64 ((botW f : Nat) : Int)) ∧ Below w.heap.size w w' := by
  have HBO : Hid (∀ w, Tab w → Calls Tryd.prog 33 #[.agg (rv f.n f.l)] w fun e w' => e = .returned (.tuple #[.int .i64 (((bottomR f.n f.l).getD 0 : Nat) : Int), .bool (bottomR f.n f.l).isSome]) ∧ Below w.heap.size w w') := fun w h => hbottom_any f.n f.l hf.rows w h
  have HWD : Hid (∀ w, Calls Tryd.prog 34 #[.agg (rv f.n f.l), .int .i64 (((bottomR f.n f.l).getD 0 : Nat) : Int)] w fun e w' => e = .returned (.int .u64 ((wordN f.n f.l (((bottomR f.n f.l).getD 0 : Nat) : Int) : Nat) : Int)) ∧ Below w.heap.size w w') := fun w => hword_any f.n f.l hf.rows _ w
  have hF : botW f = if f.kind = 4 then wordN f.n f.l (((bottomR f.n f.l).getD 0 : Nat) : Int) else 0 := rfl
  have HT := Lib.hid hT; clear hT
  have hl := hf.rows
  have r0 := RowAt.new w 36 (fv f)
  have HB0 : Hid (Below w.heap.size w (w.alloc (.cells (fv f) 36))) := (Below.refl _ _).alloc (Nat.le_refl _) _
  have HC : Hid (∀ W, RowAt W w.heap.size 36 (fv f) → W.cell? ⟨w.heap.size, 0, none⟩ = some (.int .i64 f.kind) ∧ W.cell? ⟨w.heap.size, 1, none⟩ = some (.slice f.A f.names.length f.c) ∧ W.cell? ⟨w.heap.size, 2, none⟩ = some (.int .i64 f.n) ∧ W.rangeAt w.heap.size 2 (rvl f.n f.l)) := fun W h => fac_cells h
  rw [hF]
  clear hF hf
  generalize fv f = V at *
  generalize f.kind = kd at *
  generalize f.n = n at *
  generalize f.l = l at *
  generalize f.A = A at *
  generalize f.c = c at *
  generalize f.names = xs at *
  generalize wordN n l (((bottomR n l).getD 0 : Nat) : Int) = x at *
  generalize (bottomR n l).getD 0 = k at *
  generalize (bottomR n l).isSome = q at *
  obtain ⟨c0, c1, c2, c3⟩ := HC.out _ r0
  by_cases e4 : kd = 4
  · rw [if_pos e4]
    go_enter Tryd.func21, Tryd.ntmps21
    go_wp2_with (refine wpList_loadRelIn (by rfl) _ rfl w.heap.size 2 rfl n l hl c3 ?_)
    refine (HBO.out _ (HT.out.below HB0.out)).mono ?_
    rintro e w1 ⟨rfl, hb⟩
    have r1 := r0.below hb r0.lt
    have HB1 := Lib.hid (HB0.out.trans (hb.mono HB0.out.size))
    clear c0 c1 c2 c3
    obtain ⟨c0, c1, c2, c3⟩ := HC.out _ r1
    go_wp2_with (refine wpList_loadRelIn (by rfl) _ rfl w.heap.size 2 rfl n l hl c3 ?_)
    refine (HWD.out _).mono ?_
    rintro e w2 ⟨rfl, hb⟩
    have r2 := r1.below hb r1.lt
    have HB2 := Lib.hid (HB1.out.trans (hb.mono HB1.out.size))
    go_wp2_with fail
    go_ret
    exact ⟨rfl, HB2.out⟩
  · rw [if_neg e4]
    go_enter Tryd.func21, Tryd.ntmps21
    go_wp2_with fail
    go_ret
    exact ⟨rfl, HB0.out⟩

set_option maxRecDepth 8000 in
set_option maxHeartbeats 1000000 in
theorem stop_any (f : Fac) (hv : facB f = true) (w : World) (hf : FacOk w f) :
    Calls Tryd.prog 23 #[.agg (fv f)] w fun e w' => e = .returned (.int .u64 ((topW f : Nat) : Int)) ∧ Below w.heap.size w w' := by
  obtain ⟨hm1, hm2⟩ := facB_len hv
  have HRT : Hid (∀ w, Calls Tryd.prog 40 #[.int .i64 (f.names.length : Int)] w fun e w' => e = .returned (.int .u64 (MM.belowN ((f.names.length : Int) - 1) : Int)) ∧ w = w') := fun w => by
    have h := rungTop_any (f.names.length : Int) w
    have hw : wrap64 ((f.names.length : Int) - 1) = (f.names.length : Int) - 1 := by unfold wrap64; omega
    rw [hw, RG.wR_in (RG.ok_iff.2 ⟨by omega, by omega, by omega⟩)] at h
    exact h
  have HBL : Hid (∀ w, Calls Tryd.prog 37 #[.int .i64 (f.names.length : Int)] w fun e w' => e = .returned (.int .u64 (MM.belowN f.names.length : Int)) ∧ w = w') := below_any _
  have HGT : Hid (∀ w, Calls Tryd.prog 41 #[.agg (rv f.n f.l)] w fun e w' => e = .returned (.int .u64 ((gTop f.n f.l : Nat) : Int)) ∧ Below w.heap.size w w') := gtop_any f.n f.l hf.rows
  have HTO : Hid (∀ w, Calls Tryd.prog 42 #[.agg (rv f.n f.l)] w fun e w' => e = .returned (.tuple #[.int .i64 (((topR f.n f.l).getD 0 : Nat) : Int), .bool (topR f.n f.l).isSome]) ∧ Below w.heap.size w w') := fun w => htop_any f.n f.l hf.rows w
  have HWD : Hid (∀ w, Calls Tryd.prog 34 #[.agg (rv f.n f.l), .int .i64 (((topR f.n f.l).getD 0 : Nat) : Int)] w fun e w' => e = .returned (.int .u64 ((wordN f.n f.l (((topR f.n f.l).getD 0 : Nat) : Int) : Nat) : Int)) ∧ Below w.heap.size w w') := fun w => hword_any f.n f.l hf.rows _ w
  have hF : topW f = if f.kind = 1 then MM.belowN ((f.names.length : Int) - 1) else if f.kind = 2 then MM.belowN f.names.length else if f.kind = 3 then gTop f.n f.l else wordN f.n f.l (((topR f.n f.l).getD 0 : Nat) : Int) := rfl
  clear hv hm1 hm2
  have hl := hf.rows
  have r0 := RowAt.new w 36 (fv f)
  have HB0 : Hid (Below w.heap.size w (w.alloc (.cells (fv f) 36))) := (Below.refl _ _).alloc (Nat.le_refl _) _
  have HC : Hid (∀ W, RowAt W w.heap.size 36 (fv f) → W.cell? ⟨w.heap.size, 0, none⟩ = some (.int .i64 f.kind) ∧ W.cell? ⟨w.heap.size, 1, none⟩ = some (.slice f.A f.names.length f.c) ∧ W.cell? ⟨w.heap.size, 2, none⟩ = some (.int .i64 f.n) ∧ W.rangeAt w.heap.size 2 (rvl f.n f.l)) := fun W h => fac_cells h
  rw [hF]
  clear hF hf
  generalize fv f = V at *
  generalize f.kind = kd at *
  generalize f.n = n at *
  generalize f.l = l at *
  generalize f.A = A at *
  generalize f.c = c at *
  generalize f.names = xs at *
  generalize wordN n l (((topR n l).getD 0 : Nat) : Int) = x at *
  generalize (topR n l).getD 0 = k at *
  generalize (topR n l).isSome = q at *
  generalize MM.belowN ((xs.length : Int) - 1) = y1 at *
  generalize MM.belowN xs.length = y2 at *
  generalize gTop n l = y3 at *
  generalize xs.length = m at *
  obtain ⟨c0, c1, c2, c3⟩ := HC.out _ r0
  by_cases e1 : kd = 1
  · rw [if_pos e1]
    go_enter Tryd.func23, Tryd.ntmps23
    go_wp2_with fail
    refine (HRT.out _).mono ?_
    rintro e w1 ⟨rfl, rfl⟩
    go_wp2_with fail
    go_ret
    exact ⟨rfl, HB0.out⟩
  · by_cases e2 : kd = 2
    · rw [if_neg e1, if_pos e2]
      go_enter Tryd.func23, Tryd.ntmps23
      go_wp2_with fail
      refine (HBL.out _).mono ?_
      rintro e w1 ⟨rfl, rfl⟩
      go_wp2_with fail
      go_ret
      exact ⟨rfl, HB0.out⟩
    · by_cases e3 : kd = 3
      · rw [if_neg e1, if_neg e2, if_pos e3]
        go_enter Tryd.func23, Tryd.ntmps23
        go_wp2_with (refine wpList_loadRelIn (by rfl) _ rfl w.heap.size 2 rfl n l hl c3 ?_)
        refine (HGT.out _).mono ?_
        rintro e w1 ⟨rfl, hb⟩
        have r1 := r0.below hb r0.lt
        have HB1 := Lib.hid (HB0.out.trans (hb.mono HB0.out.size))
        go_wp2_with fail
        go_ret
        exact ⟨rfl, HB1.out⟩
      · rw [if_neg e1, if_neg e2, if_neg e3]
        go_enter Tryd.func23, Tryd.ntmps23
        go_wp2_with (refine wpList_loadRelIn (by rfl) _ rfl w.heap.size 2 rfl n l hl c3 ?_)
        refine (HTO.out _).mono ?_
        rintro e w1 ⟨rfl, hb⟩
        have r1 := r0.below hb r0.lt
        have HB1 := Lib.hid (HB0.out.trans (hb.mono HB0.out.size))
        clear c0 c1 c2 c3
        obtain ⟨c0, c1, c2, c3⟩ := HC.out _ r1
        go_wp2_with (refine wpList_loadRelIn (by rfl) _ rfl w.heap.size 2 rfl n l hl c3 ?_)
        refine (HWD.out _).mono ?_
        rintro e w2 ⟨rfl, hb⟩
        have r2 := r1.below hb r1.lt
        have HB2 := Lib.hid (HB1.out.trans (hb.mono HB1.out.size))
        go_wp2_with fail
        go_ret
        exact ⟨rfl, HB2.out⟩

set_option maxRecDepth 8000 in
set_option maxHeartbeats 1000000 in
theorem sheight_any (f : Fac) (hv : facB f = true) (w : World) (hT : Tab w) (hf : FacOk w f) :
    Calls Tryd.prog 25 #[.agg (fv f)] w fun e w' => e = .returned (.int .i64 ((htW f : Nat) : Int)) ∧ Below w.heap.size w w' := by
  obtain ⟨hm1, hm2⟩ := facB_len hv
  have HGH : Hid (∀ w, Calls Tryd.prog 44 #[.agg (rv f.n f.l)] w fun e w' => e = .returned (.int .i64 ((gHeight f.n f.l : Nat) : Int)) ∧ Below w.heap.size w w') := gheight_any f.n f.l hf.rows
  have HLO : Hid (¬ f.kind = 1 → ¬ f.kind = 2 → ¬ f.kind = 3 → ∀ w, Tab w → Calls Tryd.prog 45 #[.agg (rv f.n f.l)] w fun e w' => e = .returned (.tuple #[.int .i64 ((top f.n f.l : Nat) : Int), .bool true]) ∧ Below w.heap.size w w') := fun h1 h2 h3 w h => by
    rcases facB_kind hv with e | e | ⟨e, _⟩ | ⟨e, h5⟩
    · exact absurd e h1
    · exact absurd e h2
    · exact absurd e h3
    · exact rlong_top (lat_ord h5) hf.rows 64 sort_64 (pts_le _) w h
  have hF : htW f = if f.kind = 1 then f.names.length - 1 else if f.kind = 2 then f.names.length else if f.kind = 3 then gHeight f.n f.l else top f.n f.l := rfl
  have HT := Lib.hid hT; clear hT hv
  have hl := hf.rows
  have r0 := RowAt.new w 36 (fv f)
  have HB0 : Hid (Below w.heap.size w (w.alloc (.cells (fv f) 36))) := (Below.refl _ _).alloc (Nat.le_refl _) _
  have HC : Hid (∀ W, RowAt W w.heap.size 36 (fv f) → W.cell? ⟨w.heap.size, 0, none⟩ = some (.int .i64 f.kind) ∧ W.cell? ⟨w.heap.size, 1, none⟩ = some (.slice f.A f.names.length f.c) ∧ W.cell? ⟨w.heap.size, 2, none⟩ = some (.int .i64 f.n) ∧ W.rangeAt w.heap.size 2 (rvl f.n f.l)) := fun W h => fac_cells h
  rw [hF]
  clear hF hf
  generalize fv f = V at *
  generalize f.kind = kd at *
  generalize f.n = n at *
  generalize f.l = l at *
  generalize f.A = A at *
  generalize f.c = c at *
  generalize f.names = xs at *
  generalize gHeight n l = y3 at *
  generalize top n l = y4 at *
  generalize xs.length = m at *
  obtain ⟨c0, c1, c2, c3⟩ := HC.out _ r0
  by_cases e1 : kd = 1
  · rw [if_pos e1]
    go_enter Tryd.func25, Tryd.ntmps25
    go_wp2_with fail
    go_ret
    exact ⟨ret_eq (int_eq (by first | rfl | omega | (unfold IntKind.wrap; omega))), HB0.out⟩
  · by_cases e2 : kd = 2
    · rw [if_neg e1, if_pos e2]
      go_enter Tryd.func25, Tryd.ntmps25
      go_wp2_with fail
      go_ret
      exact ⟨rfl, HB0.out⟩
    · by_cases e3 : kd = 3
      · rw [if_neg e1, if_neg e2, if_pos e3]
        go_enter Tryd.func25, Tryd.ntmps25
        go_wp2_with (refine wpList_loadRelIn (by rfl) _ rfl w.heap.size 2 rfl n l hl c3 ?_)
        refine (HGH.out _).mono ?_
        rintro e w1 ⟨rfl, hb⟩
        have r1 := r0.below hb r0.lt
        have HB1 := Lib.hid (HB0.out.trans (hb.mono HB0.out.size))
        go_wp2_with fail
        go_ret
        exact ⟨rfl, HB1.out⟩
      · rw [if_neg e1, if_neg e2, if_neg e3]
        have HLO2 := Lib.hid (HLO.out e1 e2 e3)
        go_enter Tryd.func25, Tryd.ntmps25
        go_wp2_with (refine wpList_loadRelIn (by rfl) _ rfl w.heap.size 2 rfl n l hl c3 ?_)
        refine (HLO2.out _ (HT.out.below HB0.out)).mono ?_
        rintro e w1 ⟨rfl, hb⟩
        have r1 := r0.below hb r0.lt
        have HB1 := Lib.hid (HB0.out.trans (hb.mono HB0.out.size))
        go_wp2_with fail
        go_ret
        exact ⟨rfl, HB1.out⟩

/-! Right. -/
theorem rightS_low {t : Bool} {fs : List Fac} (h : fs.length < 1) : rightS t fs = false := by unfold rightS; rw [show decide (1 ≤ fs.length) = false from decide_eq_false (by omega)]; rfl
theorem rightS_high {t : Bool} {fs : List Fac} (h : 8 < fs.length) : rightS t fs = false := by unfold rightS; rw [show decide (fs.length ≤ 8) = false from decide_eq_false (by omega)]; simp
theorem rightS_one {fs : List Fac} (h : ¬ fs.length = 1) : rightS false fs = false := by unfold rightS; rw [decide_eq_false h]; simp
theorem rightS_bad {t : Bool} {fs : List Fac} {k : Nat} (hk : k < fs.length) (h : facB (fs.getD k f0) = false) : rightS t fs = false := by
  unfold rightS
  rw [show fs.all facB = false by
    rw [List.all_eq_false]
    exact ⟨_, getD_mem hk, by rw [h]; simp⟩]
  simp
theorem rightS_end {t : Bool} {fs : List Fac} (h1 : 1 ≤ fs.length) (h2 : fs.length ≤ 8) (h3 : t = true ∨ fs.length = 1) (h : ∀ k, k < fs.length → facB (fs.getD k f0) = true) : rightS t fs = true := by
  unfold rightS
  rw [show fs.all facB = true by
    rw [List.all_eq_true]
    intro x hx
    obtain ⟨k, hk, rfl⟩ := List.mem_iff_getElem.1 hx
    have := h k hk
    rw [List.getD_eq_getElem?_getD, List.getElem?_eq_getElem hk] at this
    simpa using this, decide_eq_true h1, decide_eq_true h2]
  rcases h3 with rfl | h3
  · rfl
  · rw [decide_eq_true h3]; simp
theorem shape_cells {w : World} {g : Nat} {t : Bool} {A : Option Addr} {n c : Nat} (h : RowAt w g 24 (sv t A n c)) :
    w.cell? ⟨g, 0, none⟩ = some (.bool t) ∧ w.cell? ⟨g, 1, none⟩ = some (.slice A n c) := ⟨h.cell 0, h.cell 1⟩
/-- A factor of its own out of a slice: a block is made and written. -/
theorem below_made {B : Nat} {w wr w2 : World} {cs : Array Value} {t : TypeId} (hb : Below B w wr) (hB : B ≤ wr.heap.size) (he : Else wr.heap.size (wr.alloc (.cells cs t)) w2) : Below B w w2 :=
  (hb.alloc hB _).trans (he.below hB)

set_option maxRecDepth 8000 in
set_option maxHeartbeats 1000000 in
theorem sright_any (t : Bool) (A : Option Addr) (c : Nat) (fs : List Fac) (w : World) (hT : Tab w) (hF : Facs w A fs) :
    Calls Tryd.prog 10 #[.agg (sv t A fs.length c)] w fun e w' => e = .returned (.bool (rightS t fs)) ∧ Below w.heap.size w w' := by
  have HT := Lib.hid hT; clear hT
  have r0 := RowAt.new w 24 (sv t A fs.length c)
  have HB0 : Hid (Below w.heap.size w (w.alloc (.cells (sv t A fs.length c) 24))) := (Below.refl _ _).alloc (Nat.le_refl _) _
  obtain ⟨c0, c1⟩ := shape_cells r0
  clear r0
  generalize sv t A fs.length c = V at *
  by_cases h1 : fs.length < 1
  · rw [rightS_low h1]
    clear hF
    generalize fs.length = n at *
    go_enter Tryd.func10, Tryd.ntmps10
    go_wp2_with fail
    go_ret
    exact ⟨rfl, HB0.out⟩
  · have h3 : 1 ≤ fs.length := by omega
    by_cases h2 : 8 < fs.length
    · rw [rightS_high h2]
      clear hF h1
      generalize fs.length = n at *
      go_enter Tryd.func10, Tryd.ntmps10
      go_wp2_with fail
      go_ret
      exact ⟨rfl, HB0.out⟩
    · have h4 : fs.length ≤ 8 := by omega
      clear h1 h2
      by_cases h5 : t = false ∧ 1 < fs.length
      · obtain ⟨rfl, h6⟩ := h5
        rw [rightS_one (by omega)]
        clear hF
        generalize fs.length = n at *
        go_enter Tryd.func10, Tryd.ntmps10
        go_wp2_with fail
        go_ret
        exact ⟨rfl, HB0.out⟩
      · have h7 : t = true ∨ fs.length = 1 := by
          cases t with
          | true => exact .inl rfl
          | false => exact .inr (by have : ¬ 1 < fs.length := fun h => h5 ⟨rfl, h⟩; omega)
        clear h5
        have HBAD : Hid (∀ k, k < fs.length → facB (fs.getD k f0) = false → rightS t fs = false) := fun k => rightS_bad
        have HEND : Hid ((∀ k, k < fs.length → facB (fs.getD k f0) = true) → rightS t fs = true) := rightS_end h3 h4 h7
        have HF : Hid (∀ W, Below w.heap.size w W → Facs W A fs) := fun W h => hF.below h
        clear hF
        have HG : Hid (fs.length = fs.length) := rfl
        generalize hn : fs.length = n at *
        have HN := Lib.hid hn; clear hn
        generalize rightS t fs = res at *
        have hd1 : decide ((n : Int) < 1) = false := decide_eq_false (by omega)
        have hd2 : decide (8 < (n : Int)) = false := decide_eq_false (by omega)
        have h8 : (t = false ∧ decide (1 < (n : Int)) = false) ∨ (t = true ∧ decide (1 < (n : Int)) = false) ∨ (t = true ∧ decide (1 < (n : Int)) = true) := by
          rcases h7 with rfl | h7
          · by_cases h9 : 1 < n
            · exact .inr (.inr ⟨rfl, decide_eq_true (by omega)⟩)
            · exact .inr (.inl ⟨rfl, decide_eq_false (by omega)⟩)
          · cases t with
            | true => exact .inr (.inl ⟨rfl, decide_eq_false (by omega)⟩)
            | false => exact .inl ⟨rfl, decide_eq_false (by omega)⟩
        have H4 := Lib.hid h4
        clear h7 h3 h4 HG
        go_enter Tryd.func10, Tryd.ntmps10
        rcases h8 with ⟨rfl, hd3⟩ | ⟨rfl, hd3⟩ | ⟨rfl, hd3⟩
        all_goals
          go_wp2_with fail
          clear c0 c1 hd1 hd2 hd3
          go_loopw [5, 27] (fun _ kv wr => ∃ k : Nat, k ≤ n ∧ kv = .int .i64 k ∧ Hid (∀ j, j < k → facB (fs.getD j f0) = true) ∧ Hid (Below w.heap.size w wr)) (fun _ kv _ => n - (intOf kv).toNat)
          case atStart => exact ⟨0, by omega, rfl, fun j hj => by omega, HB0⟩
          case round =>
            obtain ⟨k, hk, rfl, HK, HB1⟩ := hrel
            clear HB0
            have h4 := H4.out
            by_cases hlt : k < n
            · have hFk := HF.out _ HB1.out
              obtain ⟨b, o, rfl, _, hr⟩ := hFk.at (k := k) (by rw [HN.out]; exact hlt)
              have hrg := hr k (by rw [HN.out]; exact hlt)
              have hl := (hFk.okAt (i := k) (by rw [HN.out]; exact hlt)).rows
              have HOK : Hid (∀ W, Below w.heap.size w W → FacOk W (fs.getD k f0)) := fun W h => (HF.out W h).okAt (by rw [HN.out]; exact hlt)
              clear hr hFk
              have HKN : Hid (facB (fs.getD k f0) = true → ∀ j, j < k + 1 → facB (fs.getD j f0) = true) := fun h j hj => by
                by_cases e : j = k
                · subst e; exact h
                · exact HK.out j (by omega)
              have HR := Lib.hid (HBAD.out k hlt)
              generalize fs.getD k f0 = f at *
              go_wp2_with (first
                | (refine wpList_loadFacIn (by rfl) _ rfl b (o + k * 67) rfl f hl hrg ?_)
                | (refine wpList_storeFac (by rfl) _ _ rfl wr.heap.size rfl f hl rfl _ zero_fac_size (RowAt.new _ _ _) ?_; intro w2 r2 he; have HB2 := Lib.hid (below_made HB1.out HB1.out.size he); clear he)
                | (refine wpList_loadFac (by rfl) _ rfl wr.heap.size rfl f hl r2 ?_))
              refine (valid_any f _ (HT.out.below HB2.out) (HOK.out _ HB2.out)).mono ?_
              rintro e w3 ⟨rfl, hb⟩
              have HB3 := Lib.hid (HB2.out.trans (hb.mono HB2.out.size))
              clear hb r2
              cases hv : facB f with
              | false =>
                have HR2 := Lib.hid (HR.out hv)
                clear hv HR HKN
                go_wp2_with fail
                go_ret
                exact ⟨ret_eq (bool_eq HR2.out.symm), HB3.out⟩
              | true =>
                have HKN2 := Lib.hid (HKN.out hv)
                clear hv HR HKN
                go_wp2_with fail
                go_roundw
                case rel => exact ⟨k + 1, by omega, by go_num, HKN2, HB3⟩
                case measure => simp [intOf]; omega
            · have e : k = n := by omega
              subst e
              have HE2 := Lib.hid (HEND.out HK.out)
              go_wp2_with fail
              go_ret
              exact ⟨ret_eq (bool_eq HE2.out.symm), HB1.out⟩
end Go.Proofs.YtpgkcddhpeoiiaaDoor
