/-
  The document's answers on one factor: factor and word. Conditions: the factor's names in memory, 64 words below 2^64.
-/
import Derived.Test.YtpgkcddhpeoiiaaGreatDoorShapeK
namespace Go.Proofs.YtpgkcddhpeoiiaaGreatDoor
open Go.RowKit RM

theorem named_twice {xs : List ByteArray} (h : ¬ twc xs < 0) : namedB xs = false := by unfold namedB; rw [decide_eq_false h, Bool.and_false]
theorem relB_3n {n : Int} {l : List Nat} {m : Nat} : relB 3 n l m = (decide (n = (m : Int)) && rightB n l) := by
  unfold relB
  rw [if_neg (by omega), if_pos rfl]
theorem relB_4n {n : Int} {l : List Nat} {m : Nat} : relB 4 n l m = (decide (n = (m : Int)) && latB n l) := by
  unfold relB
  rw [if_neg (by omega), if_neg (by omega), if_pos rfl]

set_option maxRecDepth 8000 in
set_option maxHeartbeats 2000000 in
theorem qfactor_any (f : Fac) (w : World) (hf : FacOk w f) :
    Calls Tryz.prog 28 #[.agg (fv f)] w fun e w' => e = .returned (.bool (facB f)) ∧ Below w.heap.size w w' := by
  have HTW : Hid (f.names.length ≤ 64 → ∀ W, Below w.heap.size w W → Calls Tryz.prog 54 #[.slice f.A f.names.length f.c] W fun e w' => e = .returned (.int .i64 (twc f.names)) ∧ W = w') := fun h W hb => refTwice_any _ _ _ W (by omega) (hf.strs.below hb)
  have HST : Hid (∀ W, Below w.heap.size w W → Strs W f.A f.names) := fun W h => hf.strs.below h
  have HPT : Hid (∀ w, Calls Tryz.prog 56 #[.agg (rv f.n f.l)] w fun e w' => e = .returned (.int .i64 ((pts f.n : Nat) : Int)) ∧ Below w.heap.size w w') := fun w => qpoints_any f.n f.l w
  have HGR : Hid (∀ w, Calls Tryz.prog 57 #[.agg (rv f.n f.l)] w fun e w' => e = .returned (.bool (rightB f.n f.l)) ∧ Below w.heap.size w w') := qright_any f.n f.l hf.rows
  have HLT : Hid (∀ w, Calls Tryz.prog 58 #[.agg (rv f.n f.l)] w fun e w' => e = .returned (.bool (latB f.n f.l)) ∧ Below w.heap.size w w') := qlattice_any f.n f.l hf.rows
  have hF : facB f = (namedB f.names && relB f.kind f.n f.l f.names.length) := rfl
  have hl := hf.rows
  have r0 := RowAt.new w 46 (fv f)
  have HB0 : Hid (Below w.heap.size w (w.alloc (.cells (fv f) 46))) := (Below.refl _ _).alloc (Nat.le_refl _) _
  have HC : Hid (∀ W, RowAt W w.heap.size 46 (fv f) → W.cell? ⟨w.heap.size, 0, none⟩ = some (.int .i64 f.kind) ∧ W.cell? ⟨w.heap.size, 1, none⟩ = some (.slice f.A f.names.length f.c) ∧ W.cell? ⟨w.heap.size, 2, none⟩ = some (.int .i64 f.n) ∧ W.rangeAt w.heap.size 2 (rvl f.n f.l)) := fun W h => fac_cells h
  rw [hF]
  clear hF hf
  generalize fv f = V at *
  generalize f.kind = kd at *
  generalize f.n = n at *
  generalize f.l = l at *
  generalize f.A = A at *
  generalize f.c = c at *
  by_cases h1 : f.names.length < 1
  · rw [named_low h1, Bool.false_and]
    obtain ⟨c0, c1, c2, c3⟩ := HC.out _ r0
    generalize f.names.length = m at *
    go_enter Tryz.func28, Tryz.ntmps28
    go_wp2_with fail
    go_ret
    exact ⟨rfl, HB0.out⟩
  · by_cases h2 : 64 < f.names.length
    · rw [named_high h2, Bool.false_and]
      obtain ⟨c0, c1, c2, c3⟩ := HC.out _ r0
      have h3 : 1 ≤ f.names.length := by omega
      clear h1
      generalize f.names.length = m at *
      go_enter Tryz.func28, Tryz.ntmps28
      go_wp2_with fail
      go_ret
      exact ⟨rfl, HB0.out⟩
    · have h3 : 1 ≤ f.names.length := by omega
      have h4 : f.names.length ≤ 64 := by omega
      have HTW2 := Lib.hid (HTW.out h4)
      have hd1 : decide ((f.names.length : Int) < 1) = false := decide_eq_false (by omega)
      have hd2 : decide (64 < (f.names.length : Int)) = false := decide_eq_false (by omega)
      clear h1 h2 HTW
      by_cases h5 : twc f.names < 0
      · have hd3 : decide (0 ≤ twc f.names) = false := decide_eq_false (by omega)
        have HBAD : Hid (∀ k, k < f.names.length → NM.right (f.names.getD k ⟨#[]⟩) = false → namedB f.names = false) := fun k => named_bad
        have HEND : Hid ((∀ k, k < f.names.length → NM.right (f.names.getD k ⟨#[]⟩) = true) → namedB f.names = true) := fun h => by rw [named_end h3 h4 h, decide_eq_true h5]
        have H12 : Hid (kd = 1 ∨ kd = 2 → relB kd n l f.names.length = ((pts n : Int) == 0)) := fun h => by rw [relB_12 h, pts_zero_eq]
        have H3 : Hid (kd = 3 → relB kd n l f.names.length = (decide (n = (f.names.length : Int)) && rightB n l)) := fun h => by rw [h]; exact relB_3n
        have H4 : Hid (kd = 4 → relB kd n l f.names.length = (decide (n = (f.names.length : Int)) && latB n l)) := fun h => by rw [h]; exact relB_4n
        have HNO : Hid (¬ kd = 1 → ¬ kd = 2 → ¬ kd = 3 → ¬ kd = 4 → relB kd n l f.names.length = false) := relB_no
        have H64 := Lib.hid h4
        clear h3 h4 h5
        generalize hrs : (namedB f.names && relB kd n l f.names.length) = res at *
        have HRES := Lib.hid hrs; clear hrs
        generalize relB kd n l f.names.length = rl at *
        generalize rightB n l = rb at *
        generalize latB n l = lb at *
        generalize pts n = p at *
        generalize twc f.names = tw at *
        generalize hm : f.names.length = m at *
        have HM := Lib.hid hm; clear hm
        obtain ⟨c0, c1, c2, c3⟩ := HC.out _ r0
        go_enter Tryz.func28, Tryz.ntmps28
        go_wp2_with fail
        refine (HTW2.out _ HB0.out).mono ?_
        rintro e wx ⟨rfl, rfl⟩
        go_wp2_with fail
        clear c0 c1 c2 c3 hd1 hd2 hd3
        go_loopw [4] (fun kv wr => ∃ k : Nat, k ≤ m ∧ kv = .int .i64 k ∧ RowAt wr w.heap.size 46 V ∧ Hid (∀ j, j < k → NM.right (f.names.getD j ⟨#[]⟩) = true) ∧ Hid (Below w.heap.size w wr)) (fun kv _ => m - (intOf kv).toNat)
        case atStart => exact ⟨0, by omega, rfl, r0, fun j hj => by omega, HB0⟩
        case round =>
          clear r0 HB0
          obtain ⟨k, hk, rfl, r1, HK, HB1⟩ := hrel
          have h64 := H64.out
          obtain ⟨c0, c1, c2, c3⟩ := HC.out _ r1
          by_cases hlt : k < m
          · obtain ⟨b, o, hA, hc⟩ := (HST.out _ HB1.out).at (k := k) (by rw [HM.out]; exact hlt)
            have hck := hc k (by rw [HM.out]; exact hlt)
            rw [hA] at c1
            clear hc hA
            have HKN : Hid (NM.right (f.names.getD k ⟨#[]⟩) = true → ∀ j, j < k + 1 → NM.right (f.names.getD j ⟨#[]⟩) = true) := fun h j hj => by
              by_cases e : j = k
              · subst e; exact h
              · exact HK.out j (by omega)
            have HR := Lib.hid (HBAD.out k hlt)
            generalize f.names.getD k ⟨#[]⟩ = x at *
            go_wp2_with fail
            refine (refRight_any x _).mono ?_
            rintro e w2 ⟨rfl, hdr⟩
            have hb := hdr.below
            have r2 := r1.below hb r1.lt
            have HB2 := Lib.hid (HB1.out.trans (hb.mono HB1.out.size))
            clear hdr hb r1 HB1 c0 c1 c2 c3 hck
            cases hr : NM.right x with
            | false =>
              have HR2 : Hid (res = false) := by
                show res = false
                rw [← HRES.out, HR.out hr]; rfl
              clear hr HR HKN
              go_wp2_with fail
              go_ret
              exact ⟨ret_eq (bool_eq HR2.out.symm), HB2.out⟩
            | true =>
              have HKN2 := Lib.hid (HKN.out hr)
              clear hr HR HKN
              go_wp2_with fail
              go_roundw
              case rel => exact ⟨k + 1, by omega, by go_num, r2, HKN2, HB2⟩
              case measure => simp [intOf]; omega
          · have e : k = m := by omega
            subst e
            have HRS : Hid (res = rl) := by
              show res = rl
              rw [← HRES.out, HEND.out HK.out]; rfl
            clear HRES HEND HBAD HK
            by_cases e1 : kd = 1
            · have HR := Lib.hid (HRS.out.trans (H12.out (.inl e1)))
              clear H12 H3 H4 HNO HRS
              go_wp2_with (refine wpList_loadRelIn (by rfl) _ rfl w.heap.size 2 rfl n l hl c3 ?_)
              refine (HPT.out _).mono ?_
              rintro e w2 ⟨rfl, hb⟩
              have r2 := r1.below hb r1.lt
              have HB2 := Lib.hid (HB1.out.trans (hb.mono HB1.out.size))
              go_wp2_with fail
              go_ret
              exact ⟨ret_eq (bool_eq HR.out.symm), HB2.out⟩
            · by_cases e2 : kd = 2
              · have HR := Lib.hid (HRS.out.trans (H12.out (.inr e2)))
                clear H12 H3 H4 HNO HRS
                go_wp2_with (refine wpList_loadRelIn (by rfl) _ rfl w.heap.size 2 rfl n l hl c3 ?_)
                refine (HPT.out _).mono ?_
                rintro e w2 ⟨rfl, hb⟩
                have r2 := r1.below hb r1.lt
                have HB2 := Lib.hid (HB1.out.trans (hb.mono HB1.out.size))
                go_wp2_with fail
                go_ret
                exact ⟨ret_eq (bool_eq HR.out.symm), HB2.out⟩
              · by_cases e3 : kd = 3
                · have HR := Lib.hid (HRS.out.trans (H3.out e3))
                  clear H12 H3 H4 HNO HRS
                  by_cases hpm : n = (k : Int)
                  · have HR2 : Hid (res = rb) := by
                      show res = rb
                      rw [HR.out, decide_eq_true hpm]; rfl
                    clear HR
                    have hpm2 : ((n == (k : Int)) = true) := by simpa using hpm
                    clear hpm
                    go_wp2_with (refine wpList_loadRelIn (by rfl) _ rfl w.heap.size 2 rfl n l hl c3 ?_)
                    refine (HGR.out _).mono ?_
                    rintro e w2 ⟨rfl, hb⟩
                    have r2 := r1.below hb r1.lt
                    have HB2 := Lib.hid (HB1.out.trans (hb.mono HB1.out.size))
                    go_wp2_with fail
                    go_ret
                    exact ⟨ret_eq (bool_eq HR2.out.symm), HB2.out⟩
                  · have HR2 : Hid (res = false) := by
                      show res = false
                      rw [HR.out, decide_eq_false hpm]; rfl
                    clear HR
                    go_wp2_with fail
                    go_ret
                    exact ⟨ret_eq (bool_eq HR2.out.symm), HB1.out⟩
                · by_cases e4 : kd = 4
                  · have HR := Lib.hid (HRS.out.trans (H4.out e4))
                    clear H12 H3 H4 HNO HRS
                    by_cases hpm : n = (k : Int)
                    · have HR2 : Hid (res = lb) := by
                        show res = lb
                        rw [HR.out, decide_eq_true hpm]; rfl
                      clear HR
                      have hpm2 : ((n == (k : Int)) = true) := by simpa using hpm
                      clear hpm
                      go_wp2_with (refine wpList_loadRelIn (by rfl) _ rfl w.heap.size 2 rfl n l hl c3 ?_)
                      refine (HLT.out _).mono ?_
                      rintro e w2 ⟨rfl, hb⟩
                      have r2 := r1.below hb r1.lt
                      have HB2 := Lib.hid (HB1.out.trans (hb.mono HB1.out.size))
                      go_wp2_with fail
                      go_ret
                      exact ⟨ret_eq (bool_eq HR2.out.symm), HB2.out⟩
                    · have HR2 : Hid (res = false) := by
                        show res = false
                        rw [HR.out, decide_eq_false hpm]; rfl
                      clear HR
                      go_wp2_with fail
                      go_ret
                      exact ⟨ret_eq (bool_eq HR2.out.symm), HB1.out⟩
                  · have HR := Lib.hid (HRS.out.trans (HNO.out e1 e2 e3 e4))
                    clear H12 H3 H4 HNO HRS
                    have k1 : (kd == 1) = false := by simpa using e1
                    have k2 : (kd == 2) = false := by simpa using e2
                    have k3 : (kd == 3) = false := by simpa using e3
                    have k4 : (kd == 4) = false := by simpa using e4
                    clear e1 e2 e3 e4
                    go_wp2_with fail
                    go_ret
                    exact ⟨ret_eq (bool_eq HR.out.symm), HB1.out⟩
      · rw [named_twice h5, Bool.false_and]
        have hd3 : decide (0 ≤ twc f.names) = true := decide_eq_true (by omega)
        clear h5 h3 h4
        generalize twc f.names = tw at *
        obtain ⟨c0, c1, c2, c3⟩ := HC.out _ r0
        generalize f.names.length = m at *
        go_enter Tryz.func28, Tryz.ntmps28
        go_wp2_with fail
        refine (HTW2.out _ HB0.out).mono ?_
        rintro e wx ⟨rfl, rfl⟩
        go_wp2_with fail
        go_ret
        exact ⟨rfl, HB0.out⟩

set_option maxRecDepth 8000 in
set_option maxHeartbeats 1000000 in
theorem qword7_any (f : Fac) (hv : facB f = true) (x : Nat) (hx : x < 18446744073709551616) (w : World) (hf : FacOk w f) :
    Calls Tryz.prog 44 #[.agg (fv f), .int .u64 (x : Int)] w fun e w' => e = .returned (.bool (wordB f x)) ∧ Below w.heap.size w w' := by
  have HRG : Hid (∀ w, Calls Tryz.prog 77 #[.int .i64 (f.names.length : Int), .int .u64 (x : Int)] w fun e w' => e = .returned (.tuple #[.int .i64 (RG.lv f.names.length x), .bool (RG.lvB f.names.length x)]) ∧ Below w.heap.size w w') := fun w => refLevel_any _ x w
  have HBL : Hid (∀ w, Calls Tryz.prog 38 #[.int .i64 (f.names.length : Int)] w fun e w' => e = .returned (.int .u64 (MM.belowN f.names.length : Int)) ∧ Below w.heap.size w w') := refBelow_any _
  have HSB : Hid (∀ w, Calls Tryz.prog 46 #[.int .u64 (x : Int), .int .u64 (MM.belowN f.names.length : Int)] w fun e w' => e = .returned (.bool (MM.subN x (MM.belowN f.names.length))) ∧ Below w.heap.size w w') := refSub_any _ _ hx (RG.rbelowN_lt _)
  have HGC : Hid (∀ w, Calls Tryz.prog 78 #[.agg (rv f.n f.l), .int .u64 (x : Int)] w fun e w' => e = .returned (.int .u64 ((gClose f.n f.l x : Nat) : Int)) ∧ Below w.heap.size w w') := fun w => qclose_any f.n f.l hf.rows x hx w
  have HPT : Hid (∀ w, Calls Tryz.prog 79 #[.agg (rv f.n f.l), .int .u64 (x : Int)] w fun e w' => e = .returned (.tuple #[.int .i64 (((ptO f.n f.l x).getD 0 : Nat) : Int), .bool (ptO f.n f.l x).isSome]) ∧ Below w.heap.size w w') := fun w => qpoint_any f.n f.l hf.rows x w
  have HG3 : Hid (f.kind = 3 → gClosed f.n f.l x = (((gClose f.n f.l x : Nat) : Int) == (x : Int))) := fun h => by
    rcases facB_kind hv with e | e | ⟨e, h2⟩ | ⟨e, _⟩
    · omega
    · omega
    · unfold gClosed
      rw [h2, Bool.true_and, Bool.eq_iff_iff]
      simp
      omega
    · omega
  have hF : wordB f x = if f.kind = 1 then RG.lvB f.names.length x else if f.kind = 2 then MM.subN x (MM.belowN f.names.length) else if f.kind = 3 then gClosed f.n f.l x else (ptO f.n f.l x).isSome := rfl
  clear hv
  have hl := hf.rows
  have r0 := RowAt.new w 46 (fv f)
  have HB0 : Hid (Below w.heap.size w (w.alloc (.cells (fv f) 46))) := (Below.refl _ _).alloc (Nat.le_refl _) _
  have HC : Hid (∀ W, RowAt W w.heap.size 46 (fv f) → W.cell? ⟨w.heap.size, 0, none⟩ = some (.int .i64 f.kind) ∧ W.cell? ⟨w.heap.size, 1, none⟩ = some (.slice f.A f.names.length f.c) ∧ W.cell? ⟨w.heap.size, 2, none⟩ = some (.int .i64 f.n) ∧ W.rangeAt w.heap.size 2 (rvl f.n f.l)) := fun W h => fac_cells h
  rw [hF]
  clear hF hf
  generalize fv f = V at *
  generalize f.kind = kd at *
  generalize f.n = n at *
  generalize f.l = l at *
  generalize f.A = A at *
  generalize f.c = c at *
  generalize RG.lv f.names.length x = lv1 at *
  generalize RG.lvB f.names.length x = b1 at *
  generalize MM.subN x (MM.belowN f.names.length) = b2 at *
  generalize MM.belowN f.names.length = bl at *
  generalize gClosed n l x = b3 at *
  generalize gClose n l x = g3 at *
  generalize (ptO n l x).isSome = b4 at *
  generalize (ptO n l x).getD 0 = k4 at *
  generalize f.names.length = m at *
  obtain ⟨c0, c1, c2, c3⟩ := HC.out _ r0
  by_cases e1 : kd = 1
  · rw [if_pos e1]
    go_enter Tryz.func44, Tryz.ntmps44
    go_wp2_with fail
    refine (HRG.out _).mono ?_
    rintro e w1 ⟨rfl, hb⟩
    have r1 := r0.below hb r0.lt
    have HB1 := Lib.hid (HB0.out.trans (hb.mono HB0.out.size))
    go_wp2_with fail
    go_ret
    exact ⟨rfl, HB1.out⟩
  · by_cases e2 : kd = 2
    · rw [if_neg e1, if_pos e2]
      go_enter Tryz.func44, Tryz.ntmps44
      go_wp2_with fail
      refine (HBL.out _).mono ?_
      rintro e w1 ⟨rfl, hb⟩
      have r1 := r0.below hb r0.lt
      have HB1 := Lib.hid (HB0.out.trans (hb.mono HB0.out.size))
      go_wp2_with fail
      refine (HSB.out _).mono ?_
      rintro e w2 ⟨rfl, hb⟩
      have r2 := r1.below hb r1.lt
      have HB2 := Lib.hid (HB1.out.trans (hb.mono HB1.out.size))
      go_wp2_with fail
      go_ret
      exact ⟨rfl, HB2.out⟩
    · by_cases e3 : kd = 3
      · rw [if_neg e1, if_neg e2, if_pos e3]
        have HG := Lib.hid (HG3.out e3)
        go_enter Tryz.func44, Tryz.ntmps44
        go_wp2_with (refine wpList_loadRelIn (by rfl) _ rfl w.heap.size 2 rfl n l hl c3 ?_)
        refine (HGC.out _).mono ?_
        rintro e w1 ⟨rfl, hb⟩
        have r1 := r0.below hb r0.lt
        have HB1 := Lib.hid (HB0.out.trans (hb.mono HB0.out.size))
        go_wp2_with fail
        go_ret
        exact ⟨ret_eq (bool_eq HG.out.symm), HB1.out⟩
      · rw [if_neg e1, if_neg e2, if_neg e3]
        go_enter Tryz.func44, Tryz.ntmps44
        go_wp2_with (refine wpList_loadRelIn (by rfl) _ rfl w.heap.size 2 rfl n l hl c3 ?_)
        refine (HPT.out _).mono ?_
        rintro e w1 ⟨rfl, hb⟩
        have r1 := r0.below hb r0.lt
        have HB1 := Lib.hid (HB0.out.trans (hb.mono HB0.out.size))
        go_wp2_with fail
        go_ret
        exact ⟨rfl, HB1.out⟩
end Go.Proofs.YtpgkcddhpeoiiaaGreatDoor
