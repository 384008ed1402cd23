/-
  What package shape's functions on one factor return: named, valid, fits, bottom, top, height. Conditions: the factor's names are in memory, 64 words below 2^64; the table of math/bits in memory.
-/
import Derived.Test.YtpgkcddhpeoiiaaDoorShapeKit
import Derived.Deep.CutRange
namespace Go.Proofs.YtpgkcddhpeoiiaaDoor
open Go.RowKit RM

theorem fac_cells {w : World} {g : Nat} {f : Fac} (h : RowAt w g 36 (fv f)) :
    w.cell? ⟨g, 0, none⟩ = some (.int .i64 f.kind) ∧ w.cell? ⟨g, 1, none⟩ = some (.slice f.A f.names.length f.c) ∧ w.cell? ⟨g, 2, none⟩ = some (.int .i64 f.n) ∧ w.rangeAt g 2 (rvl f.n f.l) :=
  ⟨(h.cell 0).trans (fv_0 f), (h.cell 1).trans (fv_1 f), (h.cell 2).trans (fv_2 f), h.range 2 (rvl f.n f.l) fun j u hu => by
    unfold fv fcells
    rw [Nat.add_comm 2 j]
    simpa using hu⟩
theorem named_low {xs : List ByteArray} (h : xs.length < 1) : namedB xs = false := by unfold namedB; rw [show decide (1 ≤ xs.length) = false from decide_eq_false (by omega)]; rfl
theorem named_high {xs : List ByteArray} (h : 64 < xs.length) : namedB xs = false := by unfold namedB; rw [show decide (xs.length ≤ 64) = false from decide_eq_false (by omega)]; simp
theorem named_bad {xs : List ByteArray} {k : Nat} (hk : k < xs.length) (h : NM.right (xs.getD k ⟨#[]⟩) = false) : namedB xs = false := by
  unfold namedB
  rw [show xs.all NM.right = false by
    rw [List.all_eq_false]
    refine ⟨xs[k], List.getElem_mem hk, ?_⟩
    rw [List.getD_eq_getElem?_getD, List.getElem?_eq_getElem hk] at h
    simpa using h]
  simp
theorem named_end {xs : List ByteArray} (h1 : 1 ≤ xs.length) (h2 : xs.length ≤ 64) (h : ∀ k, k < xs.length → NM.right (xs.getD k ⟨#[]⟩) = true) : namedB xs = decide (twc xs < 0) := by
  unfold namedB
  rw [show xs.all NM.right = true by
    rw [List.all_eq_true]
    intro x hx
    obtain ⟨k, hk, rfl⟩ := List.mem_iff_getElem.1 hx
    have := h k hk
    rw [List.getD_eq_getElem?_getD, List.getElem?_eq_getElem hk] at this
    simpa using this, decide_eq_true h1, decide_eq_true h2]
  simp
theorem right_size {x : ByteArray} (h : NM.right x = true) : x.size ≤ 4294967296 := by
  unfold NM.right at h
  simp only [Bool.and_eq_true, decide_eq_true_eq] at h
  omega
theorem rights_size {xs : List ByteArray} (h : ∀ k, k < xs.length → NM.right (xs.getD k ⟨#[]⟩) = true) : ∀ x ∈ xs, x.size ≤ 4294967296 := fun x hx => by
  obtain ⟨k, hk, rfl⟩ := List.mem_iff_getElem.1 hx
  have := h k hk
  rw [List.getD_eq_getElem?_getD, List.getElem?_eq_getElem hk] at this
  exact right_size (by simpa using this)

set_option maxHeartbeats 400000 in
theorem named_any (A : Option Addr) (c : Nat) (xs : List ByteArray) (w : World) (hA : Strs w A xs) :
    Calls Tryd.prog 29 #[.slice A xs.length c] w fun e w' => e = .returned (.bool (namedB xs)) ∧ Below w.heap.size w w' := by
  have HB0 : Hid (Below w.heap.size w w) := Below.refl _ _
  by_cases h1 : xs.length < 1
  · rw [named_low h1]
    clear hA
    generalize xs.length = n at *
    go_enter Tryd.func29, Tryd.ntmps29
    go_wp2_with fail
    go_ret
    exact ⟨rfl, HB0.out⟩
  · by_cases h2 : 64 < xs.length
    · rw [named_high h2]
      have h3 : 1 ≤ xs.length := by omega
      clear hA h1
      generalize xs.length = n at *
      go_enter Tryd.func29, Tryd.ntmps29
      go_wp2_with fail
      go_ret
      exact ⟨rfl, HB0.out⟩
    · have h3 : 1 ≤ xs.length := by omega
      have h4 : xs.length ≤ 64 := by omega
      have HA := Lib.hid hA; clear hA h1 h2
      have HBAD : Hid (∀ k, k < xs.length → NM.right (xs.getD k ⟨#[]⟩) = false → namedB xs = false) := fun k => named_bad
      have HEND : Hid ((∀ k, k < xs.length → NM.right (xs.getD k ⟨#[]⟩) = true) → namedB xs = decide (twc xs < 0)) := named_end h3 h4
      have HTW : Hid ((∀ k, k < xs.length → NM.right (xs.getD k ⟨#[]⟩) = true) → ∀ W, Strs W A xs → Calls Tryd.prog 50 #[.slice A xs.length c] W fun e w' => e = .returned (.int .i64 (twc xs)) ∧ Below W.heap.size W w') := fun h W hW => twice_any A c xs W (by omega) (rights_size h) hW
      generalize namedB xs = res at *
      generalize twc xs = tw at *
      generalize hn : xs.length = n at *
      have HN := Lib.hid hn; clear hn
      go_enter Tryd.func29, Tryd.ntmps29
      go_wp2_with fail
      go_loopw [4, 15] (fun _ kv wr => ∃ k : Nat, k ≤ n ∧ kv = .int .i64 k ∧ Hid (∀ j, j < k → NM.right (xs.getD j ⟨#[]⟩) = true) ∧ Hid (Below w.heap.size w wr)) (fun _ kv _ => n - (intOf kv).toNat)
      case atStart => exact ⟨0, by omega, rfl, fun j hj => by omega, HB0⟩
      case round =>
        obtain ⟨k, hk, rfl, HK, HB1⟩ := hrel
        clear HB0
        by_cases hlt : k < n
        · obtain ⟨b, o, rfl, hc⟩ := (HA.out.below HB1.out).at (k := k) (by rw [HN.out]; exact hlt)
          have hck := hc k (by rw [HN.out]; exact hlt)
          clear hc
          have HKN : Hid (NM.right (xs.getD k ⟨#[]⟩) = true → ∀ j, j < k + 1 → NM.right (xs.getD j ⟨#[]⟩) = true) := fun h j hj => by
            by_cases e : j = k
            · subst e; exact h
            · exact HK.out j (by omega)
          have HR := Lib.hid (HBAD.out k hlt)
          generalize xs.getD k ⟨#[]⟩ = x at *
          go_wp2_with fail
          refine (right_any x _).mono ?_
          rintro e w2 ⟨rfl, hb⟩
          have HB2 := Lib.hid (HB1.out.trans (hb.mono HB1.out.size))
          clear hb  HB1
          cases hr : NM.right x with
          | false =>
            have HR2 := Lib.hid (HR.out hr)
            clear hr HR HKN
            go_wp2_with fail
            go_ret
            exact ⟨ret_eq (bool_eq HR2.out.symm), HB2.out⟩
          | true =>
            have HKN2 := Lib.hid (HKN.out hr)
            clear hr HR HKN
            go_wp2_with fail
            go_roundw
            case rel => exact ⟨k + 1, by omega, by go_num, HKN2, HB2⟩
            case measure => simp [intOf]; omega
        · have e : k = n := by omega
          subst e
          have HT2 := Lib.hid (HTW.out HK.out _ (HA.out.below HB1.out))
          have HE2 := Lib.hid (HEND.out HK.out)
          go_wp2_with fail
          refine (HT2.out).mono ?_
          rintro e w2 ⟨rfl, hb⟩
          have HB2 := Lib.hid (HB1.out.trans (hb.mono HB1.out.size))
          clear hb  HB1
          go_wp2_with fail
          go_ret
          exact ⟨ret_eq (bool_eq HE2.out.symm), HB2.out⟩

theorem relB_12 {kd n : Int} {l : List Nat} {m : Nat} (h : kd = 1 ∨ kd = 2) : relB kd n l m = decide (pts n = 0) := by unfold relB; rw [if_pos h]
theorem relB_3 {n : Int} {l : List Nat} {m : Nat} : relB 3 n l m = (decide (pts n = m) && rightB n l) := by
  unfold relB
  rw [if_neg (by omega), if_pos rfl]
  cases h : rightB n l with
  | false => simp
  | true =>
    obtain ⟨p, h1, h2, hn, hp, _⟩ := right_has h
    rw [hp, hn, Bool.and_true, Bool.and_true, decide_eq_decide]
    omega
theorem relB_4 {n : Int} {l : List Nat} {m : Nat} : relB 4 n l m = (decide (pts n = m) && latB n l) := by
  unfold relB
  rw [if_neg (by omega), if_neg (by omega), if_pos rfl]
  cases h : latB n l with
  | false => simp
  | true =>
    obtain ⟨h1, h2⟩ := lat_n h
    have := pts_in (show 0 ≤ n by omega) h2
    rw [Bool.and_true, Bool.and_true, decide_eq_decide]
    omega
theorem relB_no {kd n : Int} {l : List Nat} {m : Nat} (h1 : ¬ kd = 1) (h2 : ¬ kd = 2) (h3 : ¬ kd = 3) (h4 : ¬ kd = 4) : relB kd n l m = false := by
  unfold relB
  rw [if_neg (by omega), if_neg h3, if_neg h4]
theorem pts_zero_eq (p : Nat) : ((p : Int) == 0) = decide (p = 0) := by rw [Bool.eq_iff_iff]; simp

set_option maxRecDepth 8000 in
set_option maxHeartbeats 1000000 in
theorem valid_any (f : Fac) (w : World) (hT : Tab w) (hf : FacOk w f) :
    Calls Tryd.prog 19 #[.agg (fv f)] w fun e w' => e = .returned (.bool (facB f)) ∧ Below w.heap.size w w' := by
  have HNM : Hid (∀ W, Below w.heap.size w W → Calls Tryd.prog 29 #[.slice f.A f.names.length f.c] W fun e w' => e = .returned (.bool (namedB f.names)) ∧ Below W.heap.size W w') := fun W h => named_any _ _ _ W (hf.strs.below h)
  have HNEW : Hid (∀ w, Calls Tryd.prog 30 #[.int .i64 f.n] w fun e w' => e = .returned (.agg (rv ((pts f.n : Nat) : Int) zs)) ∧ Below w.heap.size w w') := new_any f.n
  have HGR : Hid (∀ w, Calls Tryd.prog 31 #[.agg (rv f.n f.l)] w fun e w' => e = .returned (.bool (rightB f.n f.l)) ∧ Below w.heap.size w w') := gright_any f.n f.l hf.rows
  have HLT : Hid (∀ w, Tab w → Calls Tryd.prog 32 #[.agg (rv f.n f.l)] w fun e w' => e = .returned (.bool (latB f.n f.l)) ∧ Below w.heap.size w w') := hlattice_any f.n f.l hf.rows
  have hf0 := run_field0 (pts f.n) zs
  have hF : facB f = (namedB f.names && relB f.kind f.n f.l f.names.length) := rfl
  have HT := Lib.hid hT; clear hT
  have hl := hf.rows
  have r0 := RowAt.new w 36 (fv f)
  have HB0 : Hid (Below w.heap.size w (w.alloc (.cells (fv f) 36))) := (Below.refl _ _).alloc (Nat.le_refl _) _
  have HC : Hid (∀ W, RowAt W w.heap.size 36 (fv f) → W.cell? ⟨w.heap.size, 0, none⟩ = some (.int .i64 f.kind) ∧ W.cell? ⟨w.heap.size, 1, none⟩ = some (.slice f.A f.names.length f.c) ∧ W.cell? ⟨w.heap.size, 2, none⟩ = some (.int .i64 f.n) ∧ W.rangeAt w.heap.size 2 (rvl f.n f.l)) := fun W h => fac_cells h
  rw [hF]
  clear hF hf
  generalize fv f = V at *
  generalize f.kind = kd at *
  generalize f.n = n at *
  generalize f.l = l at *
  generalize f.A = A at *
  generalize f.c = c at *
  generalize f.names = xs at *
  cases hn : namedB xs with
  | false =>
    rw [hn] at HNM
    rw [Bool.false_and]
    clear hn
    obtain ⟨c0, c1, c2, c3⟩ := HC.out _ r0
    generalize xs.length = m at *
    go_enter Tryd.func19, Tryd.ntmps19
    go_wp2_with fail
    refine (HNM.out _ HB0.out).mono ?_
    rintro e w1 ⟨rfl, hb⟩
    have r1 := r0.below hb r0.lt
    have HB1 := Lib.hid (HB0.out.trans (hb.mono HB0.out.size))
    go_wp2_with fail
    go_ret
    exact ⟨rfl, HB1.out⟩
  | true =>
    rw [hn] at HNM
    rw [Bool.true_and]
    clear hn
    have H12 : Hid (kd = 1 ∨ kd = 2 → relB kd n l xs.length = ((pts n : Int) == 0)) := fun h => by rw [relB_12 h, pts_zero_eq]
    have H3 : Hid (kd = 3 → relB kd n l xs.length = (decide (pts n = xs.length) && rightB n l)) := fun h => by rw [h]; exact relB_3
    have H4 : Hid (kd = 4 → relB kd n l xs.length = (decide (pts n = xs.length) && latB n l)) := fun h => by rw [h]; exact relB_4
    have HNO : Hid (¬ kd = 1 → ¬ kd = 2 → ¬ kd = 3 → ¬ kd = 4 → relB kd n l xs.length = false) := relB_no
    generalize relB kd n l xs.length = res at *
    generalize xs.length = m at *
    generalize rightB n l = rb at *
    generalize latB n l = lb at *
    generalize rv ((pts n : Nat) : Int) zs = rz at *
    generalize pts n = p at *
    obtain ⟨c0, c1, c2, c3⟩ := HC.out _ r0
    go_enter Tryd.func19, Tryd.ntmps19
    go_wp2_with fail
    refine (HNM.out _ HB0.out).mono ?_
    rintro e w1 ⟨rfl, hb⟩
    have r1 := r0.below hb r0.lt
    have HB1 := Lib.hid (HB0.out.trans (hb.mono HB0.out.size))
    clear c0 c1 c2 c3
    obtain ⟨c0, c1, c2, c3⟩ := HC.out _ r1
    clear hb r0 HB0
    go_wp2_with fail
    refine (HNEW.out _).mono ?_
    rintro e w2 ⟨rfl, hb⟩
    have r2 := r1.below hb r1.lt
    have HB2 := Lib.hid (HB1.out.trans (hb.mono HB1.out.size))
    clear c0 c1 c2 c3
    obtain ⟨c0, c1, c2, c3⟩ := HC.out _ r2
    clear hb r1 HB1
    by_cases e1 : kd = 1
    · have HR := Lib.hid (H12.out (.inl e1))
      clear H12 H3 H4 HNO
      go_wp2_with fail
      go_ret
      exact ⟨ret_eq (bool_eq HR.out.symm), HB2.out⟩
    · by_cases e2 : kd = 2
      · have HR := Lib.hid (H12.out (.inr e2))
        clear H12 H3 H4 HNO
        go_wp2_with fail
        go_ret
        exact ⟨ret_eq (bool_eq HR.out.symm), HB2.out⟩
      · by_cases e3 : kd = 3
        · have HR := Lib.hid (H3.out e3)
          clear H12 H3 H4 HNO
          by_cases hpm : p = m
          · have HR2 : Hid (res = rb) := by
              show res = rb
              rw [HR.out, decide_eq_true hpm]; rfl
            clear HR
            go_wp2_with (refine wpList_loadRelIn (by rfl) _ rfl w.heap.size 2 rfl n l hl c3 ?_)
            refine (HGR.out _).mono ?_
            rintro e w3 ⟨rfl, hb⟩
            have r3 := r2.below hb r2.lt
            have HB3 := Lib.hid (HB2.out.trans (hb.mono HB2.out.size))
            go_wp2_with fail
            go_ret
            exact ⟨ret_eq (bool_eq HR2.out.symm), HB3.out⟩
          · have HR2 : Hid (res = false) := by
              show res = false
              rw [HR.out, decide_eq_false hpm]; rfl
            clear HR
            go_wp2_with fail
            go_ret
            exact ⟨ret_eq (bool_eq HR2.out.symm), HB2.out⟩
        · by_cases e4 : kd = 4
          · have HR := Lib.hid (H4.out e4)
            clear H12 H3 H4 HNO
            by_cases hpm : p = m
            · have HR2 : Hid (res = lb) := by
                show res = lb
                rw [HR.out, decide_eq_true hpm]; rfl
              clear HR
              go_wp2_with (refine wpList_loadRelIn (by rfl) _ rfl w.heap.size 2 rfl n l hl c3 ?_)
              refine (HLT.out _ (HT.out.below HB2.out)).mono ?_
              rintro e w3 ⟨rfl, hb⟩
              have r3 := r2.below hb r2.lt
              have HB3 := Lib.hid (HB2.out.trans (hb.mono HB2.out.size))
              go_wp2_with fail
              go_ret
              exact ⟨ret_eq (bool_eq HR2.out.symm), HB3.out⟩
            · have HR2 : Hid (res = false) := by
                show res = false
                rw [HR.out, decide_eq_false hpm]; rfl
              clear HR
              go_wp2_with fail
              go_ret
              exact ⟨ret_eq (bool_eq HR2.out.symm), HB2.out⟩
          · have HR := Lib.hid (HNO.out e1 e2 e3 e4)
            clear H12 H3 H4 HNO
            go_wp2_with fail
            go_ret
            exact ⟨ret_eq (bool_eq HR.out.symm), HB2.out⟩

set_option maxRecDepth 8000 in
set_option maxHeartbeats 1000000 in
theorem sfits_any (f : Fac) (x : Nat) (hx : x < 18446744073709551616) (w : World) (hT : Tab w) (hf : FacOk w f) :
    Calls Tryd.prog 22 #[.agg (fv f), .int .u64 (x : Int)] w fun e w' => e = .returned (.bool (wordB f x)) ∧ Below w.heap.size w w' := by
  have HRG : Hid (∀ w, Calls Tryd.prog 35 #[.int .i64 (f.names.length : Int), .int .u64 (x : Int)] w fun e w' => e = .returned (.bool (RG.lvB f.names.length x)) ∧ w = w') := rungRight_any _ x hx
  have HBL : Hid (∀ w, Calls Tryd.prog 37 #[.int .i64 (f.names.length : Int)] w fun e w' => e = .returned (.int .u64 (MM.belowN f.names.length : Int)) ∧ w = w') := below_any _
  have HSB : Hid (∀ w, Calls Tryd.prog 36 #[.int .u64 (x : Int), .int .u64 (MM.belowN f.names.length : Int)] w fun e w' => e = .returned (.bool (MM.subN x (MM.belowN f.names.length))) ∧ w = w') := sub_any _ _ hx (RG.rbelowN_lt _)
  have HGC : Hid (∀ w, Tab w → Calls Tryd.prog 38 #[.agg (rv f.n f.l), .int .u64 (x : Int)] w fun e w' => e = .returned (.bool (gClosed f.n f.l x)) ∧ Below w.heap.size w w') := fun w h => gclosed_any f.n f.l hf.rows x hx w h
  have HPT : Hid (∀ w, Calls Tryd.prog 39 #[.agg (rv f.n f.l), .int .u64 (x : Int)] w fun e w' => e = .returned (.tuple #[.int .i64 (((ptO f.n f.l x).getD 0 : Nat) : Int), .bool (ptO f.n f.l x).isSome]) ∧ Below w.heap.size w w') := fun w => hpoint_any f.n f.l hf.rows x w
  have hF : wordB f x = if f.kind = 1 then RG.lvB f.names.length x else if f.kind = 2 then MM.subN x (MM.belowN f.names.length) else if f.kind = 3 then gClosed f.n f.l x else (ptO f.n f.l x).isSome := rfl
  have HT := Lib.hid hT; clear hT
  have hl := hf.rows
  have r0 := RowAt.new w 36 (fv f)
  have HB0 : Hid (Below w.heap.size w (w.alloc (.cells (fv f) 36))) := (Below.refl _ _).alloc (Nat.le_refl _) _
  have HC : Hid (∀ W, RowAt W w.heap.size 36 (fv f) → W.cell? ⟨w.heap.size, 0, none⟩ = some (.int .i64 f.kind) ∧ W.cell? ⟨w.heap.size, 1, none⟩ = some (.slice f.A f.names.length f.c) ∧ W.cell? ⟨w.heap.size, 2, none⟩ = some (.int .i64 f.n) ∧ W.rangeAt w.heap.size 2 (rvl f.n f.l)) := fun W h => fac_cells h
  rw [hF]
  clear hF hf
  generalize fv f = V at *
  generalize f.kind = kd at *
  generalize f.n = n at *
  generalize f.l = l at *
  generalize f.A = A at *
  generalize f.c = c at *
  generalize f.names = xs at *
  generalize RG.lvB xs.length x = b1 at *
  generalize MM.subN x (MM.belowN xs.length) = b2 at *
  generalize MM.belowN xs.length = bl at *
  generalize gClosed n l x = b3 at *
  generalize (ptO n l x).isSome = b4 at *
  generalize (ptO n l x).getD 0 = k4 at *
  generalize xs.length = m at *
  obtain ⟨c0, c1, c2, c3⟩ := HC.out _ r0
  by_cases e1 : kd = 1
  · rw [if_pos e1]
    go_enter Tryd.func22, Tryd.ntmps22
    go_wp2_with fail
    refine (HRG.out _).mono ?_
    rintro e w1 ⟨rfl, rfl⟩
    go_wp2_with fail
    go_ret
    exact ⟨rfl, HB0.out⟩
  · by_cases e2 : kd = 2
    · rw [if_neg e1, if_pos e2]
      go_enter Tryd.func22, Tryd.ntmps22
      go_wp2_with fail
      refine (HBL.out _).mono ?_
      rintro e w1 ⟨rfl, rfl⟩
      go_wp2_with fail
      refine (HSB.out _).mono ?_
      rintro e w1 ⟨rfl, rfl⟩
      go_wp2_with fail
      go_ret
      exact ⟨rfl, HB0.out⟩
    · by_cases e3 : kd = 3
      · rw [if_neg e1, if_neg e2, if_pos e3]
        go_enter Tryd.func22, Tryd.ntmps22
        go_wp2_with (refine wpList_loadRelIn (by rfl) _ rfl w.heap.size 2 rfl n l hl c3 ?_)
        refine (HGC.out _ (HT.out.below HB0.out)).mono ?_
        rintro e w1 ⟨rfl, hb⟩
        have r1 := r0.below hb r0.lt
        have HB1 := Lib.hid (HB0.out.trans (hb.mono HB0.out.size))
        go_wp2_with fail
        go_ret
        exact ⟨rfl, HB1.out⟩
      · rw [if_neg e1, if_neg e2, if_neg e3]
        go_enter Tryd.func22, Tryd.ntmps22
        go_wp2_with (refine wpList_loadRelIn (by rfl) _ rfl w.heap.size 2 rfl n l hl c3 ?_)
        refine (HPT.out _).mono ?_
        rintro e w1 ⟨rfl, hb⟩
        have r1 := r0.below hb r0.lt
        have HB1 := Lib.hid (HB0.out.trans (hb.mono HB0.out.size))
        go_wp2_with fail
        go_ret
        exact ⟨rfl, HB1.out⟩
end Go.Proofs.YtpgkcddhpeoiiaaDoor
