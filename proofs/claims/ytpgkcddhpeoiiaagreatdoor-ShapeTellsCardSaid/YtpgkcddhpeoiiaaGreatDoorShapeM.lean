/-
  The document's Right, Fits and Height of shapes. Conditions: a slice of factors in memory, eight words below 2^64.
-/
import Derived.Test.YtpgkcddhpeoiiaaGreatDoorShapeL
namespace Go.Proofs.YtpgkcddhpeoiiaaGreatDoor
open Go.RowKit RM

set_option maxRecDepth 8000 in
set_option maxHeartbeats 2000000 in
theorem qright7_any (t : Bool) (A : Option Addr) (c : Nat) (fs : List Fac) (w : World) (hF : Facs w A fs) :
    Calls Tryz.prog 9 #[.agg (sv t A fs.length c)] w fun e w' => e = .returned (.bool (rightS t fs)) ∧ Below w.heap.size w w' := by
  have r0 := RowAt.new w 24 (sv t A fs.length c)
  have HB0 : Hid (Below w.heap.size w (w.alloc (.cells (sv t A fs.length c) 24))) := (Below.refl _ _).alloc (Nat.le_refl _) _
  have HS : Hid (∀ W, RowAt W w.heap.size 24 (sv t A fs.length c) → W.cell? ⟨w.heap.size, 0, none⟩ = some (.bool t) ∧ W.cell? ⟨w.heap.size, 1, none⟩ = some (.slice A fs.length c)) := fun W h => shape_cells h
  obtain ⟨c0, c1⟩ := HS.out _ r0
  generalize sv t A fs.length c = V at *
  by_cases h1 : fs.length < 1
  · rw [rightS_low h1]
    clear hF
    generalize fs.length = n at *
    go_enter Tryz.func9, Tryz.ntmps9
    go_wp2_with fail
    go_ret
    exact ⟨rfl, HB0.out⟩
  · have h3 : 1 ≤ fs.length := by omega
    by_cases h2 : 8 < fs.length
    · rw [rightS_high h2]
      clear hF h1
      generalize fs.length = n at *
      go_enter Tryz.func9, Tryz.ntmps9
      go_wp2_with fail
      go_ret
      exact ⟨rfl, HB0.out⟩
    · have h4 : fs.length ≤ 8 := by omega
      clear h1 h2
      have hd1 : decide ((fs.length : Int) < 1) = false := decide_eq_false (by omega)
      have hd2 : decide (8 < (fs.length : Int)) = false := decide_eq_false (by omega)
      by_cases h5 : t = false ∧ ¬ fs.length = 1
      · obtain ⟨rfl, h6⟩ := h5
        rw [rightS_one h6]
        have hd3 : ((fs.length : Int) != 1) = true := by simp; omega
        clear hF h3 h4 h6
        generalize fs.length = n at *
        go_enter Tryz.func9, Tryz.ntmps9
        go_wp2_with fail
        go_ret
        exact ⟨rfl, HB0.out⟩
      · have h7 : t = true ∨ fs.length = 1 := by
          cases t with
          | true => exact .inl rfl
          | false => exact .inr (by apply Classical.byContradiction; intro h; exact h5 ⟨rfl, h⟩)
        clear h5
        have HBAD : Hid (∀ k, k < fs.length → facB (fs.getD k f0) = false → rightS t fs = false) := fun k => rightS_bad
        have HEND : Hid ((∀ k, k < fs.length → facB (fs.getD k f0) = true) → rightS t fs = true) := rightS_end h3 h4 h7
        have HF : Hid (∀ W, Below w.heap.size w W → Facs W A fs) := fun W h => hF.below h
        clear hF
        have h8 : (t = false ∧ ((fs.length : Int) != 1) = false) ∨ t = true := by
          rcases h7 with rfl | h7
          · exact .inr rfl
          · cases t with
            | true => exact .inr rfl
            | false => exact .inl ⟨rfl, by simp; omega⟩
        generalize hn : fs.length = n at *
        have HN := Lib.hid hn; clear hn
        have H4 := Lib.hid h4
        clear h7 h3 h4
        generalize rightS t fs = res at *
        go_enter Tryz.func9, Tryz.ntmps9
        rcases h8 with ⟨rfl, hd3⟩ | rfl
        · go_wp2_with fail
          clear c0 c1 hd1 hd2 hd3
          go_loopw [3] (fun kv wr => ∃ k : Nat, k ≤ n ∧ kv = .int .i64 k ∧ RowAt wr w.heap.size 24 V ∧ Hid (∀ j, j < k → facB (fs.getD j f0) = true) ∧ Hid (Below w.heap.size w wr)) (fun kv _ => n - (intOf kv).toNat)
          case atStart => exact ⟨0, by omega, rfl, r0, fun j hj => by omega, HB0⟩
          case round =>
            clear r0 HB0
            obtain ⟨k, hk, rfl, r1, HK, HB1⟩ := hrel
            have h4 := H4.out
            obtain ⟨c0, c1⟩ := HS.out _ r1
            by_cases hlt : k < n
            · have hFk := HF.out _ HB1.out
              obtain ⟨b, o, rfl, _, hr⟩ := hFk.at (k := k) (by rw [HN.out]; exact hlt)
              have hrg := hr k (by rw [HN.out]; exact hlt)
              have hok := hFk.okAt (i := k) (by rw [HN.out]; exact hlt)
              have hl := hok.rows
              have HOK := Lib.hid hok
              clear hr hFk hok
              have HKN : Hid (facB (fs.getD k f0) = true → ∀ j, j < k + 1 → facB (fs.getD j f0) = true) := fun h j hj => by
                by_cases e : j = k
                · subst e; exact h
                · exact HK.out j (by omega)
              have HR := Lib.hid (HBAD.out k hlt)
              generalize fs.getD k f0 = f at *
              go_wp2_with (refine wpList_loadFacIn (by rfl) _ rfl b (o + k * 67) rfl f hl hrg ?_)
              refine (qfactor_any f _ HOK.out).mono ?_
              rintro e w3 ⟨rfl, hb⟩
              have r3 := r1.below hb r1.lt
              have HB3 := Lib.hid (HB1.out.trans (hb.mono HB1.out.size))
              clear hb r1 hrg c0 c1 HB1 HOK
              cases hv : facB f with
              | false =>
                have HR2 := Lib.hid (HR.out hv)
                clear hv HR HKN
                go_wp2_with fail
                go_ret
                exact ⟨ret_eq (bool_eq HR2.out.symm), HB3.out⟩
              | true =>
                have HKN2 := Lib.hid (HKN.out hv)
                clear hv HR HKN
                go_wp2_with fail
                go_roundw
                case rel => exact ⟨k + 1, by omega, by go_num, r3, HKN2, HB3⟩
                case measure => simp [intOf]; omega
            · have e : k = n := by omega
              subst e
              have HE2 := Lib.hid (HEND.out HK.out)
              go_wp2_with fail
              go_ret
              exact ⟨ret_eq (bool_eq HE2.out.symm), HB1.out⟩
        · go_wp2_with fail
          clear c0 c1 hd1 hd2
          go_loopw [3] (fun kv wr => ∃ k : Nat, k ≤ n ∧ kv = .int .i64 k ∧ RowAt wr w.heap.size 24 V ∧ Hid (∀ j, j < k → facB (fs.getD j f0) = true) ∧ Hid (Below w.heap.size w wr)) (fun kv _ => n - (intOf kv).toNat)
          case atStart => exact ⟨0, by omega, rfl, r0, fun j hj => by omega, HB0⟩
          case round =>
            clear r0 HB0
            obtain ⟨k, hk, rfl, r1, HK, HB1⟩ := hrel
            have h4 := H4.out
            obtain ⟨c0, c1⟩ := HS.out _ r1
            by_cases hlt : k < n
            · have hFk := HF.out _ HB1.out
              obtain ⟨b, o, rfl, _, hr⟩ := hFk.at (k := k) (by rw [HN.out]; exact hlt)
              have hrg := hr k (by rw [HN.out]; exact hlt)
              have hok := hFk.okAt (i := k) (by rw [HN.out]; exact hlt)
              have hl := hok.rows
              have HOK := Lib.hid hok
              clear hr hFk hok
              have HKN : Hid (facB (fs.getD k f0) = true → ∀ j, j < k + 1 → facB (fs.getD j f0) = true) := fun h j hj => by
                by_cases e : j = k
                · subst e; exact h
                · exact HK.out j (by omega)
              have HR := Lib.hid (HBAD.out k hlt)
              generalize fs.getD k f0 = f at *
              go_wp2_with (refine wpList_loadFacIn (by rfl) _ rfl b (o + k * 67) rfl f hl hrg ?_)
              refine (qfactor_any f _ HOK.out).mono ?_
              rintro e w3 ⟨rfl, hb⟩
              have r3 := r1.below hb r1.lt
              have HB3 := Lib.hid (HB1.out.trans (hb.mono HB1.out.size))
              clear hb r1 hrg c0 c1 HB1 HOK
              cases hv : facB f with
              | false =>
                have HR2 := Lib.hid (HR.out hv)
                clear hv HR HKN
                go_wp2_with fail
                go_ret
                exact ⟨ret_eq (bool_eq HR2.out.symm), HB3.out⟩
              | true =>
                have HKN2 := Lib.hid (HKN.out hv)
                clear hv HR HKN
                go_wp2_with fail
                go_roundw
                case rel => exact ⟨k + 1, by omega, by go_num, r3, HKN2, HB3⟩
                case measure => simp [intOf]; omega
            · have e : k = n := by omega
              subst e
              have HE2 := Lib.hid (HEND.out HK.out)
              go_wp2_with fail
              go_ret
              exact ⟨ret_eq (bool_eq HE2.out.symm), HB1.out⟩

theorem fits_slot_no {t : Bool} {fs : List Fac} {e : List Nat} {k : Nat} (hk : k < 8) (h : slotB fs e k = false) : fitsE t fs e = false := by
  unfold fitsE
  rw [show (List.range 8).all (slotB fs e) = false by
    rw [List.all_eq_false]
    exact ⟨k, List.mem_range.2 hk, by rw [h]; simp⟩, Bool.and_false]
set_option maxRecDepth 20000 in
set_option maxHeartbeats 4000000 in
theorem qfitsE_any (t : Bool) (A : Option Addr) (c : Nat) (fs : List Fac) (e : List Nat) (he : EW e) (w : World) (hF : Facs w A fs) :
    Calls Tryz.prog 18 #[.agg (sv t A fs.length c), .agg (uv e)] w fun x w' => x = .returned (.bool (fitsE t fs e)) ∧ Below w.heap.size w w' := by
  have r0 : RowAt ((w.alloc (.cells (sv t A fs.length c) 24)).alloc (.cells (uv e) 30)) w.heap.size 24 (sv t A fs.length c) := (RowAt.new w _ _).alloc _
  have q0 : RowAt ((w.alloc (.cells (sv t A fs.length c) 24)).alloc (.cells (uv e) 30)) (w.heap.size + 1) 30 (uv e) := by
    have := RowAt.new (w.alloc (.cells (sv t A fs.length c) 24)) 30 (uv e)
    simpa using this
  have HB0 : Hid (Below w.heap.size w ((w.alloc (.cells (sv t A fs.length c) 24)).alloc (.cells (uv e) 30))) := ((Below.refl _ _).alloc (Nat.le_refl _) _).alloc (by simp) _
  have HRI : Hid (∀ W, Below w.heap.size w W → Calls Tryz.prog 9 #[.agg (sv t A fs.length c)] W fun x w' => x = .returned (.bool (rightS t fs)) ∧ Below W.heap.size W w') := fun W h => qright7_any t A c fs W (hF.below h)
  have HSH : Hid (∀ W, RowAt W w.heap.size 24 (sv t A fs.length c) → W.cell? ⟨w.heap.size, 0, none⟩ = some (.bool t) ∧ W.cell? ⟨w.heap.size, 1, none⟩ = some (.slice A fs.length c)) := fun W h => shape_cells h
  have HF : Hid (∀ W, Below w.heap.size w W → Facs W A fs) := fun W h => hF.below h
  clear hF
  cases hr : rightS t fs with
  | false =>
    rw [fits_no hr]
    rw [hr] at HRI
    clear hr HF
    generalize fs.length = n at *
    go_enter Tryz.func18, Tryz.ntmps18
    go_upto_region 1 with fail
    generalize (w.alloc (.cells (sv t A n c) 24)).alloc (.cells (uv e) 30) = w0 at *
    go_wp2_with (refine wpList_loadShape (by rfl) _ rfl w.heap.size rfl t A n c r0 ?_)
    refine (HRI.out _ HB0.out).mono ?_
    rintro e w1 ⟨rfl, hb⟩
    have HB1 := Lib.hid (HB0.out.trans (hb.mono HB0.out.size))
    go_wp2_with fail
    go_ret
    exact ⟨rfl, HB1.out⟩
  | true =>
    have HV : Hid (∀ k, k < fs.length → facB (fs.getD k f0) = true) := fun k hk => right_fac hr hk
    have HBAD : Hid (∀ k, k < 8 → slotB fs e k = false → fitsE t fs e = false) := fun k hk h => fits_slot_no hk h
    have HEND : Hid ((∀ k, k < 8 → slotB fs e k = true) → fitsE t fs e = true) := fun h => fits_iff.2 ⟨hr, h⟩
    have HSI : Hid (∀ k, k < fs.length → slotB fs e k = wordB (fs.getD k f0) (e.getD k 0)) := fun k hk => slot_in hk
    have HSO : Hid (∀ k, ¬ k < fs.length → slotB fs e k = (e.getD k 0 == 0)) := fun k hk => by unfold slotB; rw [if_neg hk]
    have HEA : Hid (∀ k, k < 8 → (uv e)[k]? = some (.int .u64 ((e.getD k 0 : Nat) : Int))) := fun k hk => ev_at he k hk
    have HLT := Lib.hid he.lt
    have h8 := (right_len hr).2
    rw [hr] at HRI
    clear hr he
    generalize slotB fs e = sl at *
    generalize fitsE t fs e = res at *
    generalize hn : fs.length = n at *
    have HN := Lib.hid hn; clear hn
    generalize uv e = U at *
    go_enter Tryz.func18, Tryz.ntmps18
    go_upto_region 1 with fail
    generalize (w.alloc (.cells (sv t A n c) 24)).alloc (.cells U 30) = w0 at *
    go_wp2_with (refine wpList_loadShape (by rfl) _ rfl w.heap.size rfl t A n c r0 ?_)
    refine (HRI.out _ HB0.out).mono ?_
    rintro e w1 ⟨rfl, hb⟩
    have r1 := r0.below hb r0.lt
    have q1 := q0.below hb q0.lt
    have HB1 := Lib.hid (HB0.out.trans (hb.mono HB0.out.size))
    clear hb r0 q0 HB0
    go_wp2_with fail
    clear HRI
    go_loopw [5] (fun kv wr => ∃ k : Nat, k ≤ 8 ∧ kv = .int .i64 k ∧ RowAt wr w.heap.size 24 (sv t A n c) ∧ RowAt wr (w.heap.size + 1) 30 U ∧ Hid (∀ j, j < k → sl j = true) ∧ Hid (Below w.heap.size w wr)) (fun kv _ => 8 - (intOf kv).toNat)
    case atStart => exact ⟨0, by omega, rfl, r1, q1, fun j hj => by omega, HB1⟩
    case round =>
      clear r1 q1 HB1
      obtain ⟨k, hk, rfl, r1, q1, HK, HB1⟩ := hrel
      by_cases hk8n : k < 8
      · have hk8 : (k : Int) < 8 := by omega
        have HKN : Hid (sl k = true → ∀ j, j < k + 1 → sl j = true) := fun h j hj => by
          by_cases e : j = k
          · subst e; exact h
          · exact HK.out j (by omega)
        have HR := Lib.hid (HBAD.out k hk8n)
        have HEA2 := Lib.hid (HEA.out k hk8n)
        have hx := HLT.out k
        obtain ⟨S, HS, pW, keepS⟩ := ex_gen wr
        have PR : Hid (∀ w', S w' → RowAt w' w.heap.size 24 (sv t A n c)) := fun w' h => r1.below (pW w' h) r1.lt
        have PQ : Hid (∀ w', S w' → RowAt w' (w.heap.size + 1) 30 U) := fun w' h => q1.below (pW w' h) q1.lt
        have cS : ∀ w', S w' → w'.cell? ⟨w.heap.size, 1, none⟩ = some (.slice A n c) := fun w' h => (HSH.out _ (PR.out w' h)).2
        have cE : ∀ w', S w' → w'.cell? ⟨w.heap.size + 1, k, none⟩ = some (.int .u64 ((e.getD k 0 : Nat) : Int)) := fun w' h => ((PQ.out w' h).cell k).trans HEA2.out
        have PB : Hid (∀ w', S w' → Below w.heap.size w w') := fun w' h => HB1.out.trans ((pW w' h).mono HB1.out.size)
        clear pW r1 q1
        by_cases hlt : k < n
        · have hFk := HF.out _ HB1.out
          obtain ⟨b, o, rfl, _, hr⟩ := hFk.at (k := k) (by rw [HN.out]; exact hlt)
          have hrg := hr k (by rw [HN.out]; exact hlt)
          have hl := (hFk.okAt (i := k) (by rw [HN.out]; exact hlt)).rows
          have HOK : Hid (∀ W, Below w.heap.size w W → FacOk W (fs.getD k f0)) := fun W h => (HF.out W h).okAt (by rw [HN.out]; exact hlt)
          clear hr hFk
          clear HB1
          have hsl := HSI.out k hlt
          have hv := HV.out k hlt
          have hkn : decide ((k : Int) < (n : Int)) = true := decide_eq_true (by omega)
          have hkn2 : decide ((n : Int) ≤ (k : Int)) = false := decide_eq_false (by omega)
          have hkn3 : decide (n ≤ k) = false := decide_eq_false (by omega)
          have HWF : Hid (∀ W, Below w.heap.size w W → Calls Tryz.prog 44 #[.agg (fv (fs.getD k f0)), .int .u64 ((e.getD k 0 : Nat) : Int)] W fun x w' => x = .returned (.bool (wordB (fs.getD k f0) (e.getD k 0))) ∧ Below W.heap.size W w') := fun W h => qword7_any _ hv _ hx W (HOK.out W h)
          have HRG : Hid (∀ W, Below w.heap.size w W → W.rangeAt b (o + k * 67) (fcells (fs.getD k f0))) := fun W h => (HF.out W h).rng (by rw [HN.out]; exact hlt)
          have pF := fun w' h => HRG.out w' (PB.out w' h)
          rw [hsl] at HR HKN
          clear hsl hv hx HOK HRG hrg
          generalize wordB (fs.getD k f0) (e.getD k 0) = bw at *
          generalize e.getD k 0 = x at *
          generalize fs.getD k f0 = f at *
          go_wp2_with fail
          cases bw
          all_goals
            refine wp_region_ord S [(0, true), (1, true), (2, true), (3, true), (4, true), (5, true), (6, true), (7, true), (8, true), (9, true), (10, true), (11, true), (12, true), (13, true), (14, false), (15, true), (16, true), (17, true), (18, true), (19, true), (20, true), (21, true), (22, true), (23, true), (24, true), (25, true), (26, true), (27, true), (28, true), (29, true)] (by kernel_rfl) (by kernel_rfl) rfl (by kernel_rfl) HS.out ?_
            generalize wr.drew = V at HS ⊢
            iterate 14
              (refine wpOrd_step (o := ?_) ?_ ?_; rotate_left 1; (simp only [List.getElem?_toArray, List.getElem?_cons_succ, List.getElem?_cons_zero]; with_reducible rfl))
              (first
                  | (refine wpOrd_skip (by rfl) ?_)
                  | (refine wpOrd_take (by rfl) (take_loadFacIn _ rfl _ _ rfl _ hl pF) ?_)
                  | (refine wpOrd_take (v := ?_) (by rfl) ?_ ?_; rotate_left 1; (intro wx hSx; have hc_0 := cS wx hSx; have hc_1 := cE wx hSx; go_simp; try with_reducible rfl)))
              (try simp only [Act.put, List.setIfInBounds_toArray, List.set_cons_zero, List.set_cons_succ])
            (refine wpOrd_solo (o := ?_) ?_ ?_; rotate_left 1; (simp only [List.getElem?_toArray, List.getElem?_cons_succ, List.getElem?_cons_zero]; with_reducible rfl))
            intro K hK
            go_simp
            go_at_call 44
            refine (HWF.out _ (PB.out _ HS.out)).mono ?_
            rintro e w5 ⟨rfl, hb⟩
            have hS := keepS _ _ HS.out hb
            clear HS
            have HS := Lib.hid hS; clear hS hb
            refine hK.out _ _ HS.out ?_
            clear hK K
            (try simp only [Act.put, List.setIfInBounds_toArray, List.set_cons_zero, List.set_cons_succ])
            iterate 15
              (refine wpOrd_step (o := ?_) ?_ ?_; rotate_left 1; (simp only [List.getElem?_toArray, List.getElem?_cons_succ, List.getElem?_cons_zero]; with_reducible rfl))
              (first
                  | (refine wpOrd_skip (by rfl) ?_)
                  | (refine wpOrd_take (v := ?_) (by rfl) ?_ ?_; rotate_left 1; (intro wx hSx; have hc_0 := cS wx hSx; have hc_1 := cE wx hSx; go_simp; try with_reducible rfl)))
              (try simp only [Act.put, List.setIfInBounds_toArray, List.set_cons_zero, List.set_cons_succ])
            refine wpOrd_done ?_
            have HB5 := Lib.hid (PB.out _ HS.out)
            have r5 := PR.out _ HS.out
            have q5 := PQ.out _ HS.out
            clear pF cS cE PB PR PQ HS keepS hkn hkn2 hkn3
          · have HR2 := Lib.hid (HR.out rfl)
            clear HR HKN
            go_wp2_with fail
            go_ret
            exact ⟨ret_eq (bool_eq HR2.out.symm), HB5.out⟩
          · have HKN2 := Lib.hid (HKN.out rfl)
            clear HR HKN
            go_wp2_with fail
            go_roundw
            case rel => exact ⟨k + 1, by omega, by go_num, r5, q5, HKN2, HB5⟩
            case measure => simp [intOf]; omega
        · clear HB1
          have hsl := HSO.out k hlt
          have hkn : decide ((k : Int) < (n : Int)) = false := decide_eq_false (by omega)
          have hkn2 : decide ((n : Int) ≤ (k : Int)) = true := decide_eq_true (by omega)
          have hkn3 : decide (n ≤ k) = true := decide_eq_true (by omega)
          rw [hsl] at HR HKN
          clear hsl
          have hxb : (((e.getD k 0 : Nat) : Int) != 0) = !(e.getD k 0 == 0) := by
            rw [Bool.eq_iff_iff]; simp
          generalize (e.getD k 0 == 0) = bw at *
          generalize e.getD k 0 = x at *
          go_wp2_with fail
          cases bw
          all_goals
            simp only [Bool.not_true, Bool.not_false] at hxb
            refine wp_region_ord S [(0, true), (1, true), (2, true), (3, true), (4, true), (5, true), (6, true), (7, true), (8, true), (9, true), (10, true), (11, true), (12, true), (13, true), (14, false), (15, true), (16, true), (17, true), (18, true), (19, true), (20, true), (21, true), (22, true), (23, true), (24, true), (25, true), (26, true), (27, true), (28, true), (29, true)] (by kernel_rfl) (by kernel_rfl) rfl (by kernel_rfl) HS.out ?_
            generalize wr.drew = V at HS ⊢
            iterate 14
              (refine wpOrd_step (o := ?_) ?_ ?_; rotate_left 1; (simp only [List.getElem?_toArray, List.getElem?_cons_succ, List.getElem?_cons_zero]; with_reducible rfl))
              (first
                  | (refine wpOrd_skip (by rfl) ?_)
                  | (refine wpOrd_take (v := ?_) (by rfl) ?_ ?_; rotate_left 1; (intro wx hSx; have hc_0 := cS wx hSx; have hc_1 := cE wx hSx; go_simp; try with_reducible rfl)))
              (try simp only [Act.put, List.setIfInBounds_toArray, List.set_cons_zero, List.set_cons_succ])
            (refine wpOrd_solo (o := ?_) ?_ ?_; rotate_left 1; (simp only [List.getElem?_toArray, List.getElem?_cons_succ, List.getElem?_cons_zero]; with_reducible rfl))
            intro K hK
            go_simp
            refine hK.out _ _ HS.out ?_
            clear hK K
            (try simp only [Act.put, List.setIfInBounds_toArray, List.set_cons_zero, List.set_cons_succ])
            iterate 15
              (refine wpOrd_step (o := ?_) ?_ ?_; rotate_left 1; (simp only [List.getElem?_toArray, List.getElem?_cons_succ, List.getElem?_cons_zero]; with_reducible rfl))
              (first
                  | (refine wpOrd_skip (by rfl) ?_)
                  | (refine wpOrd_take (v := ?_) (by rfl) ?_ ?_; rotate_left 1; (intro wx hSx; have hc_0 := cS wx hSx; have hc_1 := cE wx hSx; go_simp; try with_reducible rfl)))
              (try simp only [Act.put, List.setIfInBounds_toArray, List.set_cons_zero, List.set_cons_succ])
            refine wpOrd_done ?_
            have HB5 := Lib.hid (PB.out _ HS.out)
            have r5 := PR.out _ HS.out
            have q5 := PQ.out _ HS.out
            clear cS cE PB PR PQ HS keepS hkn hkn2 hkn3 hxb
          · have HR2 := Lib.hid (HR.out rfl)
            clear HR HKN
            go_wp2_with fail
            go_ret
            exact ⟨ret_eq (bool_eq HR2.out.symm), HB5.out⟩
          · have HKN2 := Lib.hid (HKN.out rfl)
            clear HR HKN
            go_wp2_with fail
            go_roundw
            case rel => exact ⟨k + 1, by omega, by go_num, r5, q5, HKN2, HB5⟩
            case measure => simp [intOf]; omega
      · have e1 : k = 8 := by omega
        subst e1
        have HE2 := Lib.hid (HEND.out HK.out)
        go_wp2_with fail
        go_ret
        exact ⟨ret_eq (bool_eq HE2.out.symm), HB1.out⟩
end Go.Proofs.YtpgkcddhpeoiiaaGreatDoor
