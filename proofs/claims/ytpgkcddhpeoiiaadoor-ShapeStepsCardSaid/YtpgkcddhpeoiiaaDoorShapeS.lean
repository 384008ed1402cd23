/-
  ShapeSteps: it returns true. Conditions: a slice of factors and a slice of elements in memory, eight words below 2^64 each; the table of math/bits in memory.
-/
import Derived.Test.YtpgkcddhpeoiiaaDoorShapeJ
import Derived.Test.YtpgkcddhpeoiiaaDoorShapeT
namespace Go.Proofs.YtpgkcddhpeoiiaaDoor
open Go.RowKit RM

set_option maxRecDepth 20000 in
set_option maxHeartbeats 8000000 in
theorem shapeSteps_law (t : Bool) (A : Option Addr) (c : Nat) (fs : List Fac) (Al : Option Addr) (cl : Nat) (es : List (List Nat)) (w : World) (hT : Tab w) (hF : Facs w A fs) (hE : ∀ e ∈ es, EW e) (hL : Sl w w.heap.size Al (escells es)) :
    Calls Tryd.prog 4 #[.agg (sv t A fs.length c), .slice Al es.length cl] w fun e w' => e = .returned (.bool true) ∧ Below w.heap.size w w' := by
  have z8 := EW.zeros
  have r0 := RowAt.new w 24 (sv t A fs.length c)
  have HB0 : Hid (Below w.heap.size w (w.alloc (.cells (sv t A fs.length c) 24))) := (Below.refl _ _).alloc (Nat.le_refl _) _
  have HBG : Hid (∀ W, Below w.heap.size w W → Calls Tryd.prog 5 #[.agg (sv t A fs.length c)] W fun x w' => x = .returned (.bool (bigB fs)) ∧ Below W.heap.size W w') := fun W h => big_any t A c fs W (hF.below h)
  have HRI : Hid (∀ W, Below w.heap.size w W → Calls Tryd.prog 10 #[.agg (sv t A fs.length c)] W fun x w' => x = .returned (.bool (rightS t fs)) ∧ Below W.heap.size W w') := fun W h => sright_any t A c fs W (hT.below h) (hF.below h)
  have HBO : Hid (∀ W, Below w.heap.size w W → Calls Tryd.prog 11 #[.agg (sv t A fs.length c)] W fun x w' => x = .returned (.agg (uv (endE t fs botW))) ∧ Below W.heap.size W w') := fun W h => sbottomE_any t A c fs W (hT.below h) (hF.below h)
  have HTO : Hid (∀ W, Below w.heap.size w W → Calls Tryd.prog 13 #[.agg (sv t A fs.length c)] W fun x w' => x = .returned (.agg (uv (endE t fs topW))) ∧ Below W.heap.size W w') := fun W h => stopE_any t A c fs W (hT.below h) (hF.below h)
  have HFI : Hid (∀ e, EW e → ∀ W, Below w.heap.size w W → Calls Tryd.prog 12 #[.agg (sv t A fs.length c), .agg (uv e)] W fun x w' => x = .returned (.bool (fitsE t fs e)) ∧ Below W.heap.size W w') := fun e he W h => sfitsE_any t A c fs e he W (hT.below h) (hF.below h)
  have HJN : Hid (∀ a b, EW a → EW b → ∀ W, Below w.heap.size w W → Calls Tryd.prog 14 #[.agg (sv t A fs.length c), .agg (uv a), .agg (uv b)] W fun x w' => x = .returned (.agg (uv (joinE fs a b))) ∧ Below W.heap.size W w') := fun a b ha hb W h => sjoin_any t A c fs a b ha hb W (hT.below h) (hF.below h)
  have HHE : Hid (∀ W, Below w.heap.size w W → Calls Tryd.prog 15 #[.agg (sv t A fs.length c)] W fun x w' => x = .returned (.int .i64 ((heightE t fs : Nat) : Int)) ∧ Below W.heap.size W w') := fun W h => sheightE_any t A c fs W (hT.below h) (hF.below h)
  have HAL : Hid (∀ W, Below w.heap.size w W → Calls Tryd.prog 6 #[] W fun x w' => x = .returned (.bool true) ∧ Below W.heap.size W w') := fun W h => alive7_any W (hT.below h)
  have HL : Hid (∀ W, Below w.heap.size w W → Sl W w.heap.size Al (escells es)) := fun W h => Sl.below hL h
  have HE := Lib.hid hE
  have HEB : Hid (EW (endE t fs botW)) := endE_ew t fs botW_lt
  have HET : Hid (EW (endE t fs topW)) := endE_ew t fs topW_lt
  have HFB : Hid (rightS t fs = true → fitsE t fs (endE t fs botW) = true) := fits_bot
  have HFT : Hid (rightS t fs = true → fitsE t fs (endE t fs topW) = true) := fits_top
  have HHT : Hid (∀ e, EW e → fitsE t fs e = true → rankE fs e ≤ heightE t fs) := fun e h1 h2 => rank_le h1 h2
  clear hF hT hL hE
  generalize endE t fs botW = bo at *
  generalize endE t fs topW = tp at *
  generalize fs.length = n at *
  generalize hm : es.length = m at *
  have HM := Lib.hid hm; clear hm
  go_enter Tryd.func4, Tryd.ntmps4
  go_upto_region 1 with fail
  generalize w.alloc (.cells (sv t A n c) 24) = w0 at *
  go_wp2_with (refine wpList_loadShape (by rfl) _ rfl w.heap.size rfl t A n c r0 ?_)
  refine (HBG.out _ HB0.out).mono ?_
  rintro e w1 ⟨rfl, hb⟩
  have r1 := r0.below hb r0.lt
  have HB1 := Lib.hid (HB0.out.trans (hb.mono HB0.out.size))
  clear hb r0 HB0
  cases hbg : bigB fs with
  | true =>
    go_wp2_with fail
    refine (HAL.out _ HB1.out).mono ?_
    rintro e w9 ⟨rfl, hb⟩
    have HB9 := Lib.hid (HB1.out.trans (hb.mono HB1.out.size)); clear hb
    go_wp2_with fail
    go_ret
    exact ⟨rfl, HB9.out⟩
  | false =>
    go_wp2_with (refine wpList_loadShape (by rfl) _ rfl w.heap.size rfl t A n c r1 ?_)
    refine (HRI.out _ HB1.out).mono ?_
    rintro e w2 ⟨rfl, hb⟩
    have r2 := r1.below hb r1.lt
    have HB2 := Lib.hid (HB1.out.trans (hb.mono HB1.out.size))
    clear hb r1 HB1
    cases hri : rightS t fs with
    | false =>
      go_wp2_with fail
      refine (HAL.out _ HB2.out).mono ?_
      rintro e w9 ⟨rfl, hb⟩
      have HB9 := Lib.hid (HB2.out.trans (hb.mono HB2.out.size)); clear hb
      go_wp2_with fail
      go_ret
      exact ⟨rfl, HB9.out⟩
    | true =>
      by_cases h40 : 40 < m
      · go_wp2_with fail
        refine (HAL.out _ HB2.out).mono ?_
        rintro e w9 ⟨rfl, hb⟩
        have HB9 := Lib.hid (HB2.out.trans (hb.mono HB2.out.size)); clear hb
        go_wp2_with fail
        go_ret
        exact ⟨rfl, HB9.out⟩
      · have h41 : m ≤ 40 := by omega
        clear h40 HBG HRI hbg
        have HFB2 := Lib.hid (HFB.out hri)
        have HFT2 := Lib.hid (HFT.out hri)
        have HFI1 := Lib.hid (HFI.out bo HEB.out)
        have HFI2 := Lib.hid (HFI.out tp HET.out)
        rw [HFB2.out] at HFI1
        rw [HFT2.out] at HFI2
        have heb := HEB.out
        have H41 := Lib.hid h41
        clear hri HFB HFT
        go_wp2_with (refine wpList_loadShape (by rfl) _ rfl w.heap.size rfl t A n c r2 ?_)
        refine (HBO.out _ HB2.out).mono ?_
        rintro e w3 ⟨rfl, hb⟩
        have r3 := r2.below hb r2.lt
        have HB3 := Lib.hid (HB2.out.trans (hb.mono HB2.out.size))
        clear hb r2 HB2
        go_wp2_with (refine wpList_storeElem (by rfl) _ _ rfl w3.heap.size rfl bo heb rfl (List.replicate 8 0) z8 (by rw [← zero_elem]; exact RowAt.new _ _ _) ?_; intro w4 p4 he; have hs3 := r3.lt; have r4 := (r3.alloc _).other he (by omega); have HB4 := Lib.hid (below_made HB3.out HB3.out.size he); clear he r3 HB3)
        have hB6 : w.heap.size ≤ w3.heap.size := by omega
        have hB5 : w.heap.size ≠ w3.heap.size := by omega
        generalize w3.heap.size = g5 at *
        clear hs3
        obtain ⟨S, HS, pW, keepS⟩ := ex_gen w4
        have pR := fun w' h => r4.below (pW w' h) r4.lt
        have pE := fun w' h => p4.below (pW w' h) p4.lt
        have PB : Hid (∀ w', S w' → Below w.heap.size w w') := fun w' h => HB4.out.trans ((pW w' h).mono HB4.out.size)
        have PR := Lib.hid pR; have PE := Lib.hid pE
        clear pW r4 p4 HB4
        refine wp_region_ord S [(0, true), (1, true), (2, false), (3, true), (4, true), (5, true), (6, true), (7, false), (8, false), (9, true), (10, true)] (by kernel_rfl) (by kernel_rfl) rfl (by kernel_rfl) HS.out ?_
        generalize w4.drew = V at HS ⊢
        iterate 2
          (refine wpOrd_step (o := ?_) ?_ ?_; rotate_left 1; (simp only [List.getElem?_toArray, List.getElem?_cons_succ, List.getElem?_cons_zero]; with_reducible rfl))
          (first
              | (refine wpOrd_skip (by rfl) ?_)
              | (refine wpOrd_take (by rfl) (take_loadShape _ rfl _ rfl _ _ _ _ pR) ?_)
              | (refine wpOrd_take (by rfl) (take_loadElem _ rfl _ rfl _ heb pE) ?_)
              | (refine wpOrd_take (v := ?_) (by rfl) ?_ ?_; rotate_left 1; (intro wx hSx; go_simp; try with_reducible rfl)))
          (try simp only [Act.put, List.setIfInBounds_toArray, List.set_cons_zero, List.set_cons_succ])
        (refine wpOrd_solo (o := ?_) ?_ ?_; rotate_left 1; (simp only [List.getElem?_toArray, List.getElem?_cons_succ, List.getElem?_cons_zero]; with_reducible rfl))
        intro K hK
        go_simp
        go_at_call 12
        refine (HFI1.out _ (PB.out _ HS.out)).mono ?_
        rintro e w5 ⟨rfl, hb⟩
        have hS := keepS _ _ HS.out hb
        clear HS
        have HS := Lib.hid hS; clear hS hb
        refine hK.out _ _ HS.out ?_
        clear hK K
        (try simp only [Act.put, List.setIfInBounds_toArray, List.set_cons_zero, List.set_cons_succ])
        iterate 4
          (refine wpOrd_step (o := ?_) ?_ ?_; rotate_left 1; (simp only [List.getElem?_toArray, List.getElem?_cons_succ, List.getElem?_cons_zero]; with_reducible rfl))
          (first
              | (refine wpOrd_skip (by rfl) ?_)
              | (refine wpOrd_take (by rfl) (take_loadShape _ rfl _ rfl _ _ _ _ pR) ?_)
              | (refine wpOrd_take (v := ?_) (by rfl) ?_ ?_; rotate_left 1; (intro wx hSx; go_simp; try with_reducible rfl)))
          (try simp only [Act.put, List.setIfInBounds_toArray, List.set_cons_zero, List.set_cons_succ])
        (refine wpOrd_solo (o := ?_) ?_ ?_; rotate_left 1; (simp only [List.getElem?_toArray, List.getElem?_cons_succ, List.getElem?_cons_zero]; with_reducible rfl))
        intro K hK
        go_simp
        go_at_call 13
        refine (HTO.out _ (PB.out _ HS.out)).mono ?_
        rintro e w6 ⟨rfl, hb⟩
        have hS := keepS _ _ HS.out hb
        clear HS
        have HS := Lib.hid hS; clear hS hb
        refine hK.out _ _ HS.out ?_
        clear hK K
        (try simp only [Act.put, List.setIfInBounds_toArray, List.set_cons_zero, List.set_cons_succ])
        (refine wpOrd_solo (o := ?_) ?_ ?_; rotate_left 1; (simp only [List.getElem?_toArray, List.getElem?_cons_succ, List.getElem?_cons_zero]; with_reducible rfl))
        intro K hK
        go_simp
        go_at_call 12
        refine (HFI2.out _ (PB.out _ HS.out)).mono ?_
        rintro e w7 ⟨rfl, hb⟩
        have hS := keepS _ _ HS.out hb
        clear HS
        have HS := Lib.hid hS; clear hS hb
        refine hK.out _ _ HS.out ?_
        clear hK K
        (try simp only [Act.put, List.setIfInBounds_toArray, List.set_cons_zero, List.set_cons_succ])
        iterate 2
          (refine wpOrd_step (o := ?_) ?_ ?_; rotate_left 1; (simp only [List.getElem?_toArray, List.getElem?_cons_succ, List.getElem?_cons_zero]; with_reducible rfl))
          (first
              | (refine wpOrd_skip (by rfl) ?_)
              | (refine wpOrd_take (v := ?_) (by rfl) ?_ ?_; rotate_left 1; (intro wx hSx; go_simp; try with_reducible rfl)))
          (try simp only [Act.put, List.setIfInBounds_toArray, List.set_cons_zero, List.set_cons_succ])
        refine wpOrd_done ?_
        have r8 := PR.out _ HS.out
        have p8 := PE.out _ HS.out
        have HB8 := Lib.hid (PB.out _ HS.out)
        clear pR pE PB PR PE HS keepS S
        go_wp2_with fail
        have HST0 : Hid (0 ≤ rankE fs bo) := Nat.zero_le _
        go_loopw [6, 7, 8] (fun sv' kv _ wr => ∃ (k st : Nat) (a : List Nat), k ≤ m ∧ kv = .int .i64 k ∧ sv' = .int .i64 st ∧ st ≤ k ∧ RowAt wr w.heap.size 24 (sv t A n c) ∧ RowAt wr g5 40 (uv a) ∧ EW a ∧ Hid (fitsE t fs a = true) ∧ Hid (st ≤ rankE fs a) ∧ Hid (Below w.heap.size w wr)) (fun _ kv _ _ => m - (intOf kv).toNat)
        case atStart => exact ⟨0, 0, bo, by omega, rfl, rfl, by omega, r8, p8, heb, HFB2, HST0, HB8⟩
        case round =>
          clear r8 p8 HB8 HST0
          obtain ⟨k, st, a, hk, rfl, rfl, hsk, r1, p1, hea, HFA, HST, HB1⟩ := hrel
          have h41 := H41.out
          by_cases hlt : k < m
          · have hsl := HL.out _ HB1.out
            obtain ⟨b, o, rfl, hrg⟩ := els_at hsl HE.out (k := k) (by rw [HM.out]; exact hlt)
            have hex : EW (es.getD k []) := HE.out _ (eget_mem (by rw [HM.out]; exact hlt))
            have HRG : Hid (∀ W, Below w.heap.size w W → W.rangeAt b (o + k * 8) (ucells (es.getD k []))) := fun W h => els_rng (HL.out W h) HE.out (by rw [HM.out]; exact hlt)
            have HFX0 : Hid (∀ W, Below w.heap.size w W → Calls Tryd.prog 12 #[.agg (sv t A n c), .agg (uv (es.getD k []))] W fun x w' => x = .returned (.bool (fitsE t fs (es.getD k []))) ∧ Below W.heap.size W w') := HFI.out _ hex
            have HJO := Lib.hid (HJN.out a _ hea hex)
            have hej := joinE_ew fs hea hex
            clear hsl hrg
            generalize es.getD k [] = x at *
            obtain ⟨S, HS, pW, keepS⟩ := ex_gen wr
            have pR := fun w' h => r1.below (pW w' h) r1.lt
            have PB : Hid (∀ w', S w' → Below w.heap.size w w') := fun w' h => HB1.out.trans ((pW w' h).mono HB1.out.size)
            have pX := fun w' h => HRG.out w' (PB.out w' h)
            have PR := Lib.hid pR
            have PE : Hid (∀ w', S w' → RowAt w' g5 40 (uv a)) := fun w' h => p1.below (pW w' h) p1.lt
            clear pW r1 p1 HB1
            go_wp2_with fail
            refine wp_region_ord S [(0, true), (1, true), (2, true), (3, true), (4, true), (5, false), (6, true)] (by kernel_rfl) (by kernel_rfl) rfl (by kernel_rfl) HS.out ?_
            generalize wr.drew = V at HS ⊢
            iterate 5
              (refine wpOrd_step (o := ?_) ?_ ?_; rotate_left 1; (simp only [List.getElem?_toArray, List.getElem?_cons_succ, List.getElem?_cons_zero]; with_reducible rfl))
              (first
                  | (refine wpOrd_skip (by rfl) ?_)
                  | (refine wpOrd_take (by rfl) (take_loadShape _ rfl _ rfl _ _ _ _ pR) ?_)
                  | (refine wpOrd_take (by rfl) (take_loadElemIn _ rfl _ _ rfl _ hex pX) ?_)
                  | (refine wpOrd_take (v := ?_) (by rfl) ?_ ?_; rotate_left 1; (intro wx hSx; go_simp; try with_reducible rfl)))
              (try simp only [Act.put, List.setIfInBounds_toArray, List.set_cons_zero, List.set_cons_succ])
            (refine wpOrd_solo (o := ?_) ?_ ?_; rotate_left 1; (simp only [List.getElem?_toArray, List.getElem?_cons_succ, List.getElem?_cons_zero]; with_reducible rfl))
            intro K hK
            go_simp
            go_at_call 12
            refine (HFX0.out _ (PB.out _ HS.out)).mono ?_
            rintro e w5 ⟨rfl, hb⟩
            have hS := keepS _ _ HS.out hb
            clear HS
            have HS := Lib.hid hS; clear hS hb
            refine hK.out _ _ HS.out ?_
            clear hK K
            (try simp only [Act.put, List.setIfInBounds_toArray, List.set_cons_zero, List.set_cons_succ])
            iterate 1
              (refine wpOrd_step (o := ?_) ?_ ?_; rotate_left 1; (simp only [List.getElem?_toArray, List.getElem?_cons_succ, List.getElem?_cons_zero]; with_reducible rfl))
              (first
                  | (refine wpOrd_skip (by rfl) ?_)
                  | (refine wpOrd_take (v := ?_) (by rfl) ?_ ?_; rotate_left 1; (intro wx hSx; go_simp; try with_reducible rfl)))
              (try simp only [Act.put, List.setIfInBounds_toArray, List.set_cons_zero, List.set_cons_succ])
            refine wpOrd_done ?_
            have r1 := PR.out _ HS.out
            have p1 := PE.out _ HS.out
            have HB1 := Lib.hid (PB.out _ HS.out)
            clear pR pX PB PR PE HS keepS S
            cases hfx : fitsE t fs x with
            | false =>
              go_wp2_with fail
              go_roundw
              case rel => exact ⟨k + 1, st, a, by omega, by go_num, rfl, by omega, r1, p1, hea, HFA, HST, HB1⟩
              case measure => simp [intOf]; omega
            | true =>
              have HFX := Lib.hid hfx
              have HFJ : Hid (fitsE t fs (joinE fs a x) = true) := fits_join HFA.out hfx
              clear hfx
              rename_i w5
              obtain ⟨wr, hwr⟩ : ∃ wr : World, wr = w5 := ⟨_, rfl⟩
              subst hwr
              have HSV : Hid (Below wr.heap.size wr wr.drew) := (Below.refl _ _).drew
              have pR : ∀ w', Below wr.heap.size wr w' → RowAt w' w.heap.size 24 (sv t A n c) := fun w' h => r1.below h r1.lt
              have pE : ∀ w', Below wr.heap.size wr w' → RowAt w' g5 40 (uv a) := fun w' h => p1.below h p1.lt
              have pX : ∀ w', Below wr.heap.size wr w' → w'.rangeAt b (o + k * 8) (ucells x) := fun w' h => HRG.out w' (HB1.out.trans (h.mono HB1.out.size))
              go_wp2_with fail
              refine wp_region_ot (fun w' => Below wr.heap.size wr w') (.take 0 (.take 1 (.take 2 (.take 3 (.take 4 (.take 5 (.two 6 (.solo 7 (.solo 8 .nil)) 7 (.solo 6 (.solo 8 .nil))))))))) (by kernel_rfl) (by kernel_rfl) rfl (by kernel_rfl) HSV.out ?_
              generalize wr.drew = V at HSV ⊢
              iterate 6
                (refine wpOT_step (o := ?_) ?_ ?_; rotate_left 1; (simp only [List.getElem?_toArray, List.getElem?_cons_succ, List.getElem?_cons_zero]; with_reducible rfl))
                (first
                    | (refine wpOT_skip (by rfl) ?_)
                    | (refine wpOT_take (by rfl) (take_loadShape _ rfl _ rfl _ _ _ _ pR) ?_)
                    | (refine wpOT_take (by rfl) (take_loadElem _ rfl _ rfl _ hea pE) ?_)
                    | (refine wpOT_take (by rfl) (take_loadElemIn _ rfl _ _ rfl _ hex pX) ?_)
                    | (refine wpOT_take (v := ?_) (by rfl) ?_ ?_; rotate_left 1; (intro wx hSx; go_simp; try with_reducible rfl)))
                (try simp only [Act.put, List.setIfInBounds_toArray, List.set_cons_zero, List.set_cons_succ])
              clear pR pE pX
              refine wpOT_two ?_ ?_
              · (refine wpOT_solo (o := ?_) ?_ ?_; rotate_left 1; (simp only [List.getElem?_toArray, List.getElem?_cons_succ, List.getElem?_cons_zero]; with_reducible rfl))
                intro K hK
                go_simp
                refine (HJO.out _ (HB1.out.trans (HSV.out.mono HB1.out.size))).mono ?_
                rintro e w5 ⟨rfl, hb⟩
                have HS5 := Lib.hid (HSV.out.trans (hb.mono HSV.out.size))
                clear hb
                refine hK.out _ _ HS5.out ?_
                clear hK K
                (try simp only [Act.put, List.setIfInBounds_toArray, List.set_cons_zero, List.set_cons_succ])
                (refine wpOT_solo (o := ?_) ?_ ?_; rotate_left 1; (simp only [List.getElem?_toArray, List.getElem?_cons_succ, List.getElem?_cons_zero]; with_reducible rfl))
                intro K hK
                go_simp
                rw [zero_elem]
                have y5 : RowAt (w5.alloc (.cells (uv (List.replicate 8 0)) 40)) w5.heap.size 40 (uv (List.replicate 8 0)) := RowAt.new _ _ _
                have HS6 := Lib.hid (HS5.out.alloc HS5.out.size (.cells (uv (List.replicate 8 0)) 40))
                have hg8 : wr.heap.size ≤ w5.heap.size := HS5.out.size
                refine hK.out _ _ HS6.out ?_
                clear hK K
                (try simp only [Act.put, List.setIfInBounds_toArray, List.set_cons_zero, List.set_cons_succ])
                generalize w5.alloc (.cells (uv (List.replicate 8 0)) 40) = w5a at *
                generalize w5.heap.size = g8 at *
                (refine wpOT_solo (o := ?_) ?_ ?_; rotate_left 1; (simp only [List.getElem?_toArray, List.getElem?_cons_succ, List.getElem?_cons_zero]; with_reducible rfl))
                intro K hK
                rw [if_pos (by rfl)]
                refine wp_store_row _ _ _ rfl g8 (uv (joinE fs a x)) rfl rfl _ _ y5 (einfo hej) (by rw [ev_size hej, ev_size z8]) (uv_one _) ?_
                have y9 := y5.setRow (uv (joinE fs a x))
                have he := Else.setRow w5a g8 (uv (joinE fs a x))
                have HS9 : Hid (Below wr.heap.size wr (w5a.setRow g8 (uv (joinE fs a x)))) := HS6.out.trans (he.below hg8)
                refine hK.out _ _ HS9.out ?_
                clear hK K he
                (try simp only [Act.put])
                refine wpOT_done ?_
                generalize w5a.setRow g8 (uv (joinE fs a x)) = w6 at *
                have r6 := r1.below HS9.out r1.lt
                have p6 := p1.below HS9.out p1.lt
                have HB6 := Lib.hid (HB1.out.trans (HS9.out.mono HB1.out.size))
                have hg59 : g5 ≠ g8 := by have := p1.lt; omega
                have hneq := fun W => run_neq_elem hej hea W
                clear HS9 hg8
                cases hd : decide (joinE fs a x = a) with
                | true =>
                  rw [hd] at hneq
                  have HJA := Lib.hid (of_decide_eq_true hd)
                  clear hd
                  go_wp2_with (first | (refine wpList_loadElem (by rfl) _ rfl g8 rfl _ hej y9 ?_) | (refine wpList_loadElem (by rfl) _ rfl g5 rfl _ hea p6 ?_) | (refine wpList_storeElem (by rfl) _ _ rfl g5 rfl _ hej rfl _ hea p6 ?_; intro w7 p7 he7; have r7 := r6.other he7 hB5; have HB7 := Lib.hid (HB6.out.trans (he7.below hB6)); clear he7 hneq))
                  go_roundw
                  case rel => exact ⟨k + 1, st, joinE fs a x, by omega, by go_num, rfl, by omega, r7, p7, hej, HFJ, (by show st ≤ rankE fs (joinE fs a x); rw [HJA.out]; exact HST.out), HB7⟩
                  case measure => simp [intOf]; omega
                | false =>
                  rw [hd] at hneq
                  have hja := of_decide_eq_false hd
                  have HRK : Hid (st + 1 ≤ rankE fs (joinE fs a x)) := Nat.le_trans (Nat.succ_le_succ HST.out) (step_rank hea hex HFA.out HFX.out hja)
                  clear hd hja
                  go_wp2_with (first | (refine wpList_loadElem (by rfl) _ rfl g8 rfl _ hej y9 ?_) | (refine wpList_loadElem (by rfl) _ rfl g5 rfl _ hea p6 ?_) | (refine wpList_storeElem (by rfl) _ _ rfl g5 rfl _ hej rfl _ hea p6 ?_; intro w7 p7 he7; have r7 := r6.other he7 hB5; have HB7 := Lib.hid (HB6.out.trans (he7.below hB6)); clear he7 hneq))
                  go_roundw
                  case rel => exact ⟨k + 1, st + 1, joinE fs a x, by omega, by go_num, by go_num, by omega, r7, p7, hej, HFJ, HRK, HB7⟩
                  case measure => simp [intOf]; omega
              · (refine wpOT_solo (o := ?_) ?_ ?_; rotate_left 1; (simp only [List.getElem?_toArray, List.getElem?_cons_succ, List.getElem?_cons_zero]; with_reducible rfl))
                intro K hK
                go_simp
                rw [zero_elem]
                have y4 : RowAt (V.alloc (.cells (uv (List.replicate 8 0)) 40)) V.heap.size 40 (uv (List.replicate 8 0)) := RowAt.new _ _ _
                have HS6 := Lib.hid (HSV.out.alloc HSV.out.size (.cells (uv (List.replicate 8 0)) 40))
                have hg8 : wr.heap.size ≤ V.heap.size := HSV.out.size
                refine hK.out _ _ HS6.out ?_
                clear hK K
                (try simp only [Act.put, List.setIfInBounds_toArray, List.set_cons_zero, List.set_cons_succ])
                clear HSV
                have HSV := HS6
                clear HS6
                generalize V.alloc (.cells (uv (List.replicate 8 0)) 40) = Va at *
                generalize V.heap.size = g8 at *
                (refine wpOT_solo (o := ?_) ?_ ?_; rotate_left 1; (simp only [List.getElem?_toArray, List.getElem?_cons_succ, List.getElem?_cons_zero]; with_reducible rfl))
                intro K hK
                go_simp
                refine (HJO.out _ (HB1.out.trans (HSV.out.mono HB1.out.size))).mono ?_
                rintro e w5 ⟨rfl, hb⟩
                have HS5 := Lib.hid (HSV.out.trans (hb.mono HSV.out.size))
                have y5 := y4.below hb y4.lt
                clear hb
                refine hK.out _ _ HS5.out ?_
                clear hK K
                (try simp only [Act.put, List.setIfInBounds_toArray, List.set_cons_zero, List.set_cons_succ])
                (refine wpOT_solo (o := ?_) ?_ ?_; rotate_left 1; (simp only [List.getElem?_toArray, List.getElem?_cons_succ, List.getElem?_cons_zero]; with_reducible rfl))
                intro K hK
                rw [if_pos (by rfl)]
                refine wp_store_row _ _ _ rfl g8 (uv (joinE fs a x)) rfl rfl _ _ y5 (einfo hej) (by rw [ev_size hej, ev_size z8]) (uv_one _) ?_
                have y9 := y5.setRow (uv (joinE fs a x))
                have he := Else.setRow w5 g8 (uv (joinE fs a x))
                have HS9 : Hid (Below wr.heap.size wr (w5.setRow g8 (uv (joinE fs a x)))) := HS5.out.trans (he.below hg8)
                refine hK.out _ _ HS9.out ?_
                clear hK K he
                (try simp only [Act.put])
                refine wpOT_done ?_
                generalize w5.setRow g8 (uv (joinE fs a x)) = w6 at *
                have r6 := r1.below HS9.out r1.lt
                have p6 := p1.below HS9.out p1.lt
                have HB6 := Lib.hid (HB1.out.trans (HS9.out.mono HB1.out.size))
                have hg59 : g5 ≠ g8 := by have := p1.lt; omega
                have hneq := fun W => run_neq_elem hej hea W
                clear HS9 hg8
                cases hd : decide (joinE fs a x = a) with
                | true =>
                  rw [hd] at hneq
                  have HJA := Lib.hid (of_decide_eq_true hd)
                  clear hd
                  go_wp2_with (first | (refine wpList_loadElem (by rfl) _ rfl g8 rfl _ hej y9 ?_) | (refine wpList_loadElem (by rfl) _ rfl g5 rfl _ hea p6 ?_) | (refine wpList_storeElem (by rfl) _ _ rfl g5 rfl _ hej rfl _ hea p6 ?_; intro w7 p7 he7; have r7 := r6.other he7 hB5; have HB7 := Lib.hid (HB6.out.trans (he7.below hB6)); clear he7 hneq))
                  go_roundw
                  case rel => exact ⟨k + 1, st, joinE fs a x, by omega, by go_num, rfl, by omega, r7, p7, hej, HFJ, (by show st ≤ rankE fs (joinE fs a x); rw [HJA.out]; exact HST.out), HB7⟩
                  case measure => simp [intOf]; omega
                | false =>
                  rw [hd] at hneq
                  have hja := of_decide_eq_false hd
                  have HRK : Hid (st + 1 ≤ rankE fs (joinE fs a x)) := Nat.le_trans (Nat.succ_le_succ HST.out) (step_rank hea hex HFA.out HFX.out hja)
                  clear hd hja
                  go_wp2_with (first | (refine wpList_loadElem (by rfl) _ rfl g8 rfl _ hej y9 ?_) | (refine wpList_loadElem (by rfl) _ rfl g5 rfl _ hea p6 ?_) | (refine wpList_storeElem (by rfl) _ _ rfl g5 rfl _ hej rfl _ hea p6 ?_; intro w7 p7 he7; have r7 := r6.other he7 hB5; have HB7 := Lib.hid (HB6.out.trans (he7.below hB6)); clear he7 hneq))
                  go_roundw
                  case rel => exact ⟨k + 1, st + 1, joinE fs a x, by omega, by go_num, by go_num, by omega, r7, p7, hej, HFJ, HRK, HB7⟩
                  case measure => simp [intOf]; omega
          · have e1 : k = m := by omega
            subst e1
            have HLE : Hid ((st : Int) ≤ ((heightE t fs : Nat) : Int)) := by
              have h1 := HST.out
              have h2 := HHT.out a hea HFA.out
              show (st : Int) ≤ ((heightE t fs : Nat) : Int)
              omega
            go_wp2_with (refine wpList_loadShape (by rfl) _ rfl w.heap.size rfl t A n c r1 ?_)
            refine (HHE.out _ HB1.out).mono ?_
            rintro e w2 ⟨rfl, hb⟩
            have r2 := r1.below hb r1.lt
            have HB2 := Lib.hid (HB1.out.trans (hb.mono HB1.out.size))
            have hle := HLE.out
            generalize heightE t fs = ht at *
            go_wp2_with fail
            refine (HAL.out _ HB2.out).mono ?_
            rintro e w9 ⟨rfl, hb⟩
            have HB9 := Lib.hid (HB2.out.trans (hb.mono HB2.out.size)); clear hb
            go_wp2_with fail
            go_ret
            exact ⟨rfl, HB9.out⟩
end Go.Proofs.YtpgkcddhpeoiiaaDoor
