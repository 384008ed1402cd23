/-
  HasseBack: it returns true. Conditions: 64 words below 2^64; the table of math/bits in memory.
-/
import Derived.Test.YtopckkdmldhmlaaDoorHasseQ
import Derived.Deep.CutRange
namespace Go.Proofs.YtopckkdmldhmlaaDoor
open Go.RowKit RM

set_option maxRecDepth 8000 in
set_option maxHeartbeats 4000000 in
theorem hasseBack_law (n : Int) (l : List Nat) (hl : RW l) (lo hi : Int) (w : World) (hT : Tab w) :
    Calls Tryd.prog 7 #[.agg (rv n l), .agg #[.int .i64 lo, .int .i64 hi]] w fun e w' => e = .returned (.bool true) ∧ Below w.heap.size w w' := by
  have HLA : Hid (∀ w, Tab w → Calls Tryd.prog 16 #[.agg (rv n l)] w fun e w' => e = .returned (.bool (latB n l)) ∧ Below w.heap.size w w') := fun w h => hlattice_any n l hl w h
  have HT := Lib.hid hT; clear hT
  have r0 : RelAt ((w.alloc (.cells (rv n l) 25)).alloc (.cells #[.int .i64 lo, .int .i64 hi] 27)) w.heap.size n l := (RelAt.new w n l).alloc _
  have p0 : PairAt ((w.alloc (.cells (rv n l) 25)).alloc (.cells #[.int .i64 lo, .int .i64 hi] 27)) (w.heap.size + 1) lo hi := by
    have := PairAt.new (w.alloc (.cells (rv n l) 25)) lo hi
    simpa using this
  have hb : Below w.heap.size w ((w.alloc (.cells (rv n l) 25)).alloc (.cells #[.int .i64 lo, .int .i64 hi] 27)) := ((Below.refl _ _).alloc (Nat.le_refl _) _).alloc (by simp) _
  have HBx := Lib.hid hb; clear hb
  go_enter Tryd.func7, Tryd.ntmps7
  go_upto_region 1 with fail
  generalize (w.alloc (.cells (rv n l) 25)).alloc (.cells #[.int .i64 lo, .int .i64 hi] 27) = W at *
  have c0 := p0.c0
  have c1 := p0.c1
  go_quiet (fail)
  clear c0 c1 p0
  have rq := r0.drewN nq
  have HB0 := Lib.hid (bdrewN HBx.out nq)
  clear r0 HBx
  generalize W.drewN nq = wz at *
  go_wp2_with (refine wpList_loadRel (by rfl) _ rfl w.heap.size rfl n l hl rq ?_)
  refine (HLA.out _ (HT.out.below HB0.out)).mono ?_
  rintro e w1 ⟨rfl, hb⟩
  have r1 := rq.below hb rq.lt
  have HB1 := Lib.hid (HB0.out.trans (hb.mono HB0.out.size))
  clear hb rq HB0
  have hc0 := r1.cell0
  cases hlat : latB n l with
  | false =>
    go_wp2_with fail
    refine (halive_any _ (HT.out.below HB1.out)).mono ?_
    rintro e w2 ⟨rfl, hb⟩
    have HB2 := Lib.hid (HB1.out.trans (hb.mono HB1.out.size)); clear hb
    go_wp2_with fail
    go_ret
    exact ⟨rfl, HB2.out⟩
  | true =>
    have HLAT := Lib.hid hlat; clear hlat HLA
    rcases Int.lt_or_le lo 0 with h1 | h1
    · go_wp2_with fail
      refine (halive_any _ (HT.out.below HB1.out)).mono ?_
      rintro e w2 ⟨rfl, hb⟩
      have HB2 := Lib.hid (HB1.out.trans (hb.mono HB1.out.size)); clear hb
      go_wp2_with fail
      go_ret
      exact ⟨rfl, HB2.out⟩
    · rcases Int.lt_or_le hi 0 with h2 | h2
      · go_wp2_with fail
        refine (halive_any _ (HT.out.below HB1.out)).mono ?_
        rintro e w2 ⟨rfl, hb⟩
        have HB2 := Lib.hid (HB1.out.trans (hb.mono HB1.out.size)); clear hb
        go_wp2_with fail
        go_ret
        exact ⟨rfl, HB2.out⟩
      · rcases Int.lt_or_le lo n with h3 | h3
        · rcases Int.lt_or_le hi n with h4 | h4
          · have hn1 := pts_in (show 0 ≤ n by have := (lat_n HLAT.out).1; omega) (lat_n HLAT.out).2
            obtain ⟨A, rfl⟩ := Int.eq_ofNat_of_zero_le h1
            obtain ⟨B, rfl⟩ := Int.eq_ofNat_of_zero_le h2
            have hA : A < pts n := by omega
            have hB : B < pts n := by omega
            clear hn1
            have L := lat_of HLAT.out
            have hwa := wordN_lt n l A
            have hwb := wordN_lt n l B
            have e1 := word_sub L hA hB
            have e2 := word_meet L hA hB
            have e3 := word_raise L hA hB
            have e4 := pt_word L hA
            have hand : bits BinOp.and IntKind.u64 ((wordN n l A : Nat) : Int) ((wordN n l B : Nat) : Int) = ((wordN n l A &&& wordN n l B : Nat) : Int) := u64_and_nat _ _ hwa hwb
            have HWA : Hid (∀ w, Calls Tryd.prog 20 #[.agg (rv n l), .int .i64 (A : Int)] w fun e w' => e = .returned (.int .u64 ((wordN n l A : Nat) : Int)) ∧ Below w.heap.size w w') := fun w => hword_any n l hl A w
            have HWB : Hid (∀ w, Calls Tryd.prog 20 #[.agg (rv n l), .int .i64 (B : Int)] w fun e w' => e = .returned (.int .u64 ((wordN n l B : Nat) : Int)) ∧ Below w.heap.size w w') := fun w => hword_any n l hl B w
            have HJ : Hid (∀ w, Tab w → Calls Tryd.prog 8 #[.agg (rv n l), .int .i64 (A : Int), .int .i64 (B : Int)] w fun e w' => e = .returned (.tuple #[.int .i64 (((joinR n l A B).getD 0 : Nat) : Int), .bool (joinR n l A B).isSome]) ∧ Below w.heap.size w w') := fun w h => hjoin_any n l hl A B w h
            have HM : Hid (∀ w, Calls Tryd.prog 10 #[.agg (rv n l), .int .i64 (A : Int), .int .i64 (B : Int)] w fun e w' => e = .returned (.tuple #[.int .i64 (((meetR n l A B).getD 0 : Nat) : Int), .bool (meetR n l A B).isSome]) ∧ Below w.heap.size w w') := fun w => hmeet_any n l hl A B w
            have HP : Hid (∀ w, Calls Tryd.prog 18 #[.agg (rv n l), .int .u64 ((wordN n l A : Nat) : Int)] w fun e w' => e = .returned (.tuple #[.int .i64 (A : Int), .bool true]) ∧ Below w.heap.size w w') := fun w => by
              have h := hpoint_any n l hl (wordN n l A) w
              rw [e4] at h; exact h
            have HHS : Hid (∀ w, Calls Tryd.prog 26 #[.agg (rv n l), .int .i64 (A : Int), .int .i64 (B : Int)] w fun e w' => e = .returned (.bool (hasR n l A B)) ∧ Below w.heap.size w w') := fun w => rhas_any n l hl A B w
            have HSB : Hid (∀ w, Calls Tryd.prog 27 #[.int .u64 ((wordN n l A : Nat) : Int), .int .u64 ((wordN n l B : Nat) : Int)] w fun e w' => e = .returned (.bool (hasR n l A B)) ∧ w = w') := fun w => by
              have h := sub_any (wordN n l A) (wordN n l B) hwa hwb w
              rw [e1] at h; exact h
            have HWM : Hid (∀ w, Calls Tryd.prog 20 #[.agg (rv n l), .int .i64 (((meetR n l A B).getD 0 : Nat) : Int)] w fun e w' => e = .returned (.int .u64 ((wordN n l A &&& wordN n l B : Nat) : Int)) ∧ Below w.heap.size w w') := fun w => by rw [← e2]; exact hword_any n l hl _ w
            have HRS : Hid (∀ w, Tab w → Calls Tryd.prog 22 #[.agg (rv n l), .int .u64 ((wordN n l A : Nat) : Int), .int .u64 ((wordN n l B : Nat) : Int)] w fun e w' => e = .returned (.int .u64 ((wordN n l ((joinR n l A B).getD 0 : Nat) : Nat) : Int)) ∧ Below w.heap.size w w') := fun w h => by rw [← e3]; exact hraise_any n l hl _ _ hwa hwb w h
            have HWK : Hid (∀ w, Calls Tryd.prog 20 #[.agg (rv n l), .int .i64 (((joinR n l A B).getD 0 : Nat) : Int)] w fun e w' => e = .returned (.int .u64 ((wordN n l ((joinR n l A B).getD 0 : Nat) : Nat) : Int)) ∧ Below w.heap.size w w') := fun w => hword_any n l hl _ w
            clear e1 e2 e3 e4 L hA hB HLAT hwa hwb
            generalize hasR n l A B = hs at *
            generalize wordN n l ((joinR n l A B).getD 0 : Nat) = x at *
            generalize wordN n l A &&& wordN n l B = y at *
            generalize wordN n l A = u at *
            generalize wordN n l B = v at *
            generalize (joinR n l A B).getD 0 = k at *
            generalize (joinR n l A B).isSome = q1 at *
            generalize (meetR n l A B).getD 0 = m at *
            generalize (meetR n l A B).isSome = q2 at *
            go_wp2_with fail
            clear hc0
            obtain ⟨S, HS, pW, keepS⟩ := ex_gen w1
            have pR := fun w' h => r1.below (pW w' h) r1.lt
            have PB : Hid (∀ w', S w' → Below w.heap.size w w') := fun w' h => HB1.out.trans ((pW w' h).mono HB1.out.size)
            clear pW r1 HB1
            refine wp_region_ord S [(0, true), (1, true), (3, true), (4, true), (2, false), (5, false), (6, true), (7, true)] (by kernel_rfl) (by kernel_rfl) rfl (by kernel_rfl) HS.out ?_
            generalize w1.drew = V at HS ⊢
            iterate 4
              (refine wpOrd_step (o := ?_) ?_ ?_; rotate_left 1; (simp only [List.getElem?_toArray, List.getElem?_cons_succ, List.getElem?_cons_zero]; with_reducible rfl))
              (first
                  | (refine wpOrd_skip (by rfl) ?_)
                  | (refine wpOrd_take (by rfl) (take_loadRel _ rfl _ rfl _ _ hl pR) ?_)
                  | (refine wpOrd_take (v := ?_) (by rfl) ?_ ?_; rotate_left 1; (intro wx hSx; go_simp; try with_reducible rfl)))
              (try simp only [Act.put, List.setIfInBounds_toArray, List.set_cons_zero, List.set_cons_succ])
            (refine wpOrd_solo (o := ?_) ?_ ?_; rotate_left 1; (simp only [List.getElem?_toArray, List.getElem?_cons_succ, List.getElem?_cons_zero]; with_reducible rfl))
            intro K hK
            go_simp
            go_at_call 20
            refine (HWA.out _).mono ?_
            rintro e w2 ⟨rfl, hb⟩
            have hS := keepS _ _ HS.out hb
            clear HS
            have HS := Lib.hid hS; clear hS hb
            refine hK.out _ _ HS.out ?_
            clear hK K
            (try simp only [Act.put, List.setIfInBounds_toArray, List.set_cons_zero, List.set_cons_succ])
            (refine wpOrd_solo (o := ?_) ?_ ?_; rotate_left 1; (simp only [List.getElem?_toArray, List.getElem?_cons_succ, List.getElem?_cons_zero]; with_reducible rfl))
            intro K hK
            go_simp
            go_at_call 20
            refine (HWB.out _).mono ?_
            rintro e w3 ⟨rfl, hb⟩
            have hS := keepS _ _ HS.out hb
            clear HS
            have HS := Lib.hid hS; clear hS hb
            refine hK.out _ _ HS.out ?_
            clear hK K
            (try simp only [Act.put, List.setIfInBounds_toArray, List.set_cons_zero, List.set_cons_succ])
            iterate 2
              (refine wpOrd_step (o := ?_) ?_ ?_; rotate_left 1; (simp only [List.getElem?_toArray, List.getElem?_cons_succ, List.getElem?_cons_zero]; with_reducible rfl))
              (first
                  | (refine wpOrd_skip (by rfl) ?_)
                  | (refine wpOrd_take (v := ?_) (by rfl) ?_ ?_; rotate_left 1; (intro wx hSx; go_simp; try with_reducible rfl)))
              (try simp only [Act.put, List.setIfInBounds_toArray, List.set_cons_zero, List.set_cons_succ])
            refine wpOrd_done ?_
            have r3 := pR _ HS.out
            have HB3 := Lib.hid (PB.out _ HS.out)
            clear pR PB HS keepS S
            go_wp2_with (refine wpList_loadRel (by rfl) _ rfl w.heap.size rfl n l hl r3 ?_)
            refine (HJ.out _ (HT.out.below HB3.out)).mono ?_
            rintro e w4 ⟨rfl, hb⟩
            have r4 := r3.below hb r3.lt
            have HB4 := Lib.hid (HB3.out.trans (hb.mono HB3.out.size))
            clear hb r3 HB3
            go_wp2_with (refine wpList_loadRel (by rfl) _ rfl w.heap.size rfl n l hl r4 ?_)
            refine (HM.out _).mono ?_
            rintro e w5 ⟨rfl, hb⟩
            have r5 := r4.below hb r4.lt
            have HB5 := Lib.hid (HB4.out.trans (hb.mono HB4.out.size))
            clear hb r4 HB4
            go_wp2_with (refine wpList_loadRel (by rfl) _ rfl w.heap.size rfl n l hl r5 ?_)
            refine (HP.out _).mono ?_
            rintro e w6 ⟨rfl, hb⟩
            have r6 := r5.below hb r5.lt
            have HB6 := Lib.hid (HB5.out.trans (hb.mono HB5.out.size))
            clear hb r5 HB5
            go_wp2_with fail
            obtain ⟨S, HS, pW, keepS⟩ := ex_gen w6
            have pR := fun w' h => r6.below (pW w' h) r6.lt
            have PB : Hid (∀ w', S w' → Below w.heap.size w w') := fun w' h => HB6.out.trans ((pW w' h).mono HB6.out.size)
            clear pW r6 HB6
            cases hs
            all_goals
              refine wp_region_ord S [(0, true), (1, true), (2, true), (3, true), (4, true), (5, true), (6, true), (7, true), (8, true), (9, true), (11, true), (12, true), (10, false), (13, false), (14, true), (15, true), (16, true), (17, true), (18, true), (20, true), (21, true), (22, true), (19, false), (23, true), (24, true), (25, true), (26, true), (27, true), (28, true), (30, true), (31, true), (29, false), (32, false), (33, true), (34, true), (35, true), (36, false), (37, true), (38, true)] (by kernel_rfl) (by kernel_rfl) rfl (by kernel_rfl) HS.out ?_
              generalize w6.drew = V2 at HS ⊢
              iterate 12
                (refine wpOrd_step (o := ?_) ?_ ?_; rotate_left 1; (simp only [List.getElem?_toArray, List.getElem?_cons_succ, List.getElem?_cons_zero]; with_reducible rfl))
                (first
                    | (refine wpOrd_skip (by rfl) ?_)
                    | (refine wpOrd_take (by rfl) (take_loadRel _ rfl _ rfl _ _ hl pR) ?_)
                    | (refine wpOrd_take (v := ?_) (by rfl) ?_ ?_; rotate_left 1; (intro wx hSx; go_simp; try with_reducible rfl)))
                (try simp only [Act.put, List.setIfInBounds_toArray, List.set_cons_zero, List.set_cons_succ])
              (refine wpOrd_solo (o := ?_) ?_ ?_; rotate_left 1; (simp only [List.getElem?_toArray, List.getElem?_cons_succ, List.getElem?_cons_zero]; with_reducible rfl))
              intro K hK
              go_simp
              go_at_call 26
              refine (HHS.out _).mono ?_
              rintro e w7 ⟨rfl, hb⟩
              have hS := keepS _ _ HS.out hb
              clear HS
              have HS := Lib.hid hS; clear hS hb
              refine hK.out _ _ HS.out ?_
              clear hK K
              (try simp only [Act.put, List.setIfInBounds_toArray, List.set_cons_zero, List.set_cons_succ])
              (refine wpOrd_solo (o := ?_) ?_ ?_; rotate_left 1; (simp only [List.getElem?_toArray, List.getElem?_cons_succ, List.getElem?_cons_zero]; with_reducible rfl))
              intro K hK
              go_simp
              go_at_call 27
              refine (HSB.out _).mono ?_
              rintro e w' ⟨rfl, rfl⟩
              refine hK.out _ _ HS.out ?_
              clear hK K
              (try simp only [Act.put, List.setIfInBounds_toArray, List.set_cons_zero, List.set_cons_succ])
              iterate 8
                (refine wpOrd_step (o := ?_) ?_ ?_; rotate_left 1; (simp only [List.getElem?_toArray, List.getElem?_cons_succ, List.getElem?_cons_zero]; with_reducible rfl))
                (first
                    | (refine wpOrd_skip (by rfl) ?_)
                    | (refine wpOrd_take (by rfl) (take_loadRel _ rfl _ rfl _ _ hl pR) ?_)
                    | (refine wpOrd_take (v := ?_) (by rfl) ?_ ?_; rotate_left 1; (intro wx hSx; go_simp; try with_reducible rfl)))
                (try simp only [Act.put, List.setIfInBounds_toArray, List.set_cons_zero, List.set_cons_succ])
              (refine wpOrd_solo (o := ?_) ?_ ?_; rotate_left 1; (simp only [List.getElem?_toArray, List.getElem?_cons_succ, List.getElem?_cons_zero]; with_reducible rfl))
              intro K hK
              go_simp
              go_at_call 20
              refine (HWM.out _).mono ?_
              rintro e w8 ⟨rfl, hb⟩
              have hS := keepS _ _ HS.out hb
              clear HS
              have HS := Lib.hid hS; clear hS hb
              refine hK.out _ _ HS.out ?_
              clear hK K
              (try simp only [Act.put, List.setIfInBounds_toArray, List.set_cons_zero, List.set_cons_succ])
              iterate 8
                (refine wpOrd_step (o := ?_) ?_ ?_; rotate_left 1; (simp only [List.getElem?_toArray, List.getElem?_cons_succ, List.getElem?_cons_zero]; with_reducible rfl))
                (first
                    | (refine wpOrd_skip (by rfl) ?_)
                    | (refine wpOrd_take (by rfl) (take_loadRel _ rfl _ rfl _ _ hl pR) ?_)
                    | (refine wpOrd_take (v := ?_) (by rfl) ?_ ?_; rotate_left 1; (intro wx hSx; go_simp; try with_reducible rfl)))
                (try simp only [Act.put, List.setIfInBounds_toArray, List.set_cons_zero, List.set_cons_succ])
              (refine wpOrd_solo (o := ?_) ?_ ?_; rotate_left 1; (simp only [List.getElem?_toArray, List.getElem?_cons_succ, List.getElem?_cons_zero]; with_reducible rfl))
              intro K hK
              go_simp
              go_at_call 22
              refine (HRS.out _ (HT.out.below (PB.out _ HS.out))).mono ?_
              rintro e w9 ⟨rfl, hb⟩
              have hS := keepS _ _ HS.out hb
              clear HS
              have HS := Lib.hid hS; clear hS hb
              refine hK.out _ _ HS.out ?_
              clear hK K
              (try simp only [Act.put, List.setIfInBounds_toArray, List.set_cons_zero, List.set_cons_succ])
              (refine wpOrd_solo (o := ?_) ?_ ?_; rotate_left 1; (simp only [List.getElem?_toArray, List.getElem?_cons_succ, List.getElem?_cons_zero]; with_reducible rfl))
              intro K hK
              go_simp
              go_at_call 20
              refine (HWK.out _).mono ?_
              rintro e w10 ⟨rfl, hb⟩
              have hS := keepS _ _ HS.out hb
              clear HS
              have HS := Lib.hid hS; clear hS hb
              refine hK.out _ _ HS.out ?_
              clear hK K
              (try simp only [Act.put, List.setIfInBounds_toArray, List.set_cons_zero, List.set_cons_succ])
              iterate 3
                (refine wpOrd_step (o := ?_) ?_ ?_; rotate_left 1; (simp only [List.getElem?_toArray, List.getElem?_cons_succ, List.getElem?_cons_zero]; with_reducible rfl))
                (first
                    | (refine wpOrd_skip (by rfl) ?_)
                    | (refine wpOrd_take (v := ?_) (by rfl) ?_ ?_; rotate_left 1; (intro wx hSx; go_simp; try with_reducible rfl)))
                (try simp only [Act.put, List.setIfInBounds_toArray, List.set_cons_zero, List.set_cons_succ])
              (refine wpOrd_solo (o := ?_) ?_ ?_; rotate_left 1; (simp only [List.getElem?_toArray, List.getElem?_cons_succ, List.getElem?_cons_zero]; with_reducible rfl))
              intro K hK
              go_simp
              go_at_call 12
              refine (halive_any _ (HT.out.below (PB.out _ HS.out))).mono ?_
              rintro e w11 ⟨rfl, hb⟩
              have hS := keepS _ _ HS.out hb
              clear HS
              have HS := Lib.hid hS; clear hS hb
              refine hK.out _ _ HS.out ?_
              clear hK K
              (try simp only [Act.put, List.setIfInBounds_toArray, List.set_cons_zero, List.set_cons_succ])
              iterate 2
                (refine wpOrd_step (o := ?_) ?_ ?_; rotate_left 1; (simp only [List.getElem?_toArray, List.getElem?_cons_succ, List.getElem?_cons_zero]; with_reducible rfl))
                (first
                    | (refine wpOrd_skip (by rfl) ?_)
                    | (refine wpOrd_take (v := ?_) (by rfl) ?_ ?_; rotate_left 1; (intro wx hSx; go_simp; try with_reducible rfl)))
                (try simp only [Act.put, List.setIfInBounds_toArray, List.set_cons_zero, List.set_cons_succ])
              refine wpOrd_done ?_
              have HB11 := Lib.hid (PB.out _ HS.out)
              clear pR PB HS keepS
              go_wp2_with fail
              go_ret
              exact ⟨rfl, HB11.out⟩
          · go_wp2_with fail
            refine (halive_any _ (HT.out.below HB1.out)).mono ?_
            rintro e w2 ⟨rfl, hb⟩
            have HB2 := Lib.hid (HB1.out.trans (hb.mono HB1.out.size)); clear hb
            go_wp2_with fail
            go_ret
            exact ⟨rfl, HB2.out⟩
        · go_wp2_with fail
          refine (halive_any _ (HT.out.below HB1.out)).mono ?_
          rintro e w2 ⟨rfl, hb⟩
          have HB2 := Lib.hid (HB1.out.trans (hb.mono HB1.out.size)); clear hb
          go_wp2_with fail
          go_ret
          exact ⟨rfl, HB2.out⟩
end Go.Proofs.YtopckkdmldhmlaaDoor
