/-
  ShapeTells: it returns true. Conditions: two slices of factors in memory; the table of math/bits in memory.
-/
import Derived.Test.YtpgkcddhpeoiiaaGreatDoorShapeN
import Derived.Test.YtpgkcddhpeoiiaaGreatDoorShapeV
import Derived.Test.YtpgkcddhpeoiiaaGreatDoorShapeW
namespace Go.Proofs.YtpgkcddhpeoiiaaGreatDoor
open Go.RowKit RM

set_option maxRecDepth 20000 in
set_option maxHeartbeats 4000000 in
theorem shapeTells_law (t : Bool) (A : Option Addr) (c : Nat) (fs : List Fac) (u : Bool) (B : Option Addr) (d : Nat) (gs : List Fac) (w : World) (hT : Tab w) (hF : Facs w A fs) (hG : Facs w B gs) :
    Calls Tryz.prog 3 #[.agg (sv t A fs.length c), .agg (sv u B gs.length d)] w fun e w' => e = .returned (.bool true) ∧ Below w.heap.size w w' := by
  have r0 : RowAt ((w.alloc (.cells (sv t A fs.length c) 24)).alloc (.cells (sv u B gs.length d) 24)) w.heap.size 24 (sv t A fs.length c) := (RowAt.new w _ _).alloc _
  have q0 : RowAt ((w.alloc (.cells (sv t A fs.length c) 24)).alloc (.cells (sv u B gs.length d) 24)) (w.heap.size + 1) 24 (sv u B gs.length d) := by
    have := RowAt.new (w.alloc (.cells (sv t A fs.length c) 24)) 24 (sv u B gs.length d)
    simpa using this
  have HB0 : Hid (Below w.heap.size w ((w.alloc (.cells (sv t A fs.length c) 24)).alloc (.cells (sv u B gs.length d) 24))) := ((Below.refl _ _).alloc (Nat.le_refl _) _).alloc (by simp) _
  have HBG : Hid (∀ W, Below w.heap.size w W → Calls Tryz.prog 6 #[.agg (sv t A fs.length c)] W fun x w' => x = .returned (.bool (bigB fs)) ∧ Below W.heap.size W w') := fun W h => big_any t A c fs W (hF.below h)
  have HBH : Hid (∀ W, Below w.heap.size w W → Calls Tryz.prog 6 #[.agg (sv u B gs.length d)] W fun x w' => x = .returned (.bool (bigB gs)) ∧ Below W.heap.size W w') := fun W h => big_any u B d gs W (hG.below h)
  have HAL : Hid (∀ W, Below w.heap.size w W → Calls Tryz.prog 7 #[] W fun x w' => x = .returned (.bool true) ∧ Below W.heap.size W w') := fun W h => alive7_any W (hT.below h)
  have HR1 : Hid (∀ W, Below w.heap.size w W → Calls Tryz.prog 8 #[.agg (sv t A fs.length c)] W fun x w' => x = .returned (.bool (rightS t fs)) ∧ Below W.heap.size W w') := fun W h => sright_any t A c fs W (hT.below h) (hF.below h)
  have HR2 : Hid (∀ W, Below w.heap.size w W → Calls Tryz.prog 9 #[.agg (sv t A fs.length c)] W fun x w' => x = .returned (.bool (rightS t fs)) ∧ Below W.heap.size W w') := fun W h => qright7_any t A c fs W (hF.below h)
  have HSA : Hid (bigB fs = false → ∀ W, Below w.heap.size w W → Calls Tryz.prog 10 #[.agg (sv t A fs.length c), .agg (sv u B gs.length d)] W fun x w' => x = .returned (.bool (sameS t u fs gs)) ∧ Below W.heap.size W w') := fun hb W h =>
    ssameS_any t u A B c d fs gs W (hF.below h) (hG.below h) (fun f hf => Nat.le_trans ((big_no hb).2 f hf) (by omega)) (Nat.le_trans (big_no hb).1 (by omega))
  have HSB : Hid (bigB fs = false → ∀ W, Below w.heap.size w W → Calls Tryz.prog 11 #[.agg (sv t A fs.length c), .agg (sv u B gs.length d)] W fun x w' => x = .returned (.bool (sameS t u fs gs)) ∧ Below W.heap.size W w') := fun hb W h =>
    qsameS_any t u A B c d fs gs W (hF.below h) (hG.below h) (fun f hf => Nat.le_trans ((big_no hb).2 f hf) (by omega)) (Nat.le_trans (big_no hb).1 (by omega))
  have HE1 : Hid (∀ W, Below w.heap.size w W → Calls Tryz.prog 12 #[.agg (sv t A fs.length c)] W fun x w' => x = .returned (.agg (uv (endE t fs botW))) ∧ Below W.heap.size W w') := fun W h => sbottomE_any t A c fs W (hT.below h) (hF.below h)
  have HE2 : Hid (∀ W, Below w.heap.size w W → Calls Tryz.prog 13 #[.agg (sv t A fs.length c), .bool false] W fun x w' => x = .returned (.agg (uv (endE t fs botW))) ∧ Below W.heap.size W w') := fun W h => qbottom7_any t A c fs W (hF.below h)
  have HT1 : Hid (∀ W, Below w.heap.size w W → Calls Tryz.prog 14 #[.agg (sv t A fs.length c)] W fun x w' => x = .returned (.agg (uv (endE t fs topW))) ∧ Below W.heap.size W w') := fun W h => stopE_any t A c fs W (hT.below h) (hF.below h)
  have HT2 : Hid (∀ W, Below w.heap.size w W → Calls Tryz.prog 13 #[.agg (sv t A fs.length c), .bool true] W fun x w' => x = .returned (.agg (uv (endE t fs topW))) ∧ Below W.heap.size W w') := fun W h => qtop7_any t A c fs W (hF.below h)
  have HH1 : Hid (∀ W, Below w.heap.size w W → Calls Tryz.prog 15 #[.agg (sv t A fs.length c)] W fun x w' => x = .returned (.int .i64 ((heightE t fs : Nat) : Int)) ∧ Below W.heap.size W w') := fun W h => sheightE_any t A c fs W (hT.below h) (hF.below h)
  have HH2 : Hid (∀ W, Below w.heap.size w W → Calls Tryz.prog 16 #[.agg (sv t A fs.length c)] W fun x w' => x = .returned (.int .i64 ((heightE t fs : Nat) : Int)) ∧ Below W.heap.size W w') := fun W h => qheight7_any t A c fs W (hF.below h)
  have he1 := endE_ew t fs botW_lt
  have he2 := endE_ew t fs topW_lt
  clear hF hG hT
  generalize endE t fs botW = e1 at *
  generalize endE t fs topW = e2 at *
  generalize heightE t fs = ht at *
  generalize rightS t fs = rt at *
  generalize sameS t u fs gs = sm at *
  generalize fs.length = n at *
  generalize gs.length = m at *
  go_enter Tryz.func3, Tryz.ntmps3
  go_upto_region 1 with fail
  generalize (w.alloc (.cells (sv t A n c) 24)).alloc (.cells (sv u B m d) 24) = w0 at *
  go_wp2_with (refine wpList_loadShape (by rfl) _ rfl w.heap.size rfl t A n c r0 ?_)
  refine (HBG.out _ HB0.out).mono ?_
  rintro e w1 ⟨rfl, hb⟩
  have r1 := r0.below hb r0.lt
  have q1 := q0.below hb q0.lt
  have HB1 := Lib.hid (HB0.out.trans (hb.mono HB0.out.size))
  clear hb r0 q0 HB0
  cases hbg : bigB fs with
  | true =>
    go_wp2_with fail
    refine (HAL.out _ HB1.out).mono ?_
    rintro e w9 ⟨rfl, hb⟩
    have HB9 := Lib.hid (HB1.out.trans (hb.mono HB1.out.size)); clear hb
    go_wp2_with fail
    go_ret
    exact ⟨rfl, HB9.out⟩
  | false =>
    go_wp2_with (refine wpList_loadShape (by rfl) _ rfl (w.heap.size + 1) rfl u B m d q1 ?_)
    refine (HBH.out _ HB1.out).mono ?_
    rintro e w2 ⟨rfl, hb⟩
    have r2 := r1.below hb r1.lt
    have q2 := q1.below hb q1.lt
    have HB2 := Lib.hid (HB1.out.trans (hb.mono HB1.out.size))
    clear hb r1 q1 HB1
    cases hbh : bigB gs with
    | true =>
      go_wp2_with fail
      refine (HAL.out _ HB2.out).mono ?_
      rintro e w9 ⟨rfl, hb⟩
      have HB9 := Lib.hid (HB2.out.trans (hb.mono HB2.out.size)); clear hb
      go_wp2_with fail
      go_ret
      exact ⟨rfl, HB9.out⟩
    | false =>
      have HS1 := Lib.hid (HSA.out hbg)
      have HS2 := Lib.hid (HSB.out hbg)
      clear hbg hbh HBG HBH HSA HSB
      obtain ⟨S, HS, pW, keepS⟩ := ex_gen w2
      have pR := fun w' h => r2.below (pW w' h) r2.lt
      have pQ := fun w' h => q2.below (pW w' h) q2.lt
      have PB : Hid (∀ w', S w' → Below w.heap.size w w') := fun w' h => HB2.out.trans ((pW w' h).mono HB2.out.size)
      clear pW r2 q2 HB2
      go_wp2_with fail
      refine wp_region_ord S [(0, true), (2, true), (1, false), (3, false), (4, true), (5, true), (6, true), (7, true), (9, true), (10, true), (8, false), (11, false), (12, true), (13, true), (14, true), (15, true), (17, true), (16, false), (18, false), (19, true), (20, true), (21, true), (22, true), (24, true), (23, false), (25, false), (26, true), (27, true), (28, true), (29, true), (31, true), (30, false), (32, false), (33, true), (34, true), (35, true), (36, false), (37, true), (38, true)] (by kernel_rfl) (by kernel_rfl) rfl (by kernel_rfl) HS.out ?_
      generalize w2.drew = V at HS ⊢
      iterate 2
        (refine wpOrd_step (o := ?_) ?_ ?_; rotate_left 1; (simp only [List.getElem?_toArray, List.getElem?_cons_succ, List.getElem?_cons_zero]; with_reducible rfl))
        (first
            | (refine wpOrd_skip (by rfl) ?_)
            | (refine wpOrd_take (by rfl) (take_loadShape _ rfl _ rfl _ _ _ _ pR) ?_)
            | (refine wpOrd_take (by rfl) (take_loadShape _ rfl _ rfl _ _ _ _ pQ) ?_)
            | (refine wpOrd_take (v := ?_) (by rfl) ?_ ?_; rotate_left 1; (intro wx hSx; go_simp; try with_reducible rfl)))
        (try simp only [Act.put, List.setIfInBounds_toArray, List.set_cons_zero, List.set_cons_succ])
      (refine wpOrd_solo (o := ?_) ?_ ?_; rotate_left 1; (simp only [List.getElem?_toArray, List.getElem?_cons_succ, List.getElem?_cons_zero]; with_reducible rfl))
      intro K hK
      go_simp
      go_at_call 8
      refine (HR1.out _ (PB.out _ HS.out)).mono ?_
      rintro e w3 ⟨rfl, hb⟩
      have hS := keepS _ _ HS.out hb
      clear HS
      have HS := Lib.hid hS; clear hS hb
      refine hK.out _ _ HS.out ?_
      clear hK K
      (try simp only [Act.put, List.setIfInBounds_toArray, List.set_cons_zero, List.set_cons_succ])
      (refine wpOrd_solo (o := ?_) ?_ ?_; rotate_left 1; (simp only [List.getElem?_toArray, List.getElem?_cons_succ, List.getElem?_cons_zero]; with_reducible rfl))
      intro K hK
      go_simp
      go_at_call 9
      refine (HR2.out _ (PB.out _ HS.out)).mono ?_
      rintro e w4 ⟨rfl, hb⟩
      have hS := keepS _ _ HS.out hb
      clear HS
      have HS := Lib.hid hS; clear hS hb
      refine hK.out _ _ HS.out ?_
      clear hK K
      (try simp only [Act.put, List.setIfInBounds_toArray, List.set_cons_zero, List.set_cons_succ])
      iterate 6
        (refine wpOrd_step (o := ?_) ?_ ?_; rotate_left 1; (simp only [List.getElem?_toArray, List.getElem?_cons_succ, List.getElem?_cons_zero]; with_reducible rfl))
        (first
            | (refine wpOrd_skip (by rfl) ?_)
            | (refine wpOrd_take (by rfl) (take_loadShape _ rfl _ rfl _ _ _ _ pR) ?_)
            | (refine wpOrd_take (by rfl) (take_loadShape _ rfl _ rfl _ _ _ _ pQ) ?_)
            | (refine wpOrd_take (v := ?_) (by rfl) ?_ ?_; rotate_left 1; (intro wx hSx; go_simp; try with_reducible rfl)))
        (try simp only [Act.put, List.setIfInBounds_toArray, List.set_cons_zero, List.set_cons_succ])
      (refine wpOrd_solo (o := ?_) ?_ ?_; rotate_left 1; (simp only [List.getElem?_toArray, List.getElem?_cons_succ, List.getElem?_cons_zero]; with_reducible rfl))
      intro K hK
      go_simp
      go_at_call 10
      refine (HS1.out _ (PB.out _ HS.out)).mono ?_
      rintro e w5 ⟨rfl, hb⟩
      have hS := keepS _ _ HS.out hb
      clear HS
      have HS := Lib.hid hS; clear hS hb
      refine hK.out _ _ HS.out ?_
      clear hK K
      (try simp only [Act.put, List.setIfInBounds_toArray, List.set_cons_zero, List.set_cons_succ])
      (refine wpOrd_solo (o := ?_) ?_ ?_; rotate_left 1; (simp only [List.getElem?_toArray, List.getElem?_cons_succ, List.getElem?_cons_zero]; with_reducible rfl))
      intro K hK
      go_simp
      go_at_call 11
      refine (HS2.out _ (PB.out _ HS.out)).mono ?_
      rintro e w6 ⟨rfl, hb⟩
      have hS := keepS _ _ HS.out hb
      clear HS
      have HS := Lib.hid hS; clear hS hb
      refine hK.out _ _ HS.out ?_
      clear hK K
      (try simp only [Act.put, List.setIfInBounds_toArray, List.set_cons_zero, List.set_cons_succ])
      iterate 5
        (refine wpOrd_step (o := ?_) ?_ ?_; rotate_left 1; (simp only [List.getElem?_toArray, List.getElem?_cons_succ, List.getElem?_cons_zero]; with_reducible rfl))
        (first
            | (refine wpOrd_skip (by rfl) ?_)
            | (refine wpOrd_take (by rfl) (take_loadShape _ rfl _ rfl _ _ _ _ pR) ?_)
            | (refine wpOrd_take (by rfl) (take_loadShape _ rfl _ rfl _ _ _ _ pQ) ?_)
            | (refine wpOrd_take (v := ?_) (by rfl) ?_ ?_; rotate_left 1; (intro wx hSx; go_simp; try with_reducible rfl)))
        (try simp only [Act.put, List.setIfInBounds_toArray, List.set_cons_zero, List.set_cons_succ])
      (refine wpOrd_solo (o := ?_) ?_ ?_; rotate_left 1; (simp only [List.getElem?_toArray, List.getElem?_cons_succ, List.getElem?_cons_zero]; with_reducible rfl))
      intro K hK
      go_simp
      go_at_call 12
      refine (HE1.out _ (PB.out _ HS.out)).mono ?_
      rintro e w7 ⟨rfl, hb⟩
      have hS := keepS _ _ HS.out hb
      clear HS
      have HS := Lib.hid hS; clear hS hb
      refine hK.out _ _ HS.out ?_
      clear hK K
      (try simp only [Act.put, List.setIfInBounds_toArray, List.set_cons_zero, List.set_cons_succ])
      (refine wpOrd_solo (o := ?_) ?_ ?_; rotate_left 1; (simp only [List.getElem?_toArray, List.getElem?_cons_succ, List.getElem?_cons_zero]; with_reducible rfl))
      intro K hK
      go_simp
      go_at_call 13
      refine (HE2.out _ (PB.out _ HS.out)).mono ?_
      rintro e w8 ⟨rfl, hb⟩
      have hS := keepS _ _ HS.out hb
      clear HS
      have HS := Lib.hid hS; clear hS hb
      refine hK.out _ _ HS.out ?_
      clear hK K
      (try simp only [Act.put, List.setIfInBounds_toArray, List.set_cons_zero, List.set_cons_succ])
      iterate 5
        (refine wpOrd_step (o := ?_) ?_ ?_; rotate_left 1; (simp only [List.getElem?_toArray, List.getElem?_cons_succ, List.getElem?_cons_zero]; with_reducible rfl))
        (first
            | (refine wpOrd_skip (by rfl) ?_)
            | (refine wpOrd_take (by rfl) (take_loadShape _ rfl _ rfl _ _ _ _ pR) ?_)
            | (refine wpOrd_take (by rfl) (take_loadShape _ rfl _ rfl _ _ _ _ pQ) ?_)
            | (refine wpOrd_take (by rfl) (take_sameElem _ _ _ rfl _ rfl rfl he1) ?_)
            | (refine wpOrd_take (v := ?_) (by rfl) ?_ ?_; rotate_left 1; (intro wx hSx; go_simp; try with_reducible rfl)))
        (try simp only [Act.put, List.setIfInBounds_toArray, List.set_cons_zero, List.set_cons_succ])
      (refine wpOrd_solo (o := ?_) ?_ ?_; rotate_left 1; (simp only [List.getElem?_toArray, List.getElem?_cons_succ, List.getElem?_cons_zero]; with_reducible rfl))
      intro K hK
      go_simp
      go_at_call 14
      refine (HT1.out _ (PB.out _ HS.out)).mono ?_
      rintro e w9 ⟨rfl, hb⟩
      have hS := keepS _ _ HS.out hb
      clear HS
      have HS := Lib.hid hS; clear hS hb
      refine hK.out _ _ HS.out ?_
      clear hK K
      (try simp only [Act.put, List.setIfInBounds_toArray, List.set_cons_zero, List.set_cons_succ])
      (refine wpOrd_solo (o := ?_) ?_ ?_; rotate_left 1; (simp only [List.getElem?_toArray, List.getElem?_cons_succ, List.getElem?_cons_zero]; with_reducible rfl))
      intro K hK
      go_simp
      go_at_call 13
      refine (HT2.out _ (PB.out _ HS.out)).mono ?_
      rintro e w10 ⟨rfl, hb⟩
      have hS := keepS _ _ HS.out hb
      clear HS
      have HS := Lib.hid hS; clear hS hb
      refine hK.out _ _ HS.out ?_
      clear hK K
      (try simp only [Act.put, List.setIfInBounds_toArray, List.set_cons_zero, List.set_cons_succ])
      iterate 5
        (refine wpOrd_step (o := ?_) ?_ ?_; rotate_left 1; (simp only [List.getElem?_toArray, List.getElem?_cons_succ, List.getElem?_cons_zero]; with_reducible rfl))
        (first
            | (refine wpOrd_skip (by rfl) ?_)
            | (refine wpOrd_take (by rfl) (take_loadShape _ rfl _ rfl _ _ _ _ pR) ?_)
            | (refine wpOrd_take (by rfl) (take_loadShape _ rfl _ rfl _ _ _ _ pQ) ?_)
            | (refine wpOrd_take (by rfl) (take_sameElem _ _ _ rfl _ rfl rfl he2) ?_)
            | (refine wpOrd_take (v := ?_) (by rfl) ?_ ?_; rotate_left 1; (intro wx hSx; go_simp; try with_reducible rfl)))
        (try simp only [Act.put, List.setIfInBounds_toArray, List.set_cons_zero, List.set_cons_succ])
      (refine wpOrd_solo (o := ?_) ?_ ?_; rotate_left 1; (simp only [List.getElem?_toArray, List.getElem?_cons_succ, List.getElem?_cons_zero]; with_reducible rfl))
      intro K hK
      go_simp
      go_at_call 15
      refine (HH1.out _ (PB.out _ HS.out)).mono ?_
      rintro e w11 ⟨rfl, hb⟩
      have hS := keepS _ _ HS.out hb
      clear HS
      have HS := Lib.hid hS; clear hS hb
      refine hK.out _ _ HS.out ?_
      clear hK K
      (try simp only [Act.put, List.setIfInBounds_toArray, List.set_cons_zero, List.set_cons_succ])
      (refine wpOrd_solo (o := ?_) ?_ ?_; rotate_left 1; (simp only [List.getElem?_toArray, List.getElem?_cons_succ, List.getElem?_cons_zero]; with_reducible rfl))
      intro K hK
      go_simp
      go_at_call 16
      refine (HH2.out _ (PB.out _ HS.out)).mono ?_
      rintro e w12 ⟨rfl, hb⟩
      have hS := keepS _ _ HS.out hb
      clear HS
      have HS := Lib.hid hS; clear hS hb
      refine hK.out _ _ HS.out ?_
      clear hK K
      (try simp only [Act.put, List.setIfInBounds_toArray, List.set_cons_zero, List.set_cons_succ])
      iterate 3
        (refine wpOrd_step (o := ?_) ?_ ?_; rotate_left 1; (simp only [List.getElem?_toArray, List.getElem?_cons_succ, List.getElem?_cons_zero]; with_reducible rfl))
        (first
            | (refine wpOrd_skip (by rfl) ?_)
            | (refine wpOrd_take (by rfl) (take_loadShape _ rfl _ rfl _ _ _ _ pR) ?_)
            | (refine wpOrd_take (by rfl) (take_loadShape _ rfl _ rfl _ _ _ _ pQ) ?_)
            | (refine wpOrd_take (v := ?_) (by rfl) ?_ ?_; rotate_left 1; (intro wx hSx; go_simp; try with_reducible rfl)))
        (try simp only [Act.put, List.setIfInBounds_toArray, List.set_cons_zero, List.set_cons_succ])
      (refine wpOrd_solo (o := ?_) ?_ ?_; rotate_left 1; (simp only [List.getElem?_toArray, List.getElem?_cons_succ, List.getElem?_cons_zero]; with_reducible rfl))
      intro K hK
      go_simp
      go_at_call 7
      refine (HAL.out _ (PB.out _ HS.out)).mono ?_
      rintro e w13 ⟨rfl, hb⟩
      have hS := keepS _ _ HS.out hb
      clear HS
      have HS := Lib.hid hS; clear hS hb
      refine hK.out _ _ HS.out ?_
      clear hK K
      (try simp only [Act.put, List.setIfInBounds_toArray, List.set_cons_zero, List.set_cons_succ])
      iterate 2
        (refine wpOrd_step (o := ?_) ?_ ?_; rotate_left 1; (simp only [List.getElem?_toArray, List.getElem?_cons_succ, List.getElem?_cons_zero]; with_reducible rfl))
        (first
            | (refine wpOrd_skip (by rfl) ?_)
            | (refine wpOrd_take (by rfl) (take_loadShape _ rfl _ rfl _ _ _ _ pR) ?_)
            | (refine wpOrd_take (by rfl) (take_loadShape _ rfl _ rfl _ _ _ _ pQ) ?_)
            | (refine wpOrd_take (v := ?_) (by rfl) ?_ ?_; rotate_left 1; (intro wx hSx; go_simp; try with_reducible rfl)))
        (try simp only [Act.put, List.setIfInBounds_toArray, List.set_cons_zero, List.set_cons_succ])
      refine wpOrd_done ?_
      have HB5 := Lib.hid (PB.out _ HS.out)
      clear pR pQ PB HS keepS
      go_wp2_with fail
      go_ret
      exact ⟨rfl, HB5.out⟩
end Go.Proofs.YtpgkcddhpeoiiaaGreatDoor
