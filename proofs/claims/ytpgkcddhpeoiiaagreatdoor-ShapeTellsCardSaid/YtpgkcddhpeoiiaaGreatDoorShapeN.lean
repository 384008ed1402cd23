/-
  ShapeOps: it returns true. Conditions: a slice of factors in memory, two elements of eight words below 2^64 each; the table of math/bits in memory.
-/
import Derived.Test.YtpgkcddhpeoiiaaGreatDoorShapeJ
import Derived.Test.YtpgkcddhpeoiiaaGreatDoorShapeM
namespace Go.Proofs.YtpgkcddhpeoiiaaGreatDoor
open Go.RowKit RM

section
variable {a : Act} {o : Oper} {S : World → Prop}
theorem take_sameElem (x y : Operand) (t : TypeId) (ho : o.op = .binOp .eql 30 x y t) (l : List Nat) (hx : a.eval x = .agg (uv l)) (hy : a.eval y = .agg (uv l)) (hl : EW l) :
    ∀ w, S w → (execOp a.eval o).run Tryz.prog w = .ok (.value (.bool true)) w := by
  have h := take_eqlElem (S := S) x y t ho l l hx hy hl hl
  simpa using h
end
theorem rows3 (w : World) (a b c : Array Value) (ta tb tc : TypeId) :
    RowAt (((w.alloc (.cells a ta)).alloc (.cells b tb)).alloc (.cells c tc)) w.heap.size ta a ∧ RowAt (((w.alloc (.cells a ta)).alloc (.cells b tb)).alloc (.cells c tc)) (w.heap.size + 1) tb b ∧
    RowAt (((w.alloc (.cells a ta)).alloc (.cells b tb)).alloc (.cells c tc)) (w.heap.size + 2) tc c ∧ Below w.heap.size w (((w.alloc (.cells a ta)).alloc (.cells b tb)).alloc (.cells c tc)) := by
  refine ⟨((RowAt.new w ta a).alloc _).alloc _, ?_, ?_, (((Below.refl _ _).alloc (Nat.le_refl _) _).alloc (by simp) _).alloc (by simp; omega) _⟩
  · have := (RowAt.new (w.alloc (.cells a ta)) tb b).alloc (.cells c tc)
    simpa using this
  · have := RowAt.new ((w.alloc (.cells a ta)).alloc (.cells b tb)) tc c
    simpa using this

set_option maxRecDepth 20000 in
set_option maxHeartbeats 4000000 in
theorem shapeOps_law (t : Bool) (A : Option Addr) (c : Nat) (fs : List Fac) (a b : List Nat) (ha : EW a) (hb : EW b) (w : World) (hT : Tab w) (hF : Facs w A fs) :
    Calls Tryz.prog 4 #[.agg (sv t A fs.length c), .agg (uv a), .agg (uv b)] w fun e w' => e = .returned (.bool true) ∧ Below w.heap.size w w' := by
  obtain ⟨r0, a0, b0, hb0⟩ := rows3 w (sv t A fs.length c) (uv a) (uv b) 24 30 30
  have HB0 := Lib.hid hb0; clear hb0
  have HBG : Hid (∀ W, Below w.heap.size w W → Calls Tryz.prog 6 #[.agg (sv t A fs.length c)] W fun x w' => x = .returned (.bool (bigB fs)) ∧ Below W.heap.size W w') := fun W h => big_any t A c fs W (hF.below h)
  have HF1 : Hid (∀ W, Below w.heap.size w W → Calls Tryz.prog 17 #[.agg (sv t A fs.length c), .agg (uv a)] W fun x w' => x = .returned (.bool (fitsE t fs a)) ∧ Below W.heap.size W w') := fun W h => sfitsE_any t A c fs a ha W (hT.below h) (hF.below h)
  have HF2 : Hid (∀ W, Below w.heap.size w W → Calls Tryz.prog 18 #[.agg (sv t A fs.length c), .agg (uv a)] W fun x w' => x = .returned (.bool (fitsE t fs a)) ∧ Below W.heap.size W w') := fun W h => qfitsE_any t A c fs a ha W (hF.below h)
  have HL1 : Hid (∀ W, Below w.heap.size w W → Calls Tryz.prog 19 #[.agg (uv a), .agg (uv b)] W fun x w' => x = .returned (.bool (leqE a b)) ∧ Below W.heap.size W w') := fun W _ => sleq_any a b ha hb W
  have HL2 : Hid (∀ W, Below w.heap.size w W → Calls Tryz.prog 20 #[.agg (uv a), .agg (uv b)] W fun x w' => x = .returned (.bool (leqE a b)) ∧ Below W.heap.size W w') := fun W _ => qleq_any a b ha hb W
  have HJ1 : Hid (∀ W, Below w.heap.size w W → Calls Tryz.prog 21 #[.agg (sv t A fs.length c), .agg (uv a), .agg (uv b)] W fun x w' => x = .returned (.agg (uv (joinE fs a b))) ∧ Below W.heap.size W w') := fun W h => sjoin_any t A c fs a b ha hb W (hT.below h) (hF.below h)
  have HJ2 : Hid (∀ W, Below w.heap.size w W → Calls Tryz.prog 22 #[.agg (sv t A fs.length c), .agg (uv a), .agg (uv b)] W fun x w' => x = .returned (.agg (uv (joinE fs a b))) ∧ Below W.heap.size W w') := fun W h => qjoin8_any t A c fs a b ha hb W (hF.below h)
  have HM1 : Hid (∀ W, Below w.heap.size w W → Calls Tryz.prog 23 #[.agg (uv a), .agg (uv b)] W fun x w' => x = .returned (.agg (uv (meetE a b))) ∧ Below W.heap.size W w') := fun W _ => smeet_any a b ha hb W
  have HM2 : Hid (∀ W, Below w.heap.size w W → Calls Tryz.prog 24 #[.agg (uv a), .agg (uv b)] W fun x w' => x = .returned (.agg (uv (meetE a b))) ∧ Below W.heap.size W w') := fun W _ => qmeet8_any a b ha hb W
  have HAL : Hid (∀ W, Below w.heap.size w W → Calls Tryz.prog 7 #[] W fun x w' => x = .returned (.bool true) ∧ Below W.heap.size W w') := fun W h => alive7_any W (hT.below h)
  have hj := joinE_ew fs ha hb
  have hm := meetE_ew b ha
  clear hF hT
  generalize fitsE t fs a = fb at *
  generalize leqE a b = lb at *
  generalize joinE fs a b = j at *
  generalize meetE a b = m at *
  generalize fs.length = n at *
  go_enter Tryz.func4, Tryz.ntmps4
  go_upto_region 1 with fail
  generalize ((w.alloc (.cells (sv t A n c) 24)).alloc (.cells (uv a) 30)).alloc (.cells (uv b) 30) = w0 at *
  go_wp2_with (refine wpList_loadShape (by rfl) _ rfl w.heap.size rfl t A n c r0 ?_)
  refine (HBG.out _ HB0.out).mono ?_
  rintro e w1 ⟨rfl, hb⟩
  have r1 := r0.below hb r0.lt
  have a1 := a0.below hb a0.lt
  have b1 := b0.below hb b0.lt
  have HB1 := Lib.hid (HB0.out.trans (hb.mono HB0.out.size))
  clear hb r0 a0 b0 HB0
  cases hbg : bigB fs with
  | true =>
    go_wp2_with fail
    refine (HAL.out _ HB1.out).mono ?_
    rintro e w9 ⟨rfl, hb⟩
    have HB9 := Lib.hid (HB1.out.trans (hb.mono HB1.out.size)); clear hb
    go_wp2_with fail
    go_ret
    exact ⟨rfl, HB9.out⟩
  | false =>
    clear hbg HBG
    obtain ⟨S, HS, pW, keepS⟩ := ex_gen w1
    have pR := fun w' h => r1.below (pW w' h) r1.lt
    have pA := fun w' h => a1.below (pW w' h) a1.lt
    have pB := fun w' h => b1.below (pW w' h) b1.lt
    have PB : Hid (∀ w', S w' → Below w.heap.size w w') := fun w' h => HB1.out.trans ((pW w' h).mono HB1.out.size)
    clear pW r1 a1 b1 HB1
    go_wp2_with fail
    refine wp_region_ord S [(0, true), (1, true), (3, true), (4, true), (2, false), (5, false), (6, true), (7, true), (8, true), (9, true), (11, true), (12, true), (10, false), (13, false), (14, true), (15, true), (16, true), (17, true), (18, true), (19, true), (21, true), (22, true), (23, true), (20, false), (24, false), (25, true), (26, true), (27, true), (28, true), (29, true), (31, true), (32, true), (30, false), (33, false), (34, true), (35, true), (36, true), (37, false), (38, true), (39, true)] (by kernel_rfl) (by kernel_rfl) rfl (by kernel_rfl) HS.out ?_
    generalize w1.drew = V at HS ⊢
    iterate 4
      (refine wpOrd_step (o := ?_) ?_ ?_; rotate_left 1; (simp only [List.getElem?_toArray, List.getElem?_cons_succ, List.getElem?_cons_zero]; with_reducible rfl))
      (first
          | (refine wpOrd_skip (by rfl) ?_)
          | (refine wpOrd_take (by rfl) (take_loadShape _ rfl _ rfl _ _ _ _ pR) ?_)
          | (refine wpOrd_take (by rfl) (take_loadElem _ rfl _ rfl _ ha pA) ?_)
          | (refine wpOrd_take (by rfl) (take_loadElem _ rfl _ rfl _ hb pB) ?_)
          | (refine wpOrd_take (v := ?_) (by rfl) ?_ ?_; rotate_left 1; (intro wx hSx; go_simp; try with_reducible rfl)))
      (try simp only [Act.put, List.setIfInBounds_toArray, List.set_cons_zero, List.set_cons_succ])
    (refine wpOrd_solo (o := ?_) ?_ ?_; rotate_left 1; (simp only [List.getElem?_toArray, List.getElem?_cons_succ, List.getElem?_cons_zero]; with_reducible rfl))
    intro K hK
    go_simp
    go_at_call 17
    refine (HF1.out _ (PB.out _ HS.out)).mono ?_
    rintro e w2 ⟨rfl, hb⟩
    have hS := keepS _ _ HS.out hb
    clear HS
    have HS := Lib.hid hS; clear hS hb
    refine hK.out _ _ HS.out ?_
    clear hK K
    (try simp only [Act.put, List.setIfInBounds_toArray, List.set_cons_zero, List.set_cons_succ])
    (refine wpOrd_solo (o := ?_) ?_ ?_; rotate_left 1; (simp only [List.getElem?_toArray, List.getElem?_cons_succ, List.getElem?_cons_zero]; with_reducible rfl))
    intro K hK
    go_simp
    go_at_call 18
    refine (HF2.out _ (PB.out _ HS.out)).mono ?_
    rintro e w3 ⟨rfl, hb⟩
    have hS := keepS _ _ HS.out hb
    clear HS
    have HS := Lib.hid hS; clear hS hb
    refine hK.out _ _ HS.out ?_
    clear hK K
    (try simp only [Act.put, List.setIfInBounds_toArray, List.set_cons_zero, List.set_cons_succ])
    iterate 6
      (refine wpOrd_step (o := ?_) ?_ ?_; rotate_left 1; (simp only [List.getElem?_toArray, List.getElem?_cons_succ, List.getElem?_cons_zero]; with_reducible rfl))
      (first
          | (refine wpOrd_skip (by rfl) ?_)
          | (refine wpOrd_take (by rfl) (take_loadShape _ rfl _ rfl _ _ _ _ pR) ?_)
          | (refine wpOrd_take (by rfl) (take_loadElem _ rfl _ rfl _ ha pA) ?_)
          | (refine wpOrd_take (by rfl) (take_loadElem _ rfl _ rfl _ hb pB) ?_)
          | (refine wpOrd_take (v := ?_) (by rfl) ?_ ?_; rotate_left 1; (intro wx hSx; go_simp; try with_reducible rfl)))
      (try simp only [Act.put, List.setIfInBounds_toArray, List.set_cons_zero, List.set_cons_succ])
    (refine wpOrd_solo (o := ?_) ?_ ?_; rotate_left 1; (simp only [List.getElem?_toArray, List.getElem?_cons_succ, List.getElem?_cons_zero]; with_reducible rfl))
    intro K hK
    go_simp
    go_at_call 19
    refine (HL1.out _ (PB.out _ HS.out)).mono ?_
    rintro e w4 ⟨rfl, hb⟩
    have hS := keepS _ _ HS.out hb
    clear HS
    have HS := Lib.hid hS; clear hS hb
    refine hK.out _ _ HS.out ?_
    clear hK K
    (try simp only [Act.put, List.setIfInBounds_toArray, List.set_cons_zero, List.set_cons_succ])
    (refine wpOrd_solo (o := ?_) ?_ ?_; rotate_left 1; (simp only [List.getElem?_toArray, List.getElem?_cons_succ, List.getElem?_cons_zero]; with_reducible rfl))
    intro K hK
    go_simp
    go_at_call 20
    refine (HL2.out _ (PB.out _ HS.out)).mono ?_
    rintro e w5 ⟨rfl, hb⟩
    have hS := keepS _ _ HS.out hb
    clear HS
    have HS := Lib.hid hS; clear hS hb
    refine hK.out _ _ HS.out ?_
    clear hK K
    (try simp only [Act.put, List.setIfInBounds_toArray, List.set_cons_zero, List.set_cons_succ])
    iterate 9
      (refine wpOrd_step (o := ?_) ?_ ?_; rotate_left 1; (simp only [List.getElem?_toArray, List.getElem?_cons_succ, List.getElem?_cons_zero]; with_reducible rfl))
      (first
          | (refine wpOrd_skip (by rfl) ?_)
          | (refine wpOrd_take (by rfl) (take_loadShape _ rfl _ rfl _ _ _ _ pR) ?_)
          | (refine wpOrd_take (by rfl) (take_loadElem _ rfl _ rfl _ ha pA) ?_)
          | (refine wpOrd_take (by rfl) (take_loadElem _ rfl _ rfl _ hb pB) ?_)
          | (refine wpOrd_take (v := ?_) (by rfl) ?_ ?_; rotate_left 1; (intro wx hSx; go_simp; try with_reducible rfl)))
      (try simp only [Act.put, List.setIfInBounds_toArray, List.set_cons_zero, List.set_cons_succ])
    (refine wpOrd_solo (o := ?_) ?_ ?_; rotate_left 1; (simp only [List.getElem?_toArray, List.getElem?_cons_succ, List.getElem?_cons_zero]; with_reducible rfl))
    intro K hK
    go_simp
    go_at_call 21
    refine (HJ1.out _ (PB.out _ HS.out)).mono ?_
    rintro e w6 ⟨rfl, hb⟩
    have hS := keepS _ _ HS.out hb
    clear HS
    have HS := Lib.hid hS; clear hS hb
    refine hK.out _ _ HS.out ?_
    clear hK K
    (try simp only [Act.put, List.setIfInBounds_toArray, List.set_cons_zero, List.set_cons_succ])
    (refine wpOrd_solo (o := ?_) ?_ ?_; rotate_left 1; (simp only [List.getElem?_toArray, List.getElem?_cons_succ, List.getElem?_cons_zero]; with_reducible rfl))
    intro K hK
    go_simp
    go_at_call 22
    refine (HJ2.out _ (PB.out _ HS.out)).mono ?_
    rintro e w7 ⟨rfl, hb⟩
    have hS := keepS _ _ HS.out hb
    clear HS
    have HS := Lib.hid hS; clear hS hb
    refine hK.out _ _ HS.out ?_
    clear hK K
    (try simp only [Act.put, List.setIfInBounds_toArray, List.set_cons_zero, List.set_cons_succ])
    iterate 7
      (refine wpOrd_step (o := ?_) ?_ ?_; rotate_left 1; (simp only [List.getElem?_toArray, List.getElem?_cons_succ, List.getElem?_cons_zero]; with_reducible rfl))
      (first
          | (refine wpOrd_skip (by rfl) ?_)
          | (refine wpOrd_take (by rfl) (take_loadShape _ rfl _ rfl _ _ _ _ pR) ?_)
          | (refine wpOrd_take (by rfl) (take_loadElem _ rfl _ rfl _ ha pA) ?_)
          | (refine wpOrd_take (by rfl) (take_loadElem _ rfl _ rfl _ hb pB) ?_)
          | (refine wpOrd_take (by rfl) (take_sameElem _ _ _ rfl _ rfl rfl hj) ?_)
          | (refine wpOrd_take (v := ?_) (by rfl) ?_ ?_; rotate_left 1; (intro wx hSx; go_simp; try with_reducible rfl)))
      (try simp only [Act.put, List.setIfInBounds_toArray, List.set_cons_zero, List.set_cons_succ])
    (refine wpOrd_solo (o := ?_) ?_ ?_; rotate_left 1; (simp only [List.getElem?_toArray, List.getElem?_cons_succ, List.getElem?_cons_zero]; with_reducible rfl))
    intro K hK
    go_simp
    go_at_call 23
    refine (HM1.out _ (PB.out _ HS.out)).mono ?_
    rintro e w8 ⟨rfl, hb⟩
    have hS := keepS _ _ HS.out hb
    clear HS
    have HS := Lib.hid hS; clear hS hb
    refine hK.out _ _ HS.out ?_
    clear hK K
    (try simp only [Act.put, List.setIfInBounds_toArray, List.set_cons_zero, List.set_cons_succ])
    (refine wpOrd_solo (o := ?_) ?_ ?_; rotate_left 1; (simp only [List.getElem?_toArray, List.getElem?_cons_succ, List.getElem?_cons_zero]; with_reducible rfl))
    intro K hK
    go_simp
    go_at_call 24
    refine (HM2.out _ (PB.out _ HS.out)).mono ?_
    rintro e w9 ⟨rfl, hb⟩
    have hS := keepS _ _ HS.out hb
    clear HS
    have HS := Lib.hid hS; clear hS hb
    refine hK.out _ _ HS.out ?_
    clear hK K
    (try simp only [Act.put, List.setIfInBounds_toArray, List.set_cons_zero, List.set_cons_succ])
    iterate 3
      (refine wpOrd_step (o := ?_) ?_ ?_; rotate_left 1; (simp only [List.getElem?_toArray, List.getElem?_cons_succ, List.getElem?_cons_zero]; with_reducible rfl))
      (first
          | (refine wpOrd_skip (by rfl) ?_)
          | (refine wpOrd_take (by rfl) (take_loadShape _ rfl _ rfl _ _ _ _ pR) ?_)
          | (refine wpOrd_take (by rfl) (take_loadElem _ rfl _ rfl _ ha pA) ?_)
          | (refine wpOrd_take (by rfl) (take_loadElem _ rfl _ rfl _ hb pB) ?_)
          | (refine wpOrd_take (by rfl) (take_sameElem _ _ _ rfl _ rfl rfl hm) ?_)
          | (refine wpOrd_take (v := ?_) (by rfl) ?_ ?_; rotate_left 1; (intro wx hSx; go_simp; try with_reducible rfl)))
      (try simp only [Act.put, List.setIfInBounds_toArray, List.set_cons_zero, List.set_cons_succ])
    (refine wpOrd_solo (o := ?_) ?_ ?_; rotate_left 1; (simp only [List.getElem?_toArray, List.getElem?_cons_succ, List.getElem?_cons_zero]; with_reducible rfl))
    intro K hK
    go_simp
    go_at_call 7
    refine (HAL.out _ (PB.out _ HS.out)).mono ?_
    rintro e w10 ⟨rfl, hb⟩
    have hS := keepS _ _ HS.out hb
    clear HS
    have HS := Lib.hid hS; clear hS hb
    refine hK.out _ _ HS.out ?_
    clear hK K
    (try simp only [Act.put, List.setIfInBounds_toArray, List.set_cons_zero, List.set_cons_succ])
    iterate 2
      (refine wpOrd_step (o := ?_) ?_ ?_; rotate_left 1; (simp only [List.getElem?_toArray, List.getElem?_cons_succ, List.getElem?_cons_zero]; with_reducible rfl))
      (first
          | (refine wpOrd_skip (by rfl) ?_)
          | (refine wpOrd_take (by rfl) (take_loadShape _ rfl _ rfl _ _ _ _ pR) ?_)
          | (refine wpOrd_take (by rfl) (take_loadElem _ rfl _ rfl _ ha pA) ?_)
          | (refine wpOrd_take (by rfl) (take_loadElem _ rfl _ rfl _ hb pB) ?_)
          | (refine wpOrd_take (v := ?_) (by rfl) ?_ ?_; rotate_left 1; (intro wx hSx; go_simp; try with_reducible rfl)))
      (try simp only [Act.put, List.setIfInBounds_toArray, List.set_cons_zero, List.set_cons_succ])
    refine wpOrd_done ?_
    have HB5 := Lib.hid (PB.out _ HS.out)
    clear pR pA pB PB HS keepS
    go_wp2_with fail
    go_ret
    exact ⟨rfl, HB5.out⟩
end Go.Proofs.YtpgkcddhpeoiiaaGreatDoor
