/-
  ShapeLattice: it returns true. Conditions: a slice of factors in memory, three elements of eight words below 2^64 each; the table of math/bits in memory.
-/
import Derived.Test.YtpgkcddhpeoiiaaGreatDoorShapeJ
import Derived.Test.YtpgkcddhpeoiiaaGreatDoorShapeT
import Derived.Test.YtpgkcddhpeoiiaaGreatDoorOrdU
namespace Go.Proofs.YtpgkcddhpeoiiaaGreatDoor
open Go.RowKit RM

section
variable {a : Act} {o : Oper} {S : World → Prop}
theorem take_likeElem (x y : Operand) (t : TypeId) (ho : o.op = .binOp .eql 30 x y t) (l k : List Nat) (hx : a.eval x = .agg (uv l)) (hy : a.eval y = .agg (uv k)) (hl : EW l) (hk : EW k) (h : l = k) :
    ∀ w, S w → (execOp a.eval o).run Tryz.prog w = .ok (.value (.bool true)) w := by
  have h2 := take_eqlElem (S := S) x y t ho l k hx hy hl hk
  simpa [h] using h2
theorem take_notElem (x y : Operand) (t : TypeId) (ho : o.op = .binOp .neq 30 x y t) (l k : List Nat) (hx : a.eval x = .agg (uv l)) (hy : a.eval y = .agg (uv k)) (hl : EW l) (hk : EW k) (h : l = k) :
    ∀ w, S w → (execOp a.eval o).run Tryz.prog w = .ok (.value (.bool false)) w := by
  have h2 := take_neqElem (S := S) x y t ho l k hx hy hl hk
  simpa [h] using h2
end
theorem three_at (x y z : List Nat) (hx : EW x) (hy : EW y) {w : World} {g : Nat} {t : TypeId} (h : RowAt w g t (ucells x ++ (ucells y ++ ucells z)).toArray) :
    w.rangeAt g 0 (ucells x) ∧ w.rangeAt g 8 (ucells y) ∧ w.rangeAt g 16 (ucells z) := by
  have lx : (ucells x).length = 8 := by rw [ucells_length, hx.1]
  have ly : (ucells y).length = 8 := by rw [ucells_length, hy.1]
  refine ⟨h.range _ _ fun j u hu => ?_, h.range _ _ fun j u hu => ?_, h.range _ _ fun j u hu => ?_⟩
  · obtain ⟨hj, _⟩ := List.getElem?_eq_some_iff.1 hu
    simp only [List.getElem?_toArray, Nat.zero_add]
    rw [List.getElem?_append_left hj]; exact hu
  · obtain ⟨hj, _⟩ := List.getElem?_eq_some_iff.1 hu
    simp only [List.getElem?_toArray]
    rw [List.getElem?_append_right (by omega), List.getElem?_append_left (by omega), lx, show 8 + j - 8 = j by omega]; exact hu
  · obtain ⟨hj, _⟩ := List.getElem?_eq_some_iff.1 hu
    simp only [List.getElem?_toArray]
    rw [List.getElem?_append_right (by omega), List.getElem?_append_right (by omega), lx, ly, show 16 + j - 8 - 8 = j by omega]; exact hu

set_option maxRecDepth 20000 in
set_option maxHeartbeats 16000000 in
theorem shapeLattice_law (t : Bool) (A : Option Addr) (c : Nat) (fs : List Fac) (x y z : List Nat) (hx : EW x) (hy : EW y) (hz : EW z) (w : World) (hT : Tab w) (hF : Facs w A fs) :
    Calls Tryz.prog 5 #[.agg (sv t A fs.length c), .agg (ucells x ++ (ucells y ++ ucells z)).toArray] w fun e w' => e = .returned (.bool true) ∧ Below w.heap.size w w' := by
  have z8 := EW.zeros
  have r0 : RowAt ((w.alloc (.cells (sv t A fs.length c) 24)).alloc (.cells (ucells x ++ (ucells y ++ ucells z)).toArray 39)) w.heap.size 24 (sv t A fs.length c) := (RowAt.new w _ _).alloc _
  have q0 : RowAt ((w.alloc (.cells (sv t A fs.length c) 24)).alloc (.cells (ucells x ++ (ucells y ++ ucells z)).toArray 39)) (w.heap.size + 1) 39 (ucells x ++ (ucells y ++ ucells z)).toArray := by
    have := RowAt.new (w.alloc (.cells (sv t A fs.length c) 24)) 39 (ucells x ++ (ucells y ++ ucells z)).toArray
    simpa using this
  have HB0 : Hid (Below w.heap.size w ((w.alloc (.cells (sv t A fs.length c) 24)).alloc (.cells (ucells x ++ (ucells y ++ ucells z)).toArray 39))) := ((Below.refl _ _).alloc (Nat.le_refl _) _).alloc (by simp) _
  have HBG : Hid (∀ W, Below w.heap.size w W → Calls Tryz.prog 6 #[.agg (sv t A fs.length c)] W fun x w' => x = .returned (.bool (bigB fs)) ∧ Below W.heap.size W w') := fun W h => big_any t A c fs W (hF.below h)
  have CBO : Hid (∀ W, Below w.heap.size w W → Calls Tryz.prog 12 #[.agg (sv t A fs.length c)] W fun x w' => x = .returned (.agg (uv (endE t fs botW))) ∧ Below W.heap.size W w') := fun W h => sbottomE_any t A c fs W (hT.below h) (hF.below h)
  have CTO : Hid (∀ W, Below w.heap.size w W → Calls Tryz.prog 14 #[.agg (sv t A fs.length c)] W fun x w' => x = .returned (.agg (uv (endE t fs topW))) ∧ Below W.heap.size W w') := fun W h => stopE_any t A c fs W (hT.below h) (hF.below h)
  have HFI : Hid (∀ e, EW e → ∀ W, Below w.heap.size w W → Calls Tryz.prog 17 #[.agg (sv t A fs.length c), .agg (uv e)] W fun x w' => x = .returned (.bool (fitsE t fs e)) ∧ Below W.heap.size W w') := fun e he W h => sfitsE_any t A c fs e he W (hT.below h) (hF.below h)
  have HJN : Hid (∀ a b, EW a → EW b → ∀ W, Below w.heap.size w W → Calls Tryz.prog 21 #[.agg (sv t A fs.length c), .agg (uv a), .agg (uv b)] W fun x w' => x = .returned (.agg (uv (joinE fs a b))) ∧ Below W.heap.size W w') := fun a b ha hb W h => sjoin_any t A c fs a b ha hb W (hT.below h) (hF.below h)
  have HLE : Hid (∀ a b, EW a → EW b → ∀ W, Below w.heap.size w W → Calls Tryz.prog 19 #[.agg (uv a), .agg (uv b)] W fun x w' => x = .returned (.bool (leqE a b)) ∧ Below W.heap.size W w') := fun a b ha hb W _ => sleq_any a b ha hb W
  have HME : Hid (∀ a b, EW a → EW b → ∀ W, Below w.heap.size w W → Calls Tryz.prog 23 #[.agg (uv a), .agg (uv b)] W fun x w' => x = .returned (.agg (uv (meetE a b))) ∧ Below W.heap.size W w') := fun a b ha hb W _ => smeet_any a b ha hb W
  have HAL : Hid (∀ W, Below w.heap.size w W → Calls Tryz.prog 7 #[] W fun x w' => x = .returned (.bool true) ∧ Below W.heap.size W w') := fun W h => alive7_any W (hT.below h)
  have HEB : Hid (EW (endE t fs botW)) := endE_ew t fs botW_lt
  have HET : Hid (EW (endE t fs topW)) := endE_ew t fs topW_lt
  clear hF hT
  generalize hn : fs.length = n at *
  clear hn
  go_enter Tryz.func5, Tryz.ntmps5
  go_upto_region 1 with fail
  have HX : Hid (∀ W, RowAt W (w.heap.size + 1) 39 (ucells x ++ (ucells y ++ ucells z)).toArray → W.rangeAt (w.heap.size + 1) 0 (ucells x) ∧ W.rangeAt (w.heap.size + 1) 8 (ucells y) ∧ W.rangeAt (w.heap.size + 1) 16 (ucells z)) := fun W h => three_at x y z hx hy h
  generalize (ucells x ++ (ucells y ++ ucells z)).toArray = U at *
  generalize (w.alloc (.cells (sv t A n c) 24)).alloc (.cells U 39) = wr at *
  have h0 := r0.lt
  go_cut [5, 6, 7] from 10 to 15 (fun p5 p6 p7 wx => ∃ g5 g6 g7 : Nat, p5 = .pointer (some ⟨g5, 0, none⟩) ∧ p6 = .pointer (some ⟨g6, 0, none⟩) ∧ p7 = .pointer (some ⟨g7, 0, none⟩) ∧ RowAt wx w.heap.size 24 (sv t A n c) ∧ RowAt wx g5 30 (uv x) ∧ RowAt wx g6 30 (uv y) ∧ RowAt wx g7 30 (uv z) ∧ Below w.heap.size w wx)
  case first =>
    have HS0 : Hid (Below wr.heap.size wr wr.drew) := (Below.refl _ _).drew
    have pX : ∀ w', Below wr.heap.size wr w' → w'.rangeAt (w.heap.size + 1) 0 (ucells x) := fun w' h => (HX.out _ (q0.below h q0.lt)).1
    have pY : ∀ w', Below wr.heap.size wr w' → w'.rangeAt (w.heap.size + 1) 8 (ucells y) := fun w' h => (HX.out _ (q0.below h q0.lt)).2.1
    have pZ : ∀ w', Below wr.heap.size wr w' → w'.rangeAt (w.heap.size + 1) 16 (ucells z) := fun w' h => (HX.out _ (q0.below h q0.lt)).2.2
    refine wp_region_ou (fun w' => Below wr.heap.size wr w') (.take 0 (.take 1 (.take 2 (.take 3 (.take 4 (.take 5 (.three 6 (.two 7 (.solo 8 (.solo 9 (.solo 10 (.solo 11 .nil)))) 8 (.solo 7 (.solo 9 (.solo 10 (.solo 11 .nil))))) 7 (.two 6 (.solo 8 (.solo 9 (.solo 10 (.solo 11 .nil)))) 8 (.solo 6 (.solo 9 (.solo 10 (.solo 11 .nil))))) 8 (.two 6 (.solo 7 (.solo 9 (.solo 10 (.solo 11 .nil)))) 7 (.solo 6 (.solo 9 (.solo 10 (.solo 11 .nil)))))))))))) (by kernel_rfl) (by kernel_rfl) rfl (by kernel_rfl) HS0.out ?_
    generalize wr.drew = V at HS0 ⊢
    iterate 6
      (refine wpOU_step (o := ?_) ?_ ?_; rotate_left 1; (simp only [List.getElem?_toArray, List.getElem?_cons_succ, List.getElem?_cons_zero]; with_reducible rfl))
      (first
          | (refine wpOU_skip (by rfl) ?_)
          | (refine wpOU_take (by rfl) (take_loadElemIn _ rfl _ _ rfl _ hx pX) ?_)
          | (refine wpOU_take (by rfl) (take_loadElemIn _ rfl _ _ rfl _ hy pY) ?_)
          | (refine wpOU_take (by rfl) (take_loadElemIn _ rfl _ _ rfl _ hz pZ) ?_)
          | (refine wpOU_take (v := ?_) (by rfl) ?_ ?_; rotate_left 1; (intro wx hSx; go_simp; try with_reducible rfl)))
      (try simp only [Act.put, List.setIfInBounds_toArray, List.set_cons_zero, List.set_cons_succ])
    clear pX pY pZ q0 HX
    refine wpOU_three ?_ ?_ ?_
    · (refine wpOU_solo (o := ?_) ?_ ?_; rotate_left 1; (simp only [List.getElem?_toArray, List.getElem?_cons_succ, List.getElem?_cons_zero]; with_reducible rfl))
      intro K hK
      go_simp
      rw [zero_elem]
      have y5 : RowAt (V.alloc (.cells (uv (List.replicate 8 0)) 30)) V.heap.size 30 (uv (List.replicate 8 0)) := RowAt.new _ _ _
      have hg5 : wr.heap.size ≤ V.heap.size := HS0.out.size
      have HS1 := Lib.hid (HS0.out.alloc HS0.out.size (.cells (uv (List.replicate 8 0)) 30))
      refine hK.out _ _ HS1.out ?_
      clear hK K HS0
      (try simp only [Act.put, List.setIfInBounds_toArray, List.set_cons_zero, List.set_cons_succ])
      generalize V.alloc (.cells (uv (List.replicate 8 0)) 30) = V1 at *
      generalize V.heap.size = g5 at *
      refine wpOU_two ?_ ?_
      · (refine wpOU_solo (o := ?_) ?_ ?_; rotate_left 1; (simp only [List.getElem?_toArray, List.getElem?_cons_succ, List.getElem?_cons_zero]; with_reducible rfl))
        intro K hK
        go_simp
        rw [zero_elem]
        have y6 : RowAt (V1.alloc (.cells (uv (List.replicate 8 0)) 30)) V1.heap.size 30 (uv (List.replicate 8 0)) := RowAt.new _ _ _
        have n56 : g5 ≠ V1.heap.size := by have := y5.lt; omega
        replace y5 := y5.alloc (.cells (uv (List.replicate 8 0)) 30)
        have hg6 : wr.heap.size ≤ V1.heap.size := HS1.out.size
        have HS2 := Lib.hid (HS1.out.alloc HS1.out.size (.cells (uv (List.replicate 8 0)) 30))
        refine hK.out _ _ HS2.out ?_
        clear hK K HS1
        (try simp only [Act.put, List.setIfInBounds_toArray, List.set_cons_zero, List.set_cons_succ])
        generalize V1.alloc (.cells (uv (List.replicate 8 0)) 30) = V2 at *
        generalize V1.heap.size = g6 at *
        (refine wpOU_solo (o := ?_) ?_ ?_; rotate_left 1; (simp only [List.getElem?_toArray, List.getElem?_cons_succ, List.getElem?_cons_zero]; with_reducible rfl))
        intro K hK
        go_simp
        rw [zero_elem]
        have y7 : RowAt (V2.alloc (.cells (uv (List.replicate 8 0)) 30)) V2.heap.size 30 (uv (List.replicate 8 0)) := RowAt.new _ _ _
        have n57 : g5 ≠ V2.heap.size := by have := y5.lt; omega
        replace y5 := y5.alloc (.cells (uv (List.replicate 8 0)) 30)
        have n67 : g6 ≠ V2.heap.size := by have := y6.lt; omega
        replace y6 := y6.alloc (.cells (uv (List.replicate 8 0)) 30)
        have hg7 : wr.heap.size ≤ V2.heap.size := HS2.out.size
        have HS3 := Lib.hid (HS2.out.alloc HS2.out.size (.cells (uv (List.replicate 8 0)) 30))
        refine hK.out _ _ HS3.out ?_
        clear hK K HS2
        (try simp only [Act.put, List.setIfInBounds_toArray, List.set_cons_zero, List.set_cons_succ])
        generalize V2.alloc (.cells (uv (List.replicate 8 0)) 30) = V3 at *
        generalize V2.heap.size = g7 at *
        (refine wpOU_solo (o := ?_) ?_ ?_; rotate_left 1; (simp only [List.getElem?_toArray, List.getElem?_cons_succ, List.getElem?_cons_zero]; with_reducible rfl))
        intro K hK
        rw [if_pos (by rfl)]
        refine wp_store_row _ _ _ rfl g5 (uv x) rfl rfl _ _ y5 (einfo hx) (by rw [ev_size hx, ev_size z8]) (uv_one _) ?_
        have he := Else.setRow V3 g5 (uv x)
        replace y6 := y6.other he (n56.symm)
        replace y7 := y7.other he (n57.symm)
        replace y5 := y5.setRow (uv x)
        have HS4 : Hid (Below wr.heap.size wr (V3.setRow g5 (uv x))) := HS3.out.trans (he.below hg5)
        refine hK.out _ _ HS4.out ?_
        clear hK K he HS3
        (try simp only [Act.put])
        generalize V3.setRow g5 (uv x) = V4 at *
        (refine wpOU_solo (o := ?_) ?_ ?_; rotate_left 1; (simp only [List.getElem?_toArray, List.getElem?_cons_succ, List.getElem?_cons_zero]; with_reducible rfl))
        intro K hK
        rw [if_pos (by rfl)]
        refine wp_store_row _ _ _ rfl g6 (uv y) rfl rfl _ _ y6 (einfo hy) (by rw [ev_size hy, ev_size z8]) (uv_one _) ?_
        have he := Else.setRow V4 g6 (uv y)
        replace y5 := y5.other he (n56)
        replace y7 := y7.other he (n67.symm)
        replace y6 := y6.setRow (uv y)
        have HS5 : Hid (Below wr.heap.size wr (V4.setRow g6 (uv y))) := HS4.out.trans (he.below hg6)
        refine hK.out _ _ HS5.out ?_
        clear hK K he HS4
        (try simp only [Act.put])
        generalize V4.setRow g6 (uv y) = V5 at *
        (refine wpOU_solo (o := ?_) ?_ ?_; rotate_left 1; (simp only [List.getElem?_toArray, List.getElem?_cons_succ, List.getElem?_cons_zero]; with_reducible rfl))
        intro K hK
        rw [if_pos (by rfl)]
        refine wp_store_row _ _ _ rfl g7 (uv z) rfl rfl _ _ y7 (einfo hz) (by rw [ev_size hz, ev_size z8]) (uv_one _) ?_
        have he := Else.setRow V5 g7 (uv z)
        replace y5 := y5.other he (n57)
        replace y6 := y6.other he (n67)
        replace y7 := y7.setRow (uv z)
        have HS6 : Hid (Below wr.heap.size wr (V5.setRow g7 (uv z))) := HS5.out.trans (he.below hg7)
        refine hK.out _ _ HS6.out ?_
        clear hK K he HS5
        (try simp only [Act.put])
        generalize V5.setRow g7 (uv z) = V6 at *
        refine wpOU_done ?_
        go_wp2_with fail
        go_meet
        case rel => exact ⟨g5, g6, g7, rfl, rfl, rfl, r0.below HS6.out r0.lt, y5, y6, y7, HB0.out.trans (HS6.out.mono HB0.out.size)⟩
      · (refine wpOU_solo (o := ?_) ?_ ?_; rotate_left 1; (simp only [List.getElem?_toArray, List.getElem?_cons_succ, List.getElem?_cons_zero]; with_reducible rfl))
        intro K hK
        go_simp
        rw [zero_elem]
        have y7 : RowAt (V1.alloc (.cells (uv (List.replicate 8 0)) 30)) V1.heap.size 30 (uv (List.replicate 8 0)) := RowAt.new _ _ _
        have n57 : g5 ≠ V1.heap.size := by have := y5.lt; omega
        replace y5 := y5.alloc (.cells (uv (List.replicate 8 0)) 30)
        have hg7 : wr.heap.size ≤ V1.heap.size := HS1.out.size
        have HS2 := Lib.hid (HS1.out.alloc HS1.out.size (.cells (uv (List.replicate 8 0)) 30))
        refine hK.out _ _ HS2.out ?_
        clear hK K HS1
        (try simp only [Act.put, List.setIfInBounds_toArray, List.set_cons_zero, List.set_cons_succ])
        generalize V1.alloc (.cells (uv (List.replicate 8 0)) 30) = V2 at *
        generalize V1.heap.size = g7 at *
        (refine wpOU_solo (o := ?_) ?_ ?_; rotate_left 1; (simp only [List.getElem?_toArray, List.getElem?_cons_succ, List.getElem?_cons_zero]; with_reducible rfl))
        intro K hK
        go_simp
        rw [zero_elem]
        have y6 : RowAt (V2.alloc (.cells (uv (List.replicate 8 0)) 30)) V2.heap.size 30 (uv (List.replicate 8 0)) := RowAt.new _ _ _
        have n56 : g5 ≠ V2.heap.size := by have := y5.lt; omega
        replace y5 := y5.alloc (.cells (uv (List.replicate 8 0)) 30)
        have n76 : g7 ≠ V2.heap.size := by have := y7.lt; omega
        replace y7 := y7.alloc (.cells (uv (List.replicate 8 0)) 30)
        have hg6 : wr.heap.size ≤ V2.heap.size := HS2.out.size
        have HS3 := Lib.hid (HS2.out.alloc HS2.out.size (.cells (uv (List.replicate 8 0)) 30))
        refine hK.out _ _ HS3.out ?_
        clear hK K HS2
        (try simp only [Act.put, List.setIfInBounds_toArray, List.set_cons_zero, List.set_cons_succ])
        generalize V2.alloc (.cells (uv (List.replicate 8 0)) 30) = V3 at *
        generalize V2.heap.size = g6 at *
        (refine wpOU_solo (o := ?_) ?_ ?_; rotate_left 1; (simp only [List.getElem?_toArray, List.getElem?_cons_succ, List.getElem?_cons_zero]; with_reducible rfl))
        intro K hK
        rw [if_pos (by rfl)]
        refine wp_store_row _ _ _ rfl g5 (uv x) rfl rfl _ _ y5 (einfo hx) (by rw [ev_size hx, ev_size z8]) (uv_one _) ?_
        have he := Else.setRow V3 g5 (uv x)
        replace y6 := y6.other he (n56.symm)
        replace y7 := y7.other he (n57.symm)
        replace y5 := y5.setRow (uv x)
        have HS4 : Hid (Below wr.heap.size wr (V3.setRow g5 (uv x))) := HS3.out.trans (he.below hg5)
        refine hK.out _ _ HS4.out ?_
        clear hK K he HS3
        (try simp only [Act.put])
        generalize V3.setRow g5 (uv x) = V4 at *
        (refine wpOU_solo (o := ?_) ?_ ?_; rotate_left 1; (simp only [List.getElem?_toArray, List.getElem?_cons_succ, List.getElem?_cons_zero]; with_reducible rfl))
        intro K hK
        rw [if_pos (by rfl)]
        refine wp_store_row _ _ _ rfl g6 (uv y) rfl rfl _ _ y6 (einfo hy) (by rw [ev_size hy, ev_size z8]) (uv_one _) ?_
        have he := Else.setRow V4 g6 (uv y)
        replace y5 := y5.other he (n56)
        replace y7 := y7.other he (n76)
        replace y6 := y6.setRow (uv y)
        have HS5 : Hid (Below wr.heap.size wr (V4.setRow g6 (uv y))) := HS4.out.trans (he.below hg6)
        refine hK.out _ _ HS5.out ?_
        clear hK K he HS4
        (try simp only [Act.put])
        generalize V4.setRow g6 (uv y) = V5 at *
        (refine wpOU_solo (o := ?_) ?_ ?_; rotate_left 1; (simp only [List.getElem?_toArray, List.getElem?_cons_succ, List.getElem?_cons_zero]; with_reducible rfl))
        intro K hK
        rw [if_pos (by rfl)]
        refine wp_store_row _ _ _ rfl g7 (uv z) rfl rfl _ _ y7 (einfo hz) (by rw [ev_size hz, ev_size z8]) (uv_one _) ?_
        have he := Else.setRow V5 g7 (uv z)
        replace y5 := y5.other he (n57)
        replace y6 := y6.other he (n76.symm)
        replace y7 := y7.setRow (uv z)
        have HS6 : Hid (Below wr.heap.size wr (V5.setRow g7 (uv z))) := HS5.out.trans (he.below hg7)
        refine hK.out _ _ HS6.out ?_
        clear hK K he HS5
        (try simp only [Act.put])
        generalize V5.setRow g7 (uv z) = V6 at *
        refine wpOU_done ?_
        go_wp2_with fail
        go_meet
        case rel => exact ⟨g5, g6, g7, rfl, rfl, rfl, r0.below HS6.out r0.lt, y5, y6, y7, HB0.out.trans (HS6.out.mono HB0.out.size)⟩
    · (refine wpOU_solo (o := ?_) ?_ ?_; rotate_left 1; (simp only [List.getElem?_toArray, List.getElem?_cons_succ, List.getElem?_cons_zero]; with_reducible rfl))
      intro K hK
      go_simp
      rw [zero_elem]
      have y6 : RowAt (V.alloc (.cells (uv (List.replicate 8 0)) 30)) V.heap.size 30 (uv (List.replicate 8 0)) := RowAt.new _ _ _
      have hg6 : wr.heap.size ≤ V.heap.size := HS0.out.size
      have HS1 := Lib.hid (HS0.out.alloc HS0.out.size (.cells (uv (List.replicate 8 0)) 30))
      refine hK.out _ _ HS1.out ?_
      clear hK K HS0
      (try simp only [Act.put, List.setIfInBounds_toArray, List.set_cons_zero, List.set_cons_succ])
      generalize V.alloc (.cells (uv (List.replicate 8 0)) 30) = V1 at *
      generalize V.heap.size = g6 at *
      refine wpOU_two ?_ ?_
      · (refine wpOU_solo (o := ?_) ?_ ?_; rotate_left 1; (simp only [List.getElem?_toArray, List.getElem?_cons_succ, List.getElem?_cons_zero]; with_reducible rfl))
        intro K hK
        go_simp
        rw [zero_elem]
        have y5 : RowAt (V1.alloc (.cells (uv (List.replicate 8 0)) 30)) V1.heap.size 30 (uv (List.replicate 8 0)) := RowAt.new _ _ _
        have n65 : g6 ≠ V1.heap.size := by have := y6.lt; omega
        replace y6 := y6.alloc (.cells (uv (List.replicate 8 0)) 30)
        have hg5 : wr.heap.size ≤ V1.heap.size := HS1.out.size
        have HS2 := Lib.hid (HS1.out.alloc HS1.out.size (.cells (uv (List.replicate 8 0)) 30))
        refine hK.out _ _ HS2.out ?_
        clear hK K HS1
        (try simp only [Act.put, List.setIfInBounds_toArray, List.set_cons_zero, List.set_cons_succ])
        generalize V1.alloc (.cells (uv (List.replicate 8 0)) 30) = V2 at *
        generalize V1.heap.size = g5 at *
        (refine wpOU_solo (o := ?_) ?_ ?_; rotate_left 1; (simp only [List.getElem?_toArray, List.getElem?_cons_succ, List.getElem?_cons_zero]; with_reducible rfl))
        intro K hK
        go_simp
        rw [zero_elem]
        have y7 : RowAt (V2.alloc (.cells (uv (List.replicate 8 0)) 30)) V2.heap.size 30 (uv (List.replicate 8 0)) := RowAt.new _ _ _
        have n67 : g6 ≠ V2.heap.size := by have := y6.lt; omega
        replace y6 := y6.alloc (.cells (uv (List.replicate 8 0)) 30)
        have n57 : g5 ≠ V2.heap.size := by have := y5.lt; omega
        replace y5 := y5.alloc (.cells (uv (List.replicate 8 0)) 30)
        have hg7 : wr.heap.size ≤ V2.heap.size := HS2.out.size
        have HS3 := Lib.hid (HS2.out.alloc HS2.out.size (.cells (uv (List.replicate 8 0)) 30))
        refine hK.out _ _ HS3.out ?_
        clear hK K HS2
        (try simp only [Act.put, List.setIfInBounds_toArray, List.set_cons_zero, List.set_cons_succ])
        generalize V2.alloc (.cells (uv (List.replicate 8 0)) 30) = V3 at *
        generalize V2.heap.size = g7 at *
        (refine wpOU_solo (o := ?_) ?_ ?_; rotate_left 1; (simp only [List.getElem?_toArray, List.getElem?_cons_succ, List.getElem?_cons_zero]; with_reducible rfl))
        intro K hK
        rw [if_pos (by rfl)]
        refine wp_store_row _ _ _ rfl g5 (uv x) rfl rfl _ _ y5 (einfo hx) (by rw [ev_size hx, ev_size z8]) (uv_one _) ?_
        have he := Else.setRow V3 g5 (uv x)
        replace y6 := y6.other he (n65)
        replace y7 := y7.other he (n57.symm)
        replace y5 := y5.setRow (uv x)
        have HS4 : Hid (Below wr.heap.size wr (V3.setRow g5 (uv x))) := HS3.out.trans (he.below hg5)
        refine hK.out _ _ HS4.out ?_
        clear hK K he HS3
        (try simp only [Act.put])
        generalize V3.setRow g5 (uv x) = V4 at *
        (refine wpOU_solo (o := ?_) ?_ ?_; rotate_left 1; (simp only [List.getElem?_toArray, List.getElem?_cons_succ, List.getElem?_cons_zero]; with_reducible rfl))
        intro K hK
        rw [if_pos (by rfl)]
        refine wp_store_row _ _ _ rfl g6 (uv y) rfl rfl _ _ y6 (einfo hy) (by rw [ev_size hy, ev_size z8]) (uv_one _) ?_
        have he := Else.setRow V4 g6 (uv y)
        replace y5 := y5.other he (n65.symm)
        replace y7 := y7.other he (n67.symm)
        replace y6 := y6.setRow (uv y)
        have HS5 : Hid (Below wr.heap.size wr (V4.setRow g6 (uv y))) := HS4.out.trans (he.below hg6)
        refine hK.out _ _ HS5.out ?_
        clear hK K he HS4
        (try simp only [Act.put])
        generalize V4.setRow g6 (uv y) = V5 at *
        (refine wpOU_solo (o := ?_) ?_ ?_; rotate_left 1; (simp only [List.getElem?_toArray, List.getElem?_cons_succ, List.getElem?_cons_zero]; with_reducible rfl))
        intro K hK
        rw [if_pos (by rfl)]
        refine wp_store_row _ _ _ rfl g7 (uv z) rfl rfl _ _ y7 (einfo hz) (by rw [ev_size hz, ev_size z8]) (uv_one _) ?_
        have he := Else.setRow V5 g7 (uv z)
        replace y5 := y5.other he (n57)
        replace y6 := y6.other he (n67)
        replace y7 := y7.setRow (uv z)
        have HS6 : Hid (Below wr.heap.size wr (V5.setRow g7 (uv z))) := HS5.out.trans (he.below hg7)
        refine hK.out _ _ HS6.out ?_
        clear hK K he HS5
        (try simp only [Act.put])
        generalize V5.setRow g7 (uv z) = V6 at *
        refine wpOU_done ?_
        go_wp2_with fail
        go_meet
        case rel => exact ⟨g5, g6, g7, rfl, rfl, rfl, r0.below HS6.out r0.lt, y5, y6, y7, HB0.out.trans (HS6.out.mono HB0.out.size)⟩
      · (refine wpOU_solo (o := ?_) ?_ ?_; rotate_left 1; (simp only [List.getElem?_toArray, List.getElem?_cons_succ, List.getElem?_cons_zero]; with_reducible rfl))
        intro K hK
        go_simp
        rw [zero_elem]
        have y7 : RowAt (V1.alloc (.cells (uv (List.replicate 8 0)) 30)) V1.heap.size 30 (uv (List.replicate 8 0)) := RowAt.new _ _ _
        have n67 : g6 ≠ V1.heap.size := by have := y6.lt; omega
        replace y6 := y6.alloc (.cells (uv (List.replicate 8 0)) 30)
        have hg7 : wr.heap.size ≤ V1.heap.size := HS1.out.size
        have HS2 := Lib.hid (HS1.out.alloc HS1.out.size (.cells (uv (List.replicate 8 0)) 30))
        refine hK.out _ _ HS2.out ?_
        clear hK K HS1
        (try simp only [Act.put, List.setIfInBounds_toArray, List.set_cons_zero, List.set_cons_succ])
        generalize V1.alloc (.cells (uv (List.replicate 8 0)) 30) = V2 at *
        generalize V1.heap.size = g7 at *
        (refine wpOU_solo (o := ?_) ?_ ?_; rotate_left 1; (simp only [List.getElem?_toArray, List.getElem?_cons_succ, List.getElem?_cons_zero]; with_reducible rfl))
        intro K hK
        go_simp
        rw [zero_elem]
        have y5 : RowAt (V2.alloc (.cells (uv (List.replicate 8 0)) 30)) V2.heap.size 30 (uv (List.replicate 8 0)) := RowAt.new _ _ _
        have n65 : g6 ≠ V2.heap.size := by have := y6.lt; omega
        replace y6 := y6.alloc (.cells (uv (List.replicate 8 0)) 30)
        have n75 : g7 ≠ V2.heap.size := by have := y7.lt; omega
        replace y7 := y7.alloc (.cells (uv (List.replicate 8 0)) 30)
        have hg5 : wr.heap.size ≤ V2.heap.size := HS2.out.size
        have HS3 := Lib.hid (HS2.out.alloc HS2.out.size (.cells (uv (List.replicate 8 0)) 30))
        refine hK.out _ _ HS3.out ?_
        clear hK K HS2
        (try simp only [Act.put, List.setIfInBounds_toArray, List.set_cons_zero, List.set_cons_succ])
        generalize V2.alloc (.cells (uv (List.replicate 8 0)) 30) = V3 at *
        generalize V2.heap.size = g5 at *
        (refine wpOU_solo (o := ?_) ?_ ?_; rotate_left 1; (simp only [List.getElem?_toArray, List.getElem?_cons_succ, List.getElem?_cons_zero]; with_reducible rfl))
        intro K hK
        rw [if_pos (by rfl)]
        refine wp_store_row _ _ _ rfl g5 (uv x) rfl rfl _ _ y5 (einfo hx) (by rw [ev_size hx, ev_size z8]) (uv_one _) ?_
        have he := Else.setRow V3 g5 (uv x)
        replace y6 := y6.other he (n65)
        replace y7 := y7.other he (n75)
        replace y5 := y5.setRow (uv x)
        have HS4 : Hid (Below wr.heap.size wr (V3.setRow g5 (uv x))) := HS3.out.trans (he.below hg5)
        refine hK.out _ _ HS4.out ?_
        clear hK K he HS3
        (try simp only [Act.put])
        generalize V3.setRow g5 (uv x) = V4 at *
        (refine wpOU_solo (o := ?_) ?_ ?_; rotate_left 1; (simp only [List.getElem?_toArray, List.getElem?_cons_succ, List.getElem?_cons_zero]; with_reducible rfl))
        intro K hK
        rw [if_pos (by rfl)]
        refine wp_store_row _ _ _ rfl g6 (uv y) rfl rfl _ _ y6 (einfo hy) (by rw [ev_size hy, ev_size z8]) (uv_one _) ?_
        have he := Else.setRow V4 g6 (uv y)
        replace y5 := y5.other he (n65.symm)
        replace y7 := y7.other he (n67.symm)
        replace y6 := y6.setRow (uv y)
        have HS5 : Hid (Below wr.heap.size wr (V4.setRow g6 (uv y))) := HS4.out.trans (he.below hg6)
        refine hK.out _ _ HS5.out ?_
        clear hK K he HS4
        (try simp only [Act.put])
        generalize V4.setRow g6 (uv y) = V5 at *
        (refine wpOU_solo (o := ?_) ?_ ?_; rotate_left 1; (simp only [List.getElem?_toArray, List.getElem?_cons_succ, List.getElem?_cons_zero]; with_reducible rfl))
        intro K hK
        rw [if_pos (by rfl)]
        refine wp_store_row _ _ _ rfl g7 (uv z) rfl rfl _ _ y7 (einfo hz) (by rw [ev_size hz, ev_size z8]) (uv_one _) ?_
        have he := Else.setRow V5 g7 (uv z)
        replace y5 := y5.other he (n75.symm)
        replace y6 := y6.other he (n67)
        replace y7 := y7.setRow (uv z)
        have HS6 : Hid (Below wr.heap.size wr (V5.setRow g7 (uv z))) := HS5.out.trans (he.below hg7)
        refine hK.out _ _ HS6.out ?_
        clear hK K he HS5
        (try simp only [Act.put])
        generalize V5.setRow g7 (uv z) = V6 at *
        refine wpOU_done ?_
        go_wp2_with fail
        go_meet
        case rel => exact ⟨g5, g6, g7, rfl, rfl, rfl, r0.below HS6.out r0.lt, y5, y6, y7, HB0.out.trans (HS6.out.mono HB0.out.size)⟩
    · (refine wpOU_solo (o := ?_) ?_ ?_; rotate_left 1; (simp only [List.getElem?_toArray, List.getElem?_cons_succ, List.getElem?_cons_zero]; with_reducible rfl))
      intro K hK
      go_simp
      rw [zero_elem]
      have y7 : RowAt (V.alloc (.cells (uv (List.replicate 8 0)) 30)) V.heap.size 30 (uv (List.replicate 8 0)) := RowAt.new _ _ _
      have hg7 : wr.heap.size ≤ V.heap.size := HS0.out.size
      have HS1 := Lib.hid (HS0.out.alloc HS0.out.size (.cells (uv (List.replicate 8 0)) 30))
      refine hK.out _ _ HS1.out ?_
      clear hK K HS0
      (try simp only [Act.put, List.setIfInBounds_toArray, List.set_cons_zero, List.set_cons_succ])
      generalize V.alloc (.cells (uv (List.replicate 8 0)) 30) = V1 at *
      generalize V.heap.size = g7 at *
      refine wpOU_two ?_ ?_
      · (refine wpOU_solo (o := ?_) ?_ ?_; rotate_left 1; (simp only [List.getElem?_toArray, List.getElem?_cons_succ, List.getElem?_cons_zero]; with_reducible rfl))
        intro K hK
        go_simp
        rw [zero_elem]
        have y5 : RowAt (V1.alloc (.cells (uv (List.replicate 8 0)) 30)) V1.heap.size 30 (uv (List.replicate 8 0)) := RowAt.new _ _ _
        have n75 : g7 ≠ V1.heap.size := by have := y7.lt; omega
        replace y7 := y7.alloc (.cells (uv (List.replicate 8 0)) 30)
        have hg5 : wr.heap.size ≤ V1.heap.size := HS1.out.size
        have HS2 := Lib.hid (HS1.out.alloc HS1.out.size (.cells (uv (List.replicate 8 0)) 30))
        refine hK.out _ _ HS2.out ?_
        clear hK K HS1
        (try simp only [Act.put, List.setIfInBounds_toArray, List.set_cons_zero, List.set_cons_succ])
        generalize V1.alloc (.cells (uv (List.replicate 8 0)) 30) = V2 at *
        generalize V1.heap.size = g5 at *
        (refine wpOU_solo (o := ?_) ?_ ?_; rotate_left 1; (simp only [List.getElem?_toArray, List.getElem?_cons_succ, List.getElem?_cons_zero]; with_reducible rfl))
        intro K hK
        go_simp
        rw [zero_elem]
        have y6 : RowAt (V2.alloc (.cells (uv (List.replicate 8 0)) 30)) V2.heap.size 30 (uv (List.replicate 8 0)) := RowAt.new _ _ _
        have n76 : g7 ≠ V2.heap.size := by have := y7.lt; omega
        replace y7 := y7.alloc (.cells (uv (List.replicate 8 0)) 30)
        have n56 : g5 ≠ V2.heap.size := by have := y5.lt; omega
        replace y5 := y5.alloc (.cells (uv (List.replicate 8 0)) 30)
        have hg6 : wr.heap.size ≤ V2.heap.size := HS2.out.size
        have HS3 := Lib.hid (HS2.out.alloc HS2.out.size (.cells (uv (List.replicate 8 0)) 30))
        refine hK.out _ _ HS3.out ?_
        clear hK K HS2
        (try simp only [Act.put, List.setIfInBounds_toArray, List.set_cons_zero, List.set_cons_succ])
        generalize V2.alloc (.cells (uv (List.replicate 8 0)) 30) = V3 at *
        generalize V2.heap.size = g6 at *
        (refine wpOU_solo (o := ?_) ?_ ?_; rotate_left 1; (simp only [List.getElem?_toArray, List.getElem?_cons_succ, List.getElem?_cons_zero]; with_reducible rfl))
        intro K hK
        rw [if_pos (by rfl)]
        refine wp_store_row _ _ _ rfl g5 (uv x) rfl rfl _ _ y5 (einfo hx) (by rw [ev_size hx, ev_size z8]) (uv_one _) ?_
        have he := Else.setRow V3 g5 (uv x)
        replace y6 := y6.other he (n56.symm)
        replace y7 := y7.other he (n75)
        replace y5 := y5.setRow (uv x)
        have HS4 : Hid (Below wr.heap.size wr (V3.setRow g5 (uv x))) := HS3.out.trans (he.below hg5)
        refine hK.out _ _ HS4.out ?_
        clear hK K he HS3
        (try simp only [Act.put])
        generalize V3.setRow g5 (uv x) = V4 at *
        (refine wpOU_solo (o := ?_) ?_ ?_; rotate_left 1; (simp only [List.getElem?_toArray, List.getElem?_cons_succ, List.getElem?_cons_zero]; with_reducible rfl))
        intro K hK
        rw [if_pos (by rfl)]
        refine wp_store_row _ _ _ rfl g6 (uv y) rfl rfl _ _ y6 (einfo hy) (by rw [ev_size hy, ev_size z8]) (uv_one _) ?_
        have he := Else.setRow V4 g6 (uv y)
        replace y5 := y5.other he (n56)
        replace y7 := y7.other he (n76)
        replace y6 := y6.setRow (uv y)
        have HS5 : Hid (Below wr.heap.size wr (V4.setRow g6 (uv y))) := HS4.out.trans (he.below hg6)
        refine hK.out _ _ HS5.out ?_
        clear hK K he HS4
        (try simp only [Act.put])
        generalize V4.setRow g6 (uv y) = V5 at *
        (refine wpOU_solo (o := ?_) ?_ ?_; rotate_left 1; (simp only [List.getElem?_toArray, List.getElem?_cons_succ, List.getElem?_cons_zero]; with_reducible rfl))
        intro K hK
        rw [if_pos (by rfl)]
        refine wp_store_row _ _ _ rfl g7 (uv z) rfl rfl _ _ y7 (einfo hz) (by rw [ev_size hz, ev_size z8]) (uv_one _) ?_
        have he := Else.setRow V5 g7 (uv z)
        replace y5 := y5.other he (n75.symm)
        replace y6 := y6.other he (n76.symm)
        replace y7 := y7.setRow (uv z)
        have HS6 : Hid (Below wr.heap.size wr (V5.setRow g7 (uv z))) := HS5.out.trans (he.below hg7)
        refine hK.out _ _ HS6.out ?_
        clear hK K he HS5
        (try simp only [Act.put])
        generalize V5.setRow g7 (uv z) = V6 at *
        refine wpOU_done ?_
        go_wp2_with fail
        go_meet
        case rel => exact ⟨g5, g6, g7, rfl, rfl, rfl, r0.below HS6.out r0.lt, y5, y6, y7, HB0.out.trans (HS6.out.mono HB0.out.size)⟩
      · (refine wpOU_solo (o := ?_) ?_ ?_; rotate_left 1; (simp only [List.getElem?_toArray, List.getElem?_cons_succ, List.getElem?_cons_zero]; with_reducible rfl))
        intro K hK
        go_simp
        rw [zero_elem]
        have y6 : RowAt (V1.alloc (.cells (uv (List.replicate 8 0)) 30)) V1.heap.size 30 (uv (List.replicate 8 0)) := RowAt.new _ _ _
        have n76 : g7 ≠ V1.heap.size := by have := y7.lt; omega
        replace y7 := y7.alloc (.cells (uv (List.replicate 8 0)) 30)
        have hg6 : wr.heap.size ≤ V1.heap.size := HS1.out.size
        have HS2 := Lib.hid (HS1.out.alloc HS1.out.size (.cells (uv (List.replicate 8 0)) 30))
        refine hK.out _ _ HS2.out ?_
        clear hK K HS1
        (try simp only [Act.put, List.setIfInBounds_toArray, List.set_cons_zero, List.set_cons_succ])
        generalize V1.alloc (.cells (uv (List.replicate 8 0)) 30) = V2 at *
        generalize V1.heap.size = g6 at *
        (refine wpOU_solo (o := ?_) ?_ ?_; rotate_left 1; (simp only [List.getElem?_toArray, List.getElem?_cons_succ, List.getElem?_cons_zero]; with_reducible rfl))
        intro K hK
        go_simp
        rw [zero_elem]
        have y5 : RowAt (V2.alloc (.cells (uv (List.replicate 8 0)) 30)) V2.heap.size 30 (uv (List.replicate 8 0)) := RowAt.new _ _ _
        have n75 : g7 ≠ V2.heap.size := by have := y7.lt; omega
        replace y7 := y7.alloc (.cells (uv (List.replicate 8 0)) 30)
        have n65 : g6 ≠ V2.heap.size := by have := y6.lt; omega
        replace y6 := y6.alloc (.cells (uv (List.replicate 8 0)) 30)
        have hg5 : wr.heap.size ≤ V2.heap.size := HS2.out.size
        have HS3 := Lib.hid (HS2.out.alloc HS2.out.size (.cells (uv (List.replicate 8 0)) 30))
        refine hK.out _ _ HS3.out ?_
        clear hK K HS2
        (try simp only [Act.put, List.setIfInBounds_toArray, List.set_cons_zero, List.set_cons_succ])
        generalize V2.alloc (.cells (uv (List.replicate 8 0)) 30) = V3 at *
        generalize V2.heap.size = g5 at *
        (refine wpOU_solo (o := ?_) ?_ ?_; rotate_left 1; (simp only [List.getElem?_toArray, List.getElem?_cons_succ, List.getElem?_cons_zero]; with_reducible rfl))
        intro K hK
        rw [if_pos (by rfl)]
        refine wp_store_row _ _ _ rfl g5 (uv x) rfl rfl _ _ y5 (einfo hx) (by rw [ev_size hx, ev_size z8]) (uv_one _) ?_
        have he := Else.setRow V3 g5 (uv x)
        replace y6 := y6.other he (n65)
        replace y7 := y7.other he (n75)
        replace y5 := y5.setRow (uv x)
        have HS4 : Hid (Below wr.heap.size wr (V3.setRow g5 (uv x))) := HS3.out.trans (he.below hg5)
        refine hK.out _ _ HS4.out ?_
        clear hK K he HS3
        (try simp only [Act.put])
        generalize V3.setRow g5 (uv x) = V4 at *
        (refine wpOU_solo (o := ?_) ?_ ?_; rotate_left 1; (simp only [List.getElem?_toArray, List.getElem?_cons_succ, List.getElem?_cons_zero]; with_reducible rfl))
        intro K hK
        rw [if_pos (by rfl)]
        refine wp_store_row _ _ _ rfl g6 (uv y) rfl rfl _ _ y6 (einfo hy) (by rw [ev_size hy, ev_size z8]) (uv_one _) ?_
        have he := Else.setRow V4 g6 (uv y)
        replace y5 := y5.other he (n65.symm)
        replace y7 := y7.other he (n76)
        replace y6 := y6.setRow (uv y)
        have HS5 : Hid (Below wr.heap.size wr (V4.setRow g6 (uv y))) := HS4.out.trans (he.below hg6)
        refine hK.out _ _ HS5.out ?_
        clear hK K he HS4
        (try simp only [Act.put])
        generalize V4.setRow g6 (uv y) = V5 at *
        (refine wpOU_solo (o := ?_) ?_ ?_; rotate_left 1; (simp only [List.getElem?_toArray, List.getElem?_cons_succ, List.getElem?_cons_zero]; with_reducible rfl))
        intro K hK
        rw [if_pos (by rfl)]
        refine wp_store_row _ _ _ rfl g7 (uv z) rfl rfl _ _ y7 (einfo hz) (by rw [ev_size hz, ev_size z8]) (uv_one _) ?_
        have he := Else.setRow V5 g7 (uv z)
        replace y5 := y5.other he (n75.symm)
        replace y6 := y6.other he (n76.symm)
        replace y7 := y7.setRow (uv z)
        have HS6 : Hid (Below wr.heap.size wr (V5.setRow g7 (uv z))) := HS5.out.trans (he.below hg7)
        refine hK.out _ _ HS6.out ?_
        clear hK K he HS5
        (try simp only [Act.put])
        generalize V5.setRow g7 (uv z) = V6 at *
        refine wpOU_done ?_
        go_wp2_with fail
        go_meet
        case rel => exact ⟨g5, g6, g7, rfl, rfl, rfl, r0.below HS6.out r0.lt, y5, y6, y7, HB0.out.trans (HS6.out.mono HB0.out.size)⟩
  case rest =>
    clear r0 q0 HX HB0 h0
    obtain ⟨g5, g6, g7, rfl, rfl, rfl, r0, x0, y0, z0, hb0⟩ := hcut
    have HB0 := Lib.hid hb0; clear hb0
    go_wp2_with (first | (refine wpList_loadShape (by rfl) _ rfl w.heap.size rfl t A n c r0 ?_))
    refine (HBG.out _ HB0.out).mono ?_
    rintro e w1 ⟨rfl, hb⟩
    have r1 := r0.below hb r0.lt
    have x1 := x0.below hb x0.lt
    have y1 := y0.below hb y0.lt
    have z1 := z0.below hb z0.lt
    have HB1 := Lib.hid (HB0.out.trans (hb.mono HB0.out.size))
    clear hb r0 x0 y0 z0 HB0
    cases hbg : bigB fs with
    | true =>
      go_wp2_with fail
      refine (HAL.out _ HB1.out).mono ?_
      rintro e w9 ⟨rfl, hb⟩
      have HB9 := Lib.hid (HB1.out.trans (hb.mono HB1.out.size)); clear hb
      go_wp2_with fail
      go_ret
      exact ⟨rfl, HB9.out⟩
    | false =>
      have CX := HFI.out x hx
      cases hfx : fitsE t fs x with
      | false =>
        rw [hfx] at CX
        replace CX := Lib.hid CX
        go_wp2_with (first | (refine wpList_loadShape (by rfl) _ rfl w.heap.size rfl t A n c r1 ?_) | (refine wpList_loadElem (by rfl) _ rfl g5 rfl _ hx x1 ?_))
        refine (CX.out _ HB1.out).mono ?_
        rintro e w2 ⟨rfl, hb⟩
        have r2 := r1.below hb r1.lt
        have x2 := x1.below hb x1.lt
        have y2 := y1.below hb y1.lt
        have z2 := z1.below hb z1.lt
        have HB2 := Lib.hid (HB1.out.trans (hb.mono HB1.out.size))
        clear hb r1 x1 y1 z1 HB1
        go_wp2_with fail
        refine (HAL.out _ HB2.out).mono ?_
        rintro e w9 ⟨rfl, hb⟩
        have HB9 := Lib.hid (HB2.out.trans (hb.mono HB2.out.size)); clear hb
        go_wp2_with fail
        go_ret
        exact ⟨rfl, HB9.out⟩
      | true =>
        rw [hfx] at CX
        replace CX := Lib.hid CX
        go_wp2_with (first | (refine wpList_loadShape (by rfl) _ rfl w.heap.size rfl t A n c r1 ?_) | (refine wpList_loadElem (by rfl) _ rfl g5 rfl _ hx x1 ?_))
        refine (CX.out _ HB1.out).mono ?_
        rintro e w2 ⟨rfl, hb⟩
        have r2 := r1.below hb r1.lt
        have x2 := x1.below hb x1.lt
        have y2 := y1.below hb y1.lt
        have z2 := z1.below hb z1.lt
        have HB2 := Lib.hid (HB1.out.trans (hb.mono HB1.out.size))
        clear hb r1 x1 y1 z1 HB1
        have CY := HFI.out y hy
        cases hfy : fitsE t fs y with
        | false =>
          rw [hfy] at CY
          replace CY := Lib.hid CY
          go_wp2_with (first | (refine wpList_loadShape (by rfl) _ rfl w.heap.size rfl t A n c r2 ?_) | (refine wpList_loadElem (by rfl) _ rfl g6 rfl _ hy y2 ?_))
          refine (CY.out _ HB2.out).mono ?_
          rintro e w3 ⟨rfl, hb⟩
          have r3 := r2.below hb r2.lt
          have x3 := x2.below hb x2.lt
          have y3 := y2.below hb y2.lt
          have z3 := z2.below hb z2.lt
          have HB3 := Lib.hid (HB2.out.trans (hb.mono HB2.out.size))
          clear hb r2 x2 y2 z2 HB2
          go_wp2_with fail
          refine (HAL.out _ HB3.out).mono ?_
          rintro e w9 ⟨rfl, hb⟩
          have HB9 := Lib.hid (HB3.out.trans (hb.mono HB3.out.size)); clear hb
          go_wp2_with fail
          go_ret
          exact ⟨rfl, HB9.out⟩
        | true =>
          rw [hfy] at CY
          replace CY := Lib.hid CY
          go_wp2_with (first | (refine wpList_loadShape (by rfl) _ rfl w.heap.size rfl t A n c r2 ?_) | (refine wpList_loadElem (by rfl) _ rfl g6 rfl _ hy y2 ?_))
          refine (CY.out _ HB2.out).mono ?_
          rintro e w3 ⟨rfl, hb⟩
          have r3 := r2.below hb r2.lt
          have x3 := x2.below hb x2.lt
          have y3 := y2.below hb y2.lt
          have z3 := z2.below hb z2.lt
          have HB3 := Lib.hid (HB2.out.trans (hb.mono HB2.out.size))
          clear hb r2 x2 y2 z2 HB2
          have CZ := HFI.out z hz
          cases hfz : fitsE t fs z with
          | false =>
            rw [hfz] at CZ
            replace CZ := Lib.hid CZ
            go_wp2_with (first | (refine wpList_loadShape (by rfl) _ rfl w.heap.size rfl t A n c r3 ?_) | (refine wpList_loadElem (by rfl) _ rfl g7 rfl _ hz z3 ?_))
            refine (CZ.out _ HB3.out).mono ?_
            rintro e w4 ⟨rfl, hb⟩
            have r4 := r3.below hb r3.lt
            have x4 := x3.below hb x3.lt
            have y4 := y3.below hb y3.lt
            have z4 := z3.below hb z3.lt
            have HB4 := Lib.hid (HB3.out.trans (hb.mono HB3.out.size))
            clear hb r3 x3 y3 z3 HB3
            go_wp2_with fail
            refine (HAL.out _ HB4.out).mono ?_
            rintro e w9 ⟨rfl, hb⟩
            have HB9 := Lib.hid (HB4.out.trans (hb.mono HB4.out.size)); clear hb
            go_wp2_with fail
            go_ret
            exact ⟨rfl, HB9.out⟩
          | true =>
            rw [hfz] at CZ
            replace CZ := Lib.hid CZ
            go_wp2_with (first | (refine wpList_loadShape (by rfl) _ rfl w.heap.size rfl t A n c r3 ?_) | (refine wpList_loadElem (by rfl) _ rfl g7 rfl _ hz z3 ?_))
            refine (CZ.out _ HB3.out).mono ?_
            rintro e w4 ⟨rfl, hb⟩
            have r4 := r3.below hb r3.lt
            have x4 := x3.below hb x3.lt
            have y4 := y3.below hb y3.lt
            have z4 := z3.below hb z3.lt
            have HB4 := Lib.hid (HB3.out.trans (hb.mono HB3.out.size))
            clear hb r3 x3 y3 z3 HB3
            have hj := joinE_ew fs hx hy
            have hm := meetE_ew y hx
            have hd := joinE_ew fs hy hz
            have he := joinE_ew fs hx hd
            have CJ1 := Lib.hid (HJN.out x y hx hy)
            have CJ2 := Lib.hid (HJN.out y z hy hz)
            have CJ3 := Lib.hid (HJN.out x _ hx hd)
            have CJ4 := HJN.out _ z hj hz
            rw [← join_assoc hx hy hz hfx hfy hfz] at CJ4
            replace CJ4 := Lib.hid CJ4
            have CJ5 := HJN.out x _ hx hm
            rw [join_absorb hx hfx hfy] at CJ5
            replace CJ5 := Lib.hid CJ5
            have CM1 := Lib.hid (HME.out x y hx hy)
            have CM2 := HME.out x _ hx hj
            rw [meet_absorb hx hfx hfy] at CM2
            replace CM2 := Lib.hid CM2
            have CF1 := HFI.out _ hj
            rw [fits_join hfx hfy] at CF1
            replace CF1 := Lib.hid CF1
            have CF2 := HFI.out _ hm
            rw [fits_meet hfx hfy] at CF2
            replace CF2 := Lib.hid CF2
            have CK1 := HLE.out x _ hx hj
            rw [leq_joinL hfx hfy] at CK1
            replace CK1 := Lib.hid CK1
            have CK2 := HLE.out y _ hy hj
            rw [leq_joinR hfx hfy] at CK2
            replace CK2 := Lib.hid CK2
            have CK3 := HLE.out _ x hm hx
            rw [leq_meetL] at CK3
            replace CK3 := Lib.hid CK3
            have CK4 := HLE.out _ y hm hy
            rw [leq_meetR] at CK4
            replace CK4 := Lib.hid CK4
            have CL1 := HLE.out _ x HEB.out hx
            rw [bot_leq hfx] at CL1
            replace CL1 := Lib.hid CL1
            have CL2 := HLE.out x _ hx HET.out
            rw [leq_top hfx] at CL2
            replace CL2 := Lib.hid CL2
            have HLUB : Hid (leqE x z = true → leqE y z = true → leqE (joinE fs x y) z = true) := fun h1 h2 => join_lub hfx hfy hfz h1 h2
            have HGLB : Hid (leqE z x = true → leqE z y = true → leqE z (meetE x y) = true) := fun h1 h2 => meet_glb h1 h2
            clear hbg HBG hfx hfy hfz CX CY CZ HFI HEB HET
            generalize joinE fs x (joinE fs y z) = e at *
            generalize joinE fs y z = d at *
            generalize joinE fs x y = j at *
            generalize meetE x y = m at *
            generalize endE t fs botW = bo at *
            generalize endE t fs topW = tp at *
            clear HJN HME
            go_wp2_with fail
            go_upto_region 4 with fail
            obtain ⟨wr, hwr⟩ : ∃ wr : World, wr = w4 := ⟨_, rfl⟩
            subst hwr
            go_cut [8, 9] from 37 to 43 (fun p8 p9 wx => ∃ g8 g9 : Nat, p8 = .pointer (some ⟨g8, 0, none⟩) ∧ p9 = .pointer (some ⟨g9, 0, none⟩) ∧ RowAt wx w.heap.size 24 (sv t A n c) ∧ RowAt wx g5 30 (uv x) ∧ RowAt wx g6 30 (uv y) ∧ RowAt wx g7 30 (uv z) ∧ RowAt wx g8 30 (uv j) ∧ RowAt wx g9 30 (uv m) ∧ Below w.heap.size w wx)
            case first =>
              have HS0 : Hid (Below wr.heap.size wr wr.drew) := (Below.refl _ _).drew
              have pR : ∀ w', Below wr.heap.size wr w' → RowAt w' w.heap.size 24 (sv t A n c) := fun w' h => r4.below h r4.lt
              have pX : ∀ w', Below wr.heap.size wr w' → RowAt w' g5 30 (uv x) := fun w' h => x4.below h x4.lt
              have pY : ∀ w', Below wr.heap.size wr w' → RowAt w' g6 30 (uv y) := fun w' h => y4.below h y4.lt
              refine wp_region_ou (fun w' => Below wr.heap.size wr w') (.take 0 (.take 1 (.take 2 (.take 4 (.take 5 (.three 3 (.three 6 (.two 7 (.solo 8 (.solo 9 (.solo 10 .nil))) 8 (.solo 7 (.solo 9 (.solo 10 .nil)))) 7 (.two 6 (.solo 8 (.solo 9 (.solo 10 .nil))) 8 (.solo 6 (.solo 9 (.solo 10 .nil)))) 8 (.two 6 (.solo 7 (.solo 9 (.solo 10 .nil))) 7 (.solo 6 (.solo 9 (.solo 10 .nil))))) 7 (.two 3 (.two 6 (.solo 8 (.solo 9 (.solo 10 .nil))) 8 (.solo 6 (.solo 9 (.solo 10 .nil)))) 8 (.solo 3 (.solo 6 (.solo 9 (.solo 10 .nil))))) 8 (.two 3 (.two 6 (.solo 7 (.solo 9 (.solo 10 .nil))) 7 (.solo 6 (.solo 9 (.solo 10 .nil)))) 7 (.solo 3 (.solo 6 (.solo 9 (.solo 10 .nil))))))))))) (by kernel_rfl) (by kernel_rfl) rfl (by kernel_rfl) HS0.out ?_
              generalize wr.drew = V at HS0 ⊢
              iterate 5
                (refine wpOU_step (o := ?_) ?_ ?_; rotate_left 1; (simp only [List.getElem?_toArray, List.getElem?_cons_succ, List.getElem?_cons_zero]; with_reducible rfl))
                (first
                    | (refine wpOU_skip (by rfl) ?_)
                    | (refine wpOU_take (by rfl) (take_loadShape _ rfl _ rfl _ _ _ _ pR) ?_)
                    | (refine wpOU_take (by rfl) (take_loadElem _ rfl _ rfl _ hx pX) ?_)
                    | (refine wpOU_take (by rfl) (take_loadElem _ rfl _ rfl _ hy pY) ?_)
                    | (refine wpOU_take (v := ?_) (by rfl) ?_ ?_; rotate_left 1; (intro wx hSx; go_simp; try with_reducible rfl)))
                (try simp only [Act.put, List.setIfInBounds_toArray, List.set_cons_zero, List.set_cons_succ])
              clear pX pY pR CJ2 CJ3 CJ4 CJ5 CM2 CF1 CF2 CK1 CK2 CK3 CK4 CL1 CL2 HLUB HGLB HLE HAL CBO CTO
              refine wpOU_three ?_ ?_ ?_
              · (refine wpOU_solo (o := ?_) ?_ ?_; rotate_left 1; (simp only [List.getElem?_toArray, List.getElem?_cons_succ, List.getElem?_cons_zero]; with_reducible rfl))
                intro K hK
                go_simp
                refine (CJ1.out _ (HB4.out.trans (HS0.out.mono HB4.out.size))).mono ?_
                rintro e V1 ⟨rfl, hb⟩
                have HS1 := Lib.hid (HS0.out.trans (hb.mono HS0.out.size))
                refine hK.out _ _ HS1.out ?_
                clear hK K hb HS0
                (try simp only [Act.put, List.setIfInBounds_toArray, List.set_cons_zero, List.set_cons_succ])
                refine wpOU_three ?_ ?_ ?_
                · (refine wpOU_solo (o := ?_) ?_ ?_; rotate_left 1; (simp only [List.getElem?_toArray, List.getElem?_cons_succ, List.getElem?_cons_zero]; with_reducible rfl))
                  intro K hK
                  go_simp
                  refine (CM1.out _ (HB4.out.trans (HS1.out.mono HB4.out.size))).mono ?_
                  rintro e V2 ⟨rfl, hb⟩
                  have HS2 := Lib.hid (HS1.out.trans (hb.mono HS1.out.size))
                  refine hK.out _ _ HS2.out ?_
                  clear hK K hb HS1
                  (try simp only [Act.put, List.setIfInBounds_toArray, List.set_cons_zero, List.set_cons_succ])
                  refine wpOU_two ?_ ?_
                  · (refine wpOU_solo (o := ?_) ?_ ?_; rotate_left 1; (simp only [List.getElem?_toArray, List.getElem?_cons_succ, List.getElem?_cons_zero]; with_reducible rfl))
                    intro K hK
                    go_simp
                    rw [zero_elem]
                    have y8 : RowAt (V2.alloc (.cells (uv (List.replicate 8 0)) 30)) V2.heap.size 30 (uv (List.replicate 8 0)) := RowAt.new _ _ _
                    have hg8 : wr.heap.size ≤ V2.heap.size := HS2.out.size
                    have HS3 := Lib.hid (HS2.out.alloc HS2.out.size (.cells (uv (List.replicate 8 0)) 30))
                    refine hK.out _ _ HS3.out ?_
                    clear hK K HS2
                    (try simp only [Act.put, List.setIfInBounds_toArray, List.set_cons_zero, List.set_cons_succ])
                    generalize V2.alloc (.cells (uv (List.replicate 8 0)) 30) = V3 at *
                    generalize V2.heap.size = g8 at *
                    (refine wpOU_solo (o := ?_) ?_ ?_; rotate_left 1; (simp only [List.getElem?_toArray, List.getElem?_cons_succ, List.getElem?_cons_zero]; with_reducible rfl))
                    intro K hK
                    go_simp
                    rw [zero_elem]
                    have y9 : RowAt (V3.alloc (.cells (uv (List.replicate 8 0)) 30)) V3.heap.size 30 (uv (List.replicate 8 0)) := RowAt.new _ _ _
                    have n89 : g8 ≠ V3.heap.size := by have := y8.lt; omega
                    replace y8 := y8.alloc (.cells (uv (List.replicate 8 0)) 30)
                    have hg9 : wr.heap.size ≤ V3.heap.size := HS3.out.size
                    have HS4 := Lib.hid (HS3.out.alloc HS3.out.size (.cells (uv (List.replicate 8 0)) 30))
                    refine hK.out _ _ HS4.out ?_
                    clear hK K HS3
                    (try simp only [Act.put, List.setIfInBounds_toArray, List.set_cons_zero, List.set_cons_succ])
                    generalize V3.alloc (.cells (uv (List.replicate 8 0)) 30) = V4 at *
                    generalize V3.heap.size = g9 at *
                    (refine wpOU_solo (o := ?_) ?_ ?_; rotate_left 1; (simp only [List.getElem?_toArray, List.getElem?_cons_succ, List.getElem?_cons_zero]; with_reducible rfl))
                    intro K hK
                    rw [if_pos (by rfl)]
                    refine wp_store_row _ _ _ rfl g8 (uv j) rfl rfl _ _ y8 (einfo hj) (by rw [ev_size hj, ev_size z8]) (uv_one _) ?_
                    have he := Else.setRow V4 g8 (uv j)
                    replace y9 := y9.other he (n89.symm)
                    replace y8 := y8.setRow (uv j)
                    have HS5 : Hid (Below wr.heap.size wr (V4.setRow g8 (uv j))) := HS4.out.trans (he.below hg8)
                    refine hK.out _ _ HS5.out ?_
                    clear hK K he HS4
                    (try simp only [Act.put])
                    generalize V4.setRow g8 (uv j) = V5 at *
                    (refine wpOU_solo (o := ?_) ?_ ?_; rotate_left 1; (simp only [List.getElem?_toArray, List.getElem?_cons_succ, List.getElem?_cons_zero]; with_reducible rfl))
                    intro K hK
                    rw [if_pos (by rfl)]
                    refine wp_store_row _ _ _ rfl g9 (uv m) rfl rfl _ _ y9 (einfo hm) (by rw [ev_size hm, ev_size z8]) (uv_one _) ?_
                    have he := Else.setRow V5 g9 (uv m)
                    replace y8 := y8.other he (n89)
                    replace y9 := y9.setRow (uv m)
                    have HS6 : Hid (Below wr.heap.size wr (V5.setRow g9 (uv m))) := HS5.out.trans (he.below hg9)
                    refine hK.out _ _ HS6.out ?_
                    clear hK K he HS5
                    (try simp only [Act.put])
                    generalize V5.setRow g9 (uv m) = V6 at *
                    refine wpOU_done ?_
                    go_wp2_with fail
                    go_meet
                    case rel => exact ⟨g8, g9, rfl, rfl, r4.below HS6.out r4.lt, x4.below HS6.out x4.lt, y4.below HS6.out y4.lt, z4.below HS6.out z4.lt, y8, y9, HB4.out.trans (HS6.out.mono HB4.out.size)⟩
                  · (refine wpOU_solo (o := ?_) ?_ ?_; rotate_left 1; (simp only [List.getElem?_toArray, List.getElem?_cons_succ, List.getElem?_cons_zero]; with_reducible rfl))
                    intro K hK
                    go_simp
                    rw [zero_elem]
                    have y9 : RowAt (V2.alloc (.cells (uv (List.replicate 8 0)) 30)) V2.heap.size 30 (uv (List.replicate 8 0)) := RowAt.new _ _ _
                    have hg9 : wr.heap.size ≤ V2.heap.size := HS2.out.size
                    have HS3 := Lib.hid (HS2.out.alloc HS2.out.size (.cells (uv (List.replicate 8 0)) 30))
                    refine hK.out _ _ HS3.out ?_
                    clear hK K HS2
                    (try simp only [Act.put, List.setIfInBounds_toArray, List.set_cons_zero, List.set_cons_succ])
                    generalize V2.alloc (.cells (uv (List.replicate 8 0)) 30) = V3 at *
                    generalize V2.heap.size = g9 at *
                    (refine wpOU_solo (o := ?_) ?_ ?_; rotate_left 1; (simp only [List.getElem?_toArray, List.getElem?_cons_succ, List.getElem?_cons_zero]; with_reducible rfl))
                    intro K hK
                    go_simp
                    rw [zero_elem]
                    have y8 : RowAt (V3.alloc (.cells (uv (List.replicate 8 0)) 30)) V3.heap.size 30 (uv (List.replicate 8 0)) := RowAt.new _ _ _
                    have n98 : g9 ≠ V3.heap.size := by have := y9.lt; omega
                    replace y9 := y9.alloc (.cells (uv (List.replicate 8 0)) 30)
                    have hg8 : wr.heap.size ≤ V3.heap.size := HS3.out.size
                    have HS4 := Lib.hid (HS3.out.alloc HS3.out.size (.cells (uv (List.replicate 8 0)) 30))
                    refine hK.out _ _ HS4.out ?_
                    clear hK K HS3
                    (try simp only [Act.put, List.setIfInBounds_toArray, List.set_cons_zero, List.set_cons_succ])
                    generalize V3.alloc (.cells (uv (List.replicate 8 0)) 30) = V4 at *
                    generalize V3.heap.size = g8 at *
                    (refine wpOU_solo (o := ?_) ?_ ?_; rotate_left 1; (simp only [List.getElem?_toArray, List.getElem?_cons_succ, List.getElem?_cons_zero]; with_reducible rfl))
                    intro K hK
                    rw [if_pos (by rfl)]
                    refine wp_store_row _ _ _ rfl g8 (uv j) rfl rfl _ _ y8 (einfo hj) (by rw [ev_size hj, ev_size z8]) (uv_one _) ?_
                    have he := Else.setRow V4 g8 (uv j)
                    replace y9 := y9.other he (n98)
                    replace y8 := y8.setRow (uv j)
                    have HS5 : Hid (Below wr.heap.size wr (V4.setRow g8 (uv j))) := HS4.out.trans (he.below hg8)
                    refine hK.out _ _ HS5.out ?_
                    clear hK K he HS4
                    (try simp only [Act.put])
                    generalize V4.setRow g8 (uv j) = V5 at *
                    (refine wpOU_solo (o := ?_) ?_ ?_; rotate_left 1; (simp only [List.getElem?_toArray, List.getElem?_cons_succ, List.getElem?_cons_zero]; with_reducible rfl))
                    intro K hK
                    rw [if_pos (by rfl)]
                    refine wp_store_row _ _ _ rfl g9 (uv m) rfl rfl _ _ y9 (einfo hm) (by rw [ev_size hm, ev_size z8]) (uv_one _) ?_
                    have he := Else.setRow V5 g9 (uv m)
                    replace y8 := y8.other he (n98.symm)
                    replace y9 := y9.setRow (uv m)
                    have HS6 : Hid (Below wr.heap.size wr (V5.setRow g9 (uv m))) := HS5.out.trans (he.below hg9)
                    refine hK.out _ _ HS6.out ?_
                    clear hK K he HS5
                    (try simp only [Act.put])
                    generalize V5.setRow g9 (uv m) = V6 at *
                    refine wpOU_done ?_
                    go_wp2_with fail
                    go_meet
                    case rel => exact ⟨g8, g9, rfl, rfl, r4.below HS6.out r4.lt, x4.below HS6.out x4.lt, y4.below HS6.out y4.lt, z4.below HS6.out z4.lt, y8, y9, HB4.out.trans (HS6.out.mono HB4.out.size)⟩
                · (refine wpOU_solo (o := ?_) ?_ ?_; rotate_left 1; (simp only [List.getElem?_toArray, List.getElem?_cons_succ, List.getElem?_cons_zero]; with_reducible rfl))
                  intro K hK
                  go_simp
                  rw [zero_elem]
                  have y8 : RowAt (V1.alloc (.cells (uv (List.replicate 8 0)) 30)) V1.heap.size 30 (uv (List.replicate 8 0)) := RowAt.new _ _ _
                  have hg8 : wr.heap.size ≤ V1.heap.size := HS1.out.size
                  have HS2 := Lib.hid (HS1.out.alloc HS1.out.size (.cells (uv (List.replicate 8 0)) 30))
                  refine hK.out _ _ HS2.out ?_
                  clear hK K HS1
                  (try simp only [Act.put, List.setIfInBounds_toArray, List.set_cons_zero, List.set_cons_succ])
                  generalize V1.alloc (.cells (uv (List.replicate 8 0)) 30) = V2 at *
                  generalize V1.heap.size = g8 at *
                  refine wpOU_two ?_ ?_
                  · (refine wpOU_solo (o := ?_) ?_ ?_; rotate_left 1; (simp only [List.getElem?_toArray, List.getElem?_cons_succ, List.getElem?_cons_zero]; with_reducible rfl))
                    intro K hK
                    go_simp
                    refine (CM1.out _ (HB4.out.trans (HS2.out.mono HB4.out.size))).mono ?_
                    rintro e V3 ⟨rfl, hb⟩
                    have HS3 := Lib.hid (HS2.out.trans (hb.mono HS2.out.size))
                    replace y8 := y8.below hb y8.lt
                    refine hK.out _ _ HS3.out ?_
                    clear hK K hb HS2
                    (try simp only [Act.put, List.setIfInBounds_toArray, List.set_cons_zero, List.set_cons_succ])
                    (refine wpOU_solo (o := ?_) ?_ ?_; rotate_left 1; (simp only [List.getElem?_toArray, List.getElem?_cons_succ, List.getElem?_cons_zero]; with_reducible rfl))
                    intro K hK
                    go_simp
                    rw [zero_elem]
                    have y9 : RowAt (V3.alloc (.cells (uv (List.replicate 8 0)) 30)) V3.heap.size 30 (uv (List.replicate 8 0)) := RowAt.new _ _ _
                    have n89 : g8 ≠ V3.heap.size := by have := y8.lt; omega
                    replace y8 := y8.alloc (.cells (uv (List.replicate 8 0)) 30)
                    have hg9 : wr.heap.size ≤ V3.heap.size := HS3.out.size
                    have HS4 := Lib.hid (HS3.out.alloc HS3.out.size (.cells (uv (List.replicate 8 0)) 30))
                    refine hK.out _ _ HS4.out ?_
                    clear hK K HS3
                    (try simp only [Act.put, List.setIfInBounds_toArray, List.set_cons_zero, List.set_cons_succ])
                    generalize V3.alloc (.cells (uv (List.replicate 8 0)) 30) = V4 at *
                    generalize V3.heap.size = g9 at *
                    (refine wpOU_solo (o := ?_) ?_ ?_; rotate_left 1; (simp only [List.getElem?_toArray, List.getElem?_cons_succ, List.getElem?_cons_zero]; with_reducible rfl))
                    intro K hK
                    rw [if_pos (by rfl)]
                    refine wp_store_row _ _ _ rfl g8 (uv j) rfl rfl _ _ y8 (einfo hj) (by rw [ev_size hj, ev_size z8]) (uv_one _) ?_
                    have he := Else.setRow V4 g8 (uv j)
                    replace y9 := y9.other he (n89.symm)
                    replace y8 := y8.setRow (uv j)
                    have HS5 : Hid (Below wr.heap.size wr (V4.setRow g8 (uv j))) := HS4.out.trans (he.below hg8)
                    refine hK.out _ _ HS5.out ?_
                    clear hK K he HS4
                    (try simp only [Act.put])
                    generalize V4.setRow g8 (uv j) = V5 at *
                    (refine wpOU_solo (o := ?_) ?_ ?_; rotate_left 1; (simp only [List.getElem?_toArray, List.getElem?_cons_succ, List.getElem?_cons_zero]; with_reducible rfl))
                    intro K hK
                    rw [if_pos (by rfl)]
                    refine wp_store_row _ _ _ rfl g9 (uv m) rfl rfl _ _ y9 (einfo hm) (by rw [ev_size hm, ev_size z8]) (uv_one _) ?_
                    have he := Else.setRow V5 g9 (uv m)
                    replace y8 := y8.other he (n89)
                    replace y9 := y9.setRow (uv m)
                    have HS6 : Hid (Below wr.heap.size wr (V5.setRow g9 (uv m))) := HS5.out.trans (he.below hg9)
                    refine hK.out _ _ HS6.out ?_
                    clear hK K he HS5
                    (try simp only [Act.put])
                    generalize V5.setRow g9 (uv m) = V6 at *
                    refine wpOU_done ?_
                    go_wp2_with fail
                    go_meet
                    case rel => exact ⟨g8, g9, rfl, rfl, r4.below HS6.out r4.lt, x4.below HS6.out x4.lt, y4.below HS6.out y4.lt, z4.below HS6.out z4.lt, y8, y9, HB4.out.trans (HS6.out.mono HB4.out.size)⟩
                  · (refine wpOU_solo (o := ?_) ?_ ?_; rotate_left 1; (simp only [List.getElem?_toArray, List.getElem?_cons_succ, List.getElem?_cons_zero]; with_reducible rfl))
                    intro K hK
                    go_simp
                    rw [zero_elem]
                    have y9 : RowAt (V2.alloc (.cells (uv (List.replicate 8 0)) 30)) V2.heap.size 30 (uv (List.replicate 8 0)) := RowAt.new _ _ _
                    have n89 : g8 ≠ V2.heap.size := by have := y8.lt; omega
                    replace y8 := y8.alloc (.cells (uv (List.replicate 8 0)) 30)
                    have hg9 : wr.heap.size ≤ V2.heap.size := HS2.out.size
                    have HS3 := Lib.hid (HS2.out.alloc HS2.out.size (.cells (uv (List.replicate 8 0)) 30))
                    refine hK.out _ _ HS3.out ?_
                    clear hK K HS2
                    (try simp only [Act.put, List.setIfInBounds_toArray, List.set_cons_zero, List.set_cons_succ])
                    generalize V2.alloc (.cells (uv (List.replicate 8 0)) 30) = V3 at *
                    generalize V2.heap.size = g9 at *
                    (refine wpOU_solo (o := ?_) ?_ ?_; rotate_left 1; (simp only [List.getElem?_toArray, List.getElem?_cons_succ, List.getElem?_cons_zero]; with_reducible rfl))
                    intro K hK
                    go_simp
                    refine (CM1.out _ (HB4.out.trans (HS3.out.mono HB4.out.size))).mono ?_
                    rintro e V4 ⟨rfl, hb⟩
                    have HS4 := Lib.hid (HS3.out.trans (hb.mono HS3.out.size))
                    replace y8 := y8.below hb y8.lt
                    replace y9 := y9.below hb y9.lt
                    refine hK.out _ _ HS4.out ?_
                    clear hK K hb HS3
                    (try simp only [Act.put, List.setIfInBounds_toArray, List.set_cons_zero, List.set_cons_succ])
                    (refine wpOU_solo (o := ?_) ?_ ?_; rotate_left 1; (simp only [List.getElem?_toArray, List.getElem?_cons_succ, List.getElem?_cons_zero]; with_reducible rfl))
                    intro K hK
                    rw [if_pos (by rfl)]
                    refine wp_store_row _ _ _ rfl g8 (uv j) rfl rfl _ _ y8 (einfo hj) (by rw [ev_size hj, ev_size z8]) (uv_one _) ?_
                    have he := Else.setRow V4 g8 (uv j)
                    replace y9 := y9.other he (n89.symm)
                    replace y8 := y8.setRow (uv j)
                    have HS5 : Hid (Below wr.heap.size wr (V4.setRow g8 (uv j))) := HS4.out.trans (he.below hg8)
                    refine hK.out _ _ HS5.out ?_
                    clear hK K he HS4
                    (try simp only [Act.put])
                    generalize V4.setRow g8 (uv j) = V5 at *
                    (refine wpOU_solo (o := ?_) ?_ ?_; rotate_left 1; (simp only [List.getElem?_toArray, List.getElem?_cons_succ, List.getElem?_cons_zero]; with_reducible rfl))
                    intro K hK
                    rw [if_pos (by rfl)]
                    refine wp_store_row _ _ _ rfl g9 (uv m) rfl rfl _ _ y9 (einfo hm) (by rw [ev_size hm, ev_size z8]) (uv_one _) ?_
                    have he := Else.setRow V5 g9 (uv m)
                    replace y8 := y8.other he (n89)
                    replace y9 := y9.setRow (uv m)
                    have HS6 : Hid (Below wr.heap.size wr (V5.setRow g9 (uv m))) := HS5.out.trans (he.below hg9)
                    refine hK.out _ _ HS6.out ?_
                    clear hK K he HS5
                    (try simp only [Act.put])
                    generalize V5.setRow g9 (uv m) = V6 at *
                    refine wpOU_done ?_
                    go_wp2_with fail
                    go_meet
                    case rel => exact ⟨g8, g9, rfl, rfl, r4.below HS6.out r4.lt, x4.below HS6.out x4.lt, y4.below HS6.out y4.lt, z4.below HS6.out z4.lt, y8, y9, HB4.out.trans (HS6.out.mono HB4.out.size)⟩
                · (refine wpOU_solo (o := ?_) ?_ ?_; rotate_left 1; (simp only [List.getElem?_toArray, List.getElem?_cons_succ, List.getElem?_cons_zero]; with_reducible rfl))
                  intro K hK
                  go_simp
                  rw [zero_elem]
                  have y9 : RowAt (V1.alloc (.cells (uv (List.replicate 8 0)) 30)) V1.heap.size 30 (uv (List.replicate 8 0)) := RowAt.new _ _ _
                  have hg9 : wr.heap.size ≤ V1.heap.size := HS1.out.size
                  have HS2 := Lib.hid (HS1.out.alloc HS1.out.size (.cells (uv (List.replicate 8 0)) 30))
                  refine hK.out _ _ HS2.out ?_
                  clear hK K HS1
                  (try simp only [Act.put, List.setIfInBounds_toArray, List.set_cons_zero, List.set_cons_succ])
                  generalize V1.alloc (.cells (uv (List.replicate 8 0)) 30) = V2 at *
                  generalize V1.heap.size = g9 at *
                  refine wpOU_two ?_ ?_
                  · (refine wpOU_solo (o := ?_) ?_ ?_; rotate_left 1; (simp only [List.getElem?_toArray, List.getElem?_cons_succ, List.getElem?_cons_zero]; with_reducible rfl))
                    intro K hK
                    go_simp
                    refine (CM1.out _ (HB4.out.trans (HS2.out.mono HB4.out.size))).mono ?_
                    rintro e V3 ⟨rfl, hb⟩
                    have HS3 := Lib.hid (HS2.out.trans (hb.mono HS2.out.size))
                    replace y9 := y9.below hb y9.lt
                    refine hK.out _ _ HS3.out ?_
                    clear hK K hb HS2
                    (try simp only [Act.put, List.setIfInBounds_toArray, List.set_cons_zero, List.set_cons_succ])
                    (refine wpOU_solo (o := ?_) ?_ ?_; rotate_left 1; (simp only [List.getElem?_toArray, List.getElem?_cons_succ, List.getElem?_cons_zero]; with_reducible rfl))
                    intro K hK
                    go_simp
                    rw [zero_elem]
                    have y8 : RowAt (V3.alloc (.cells (uv (List.replicate 8 0)) 30)) V3.heap.size 30 (uv (List.replicate 8 0)) := RowAt.new _ _ _
                    have n98 : g9 ≠ V3.heap.size := by have := y9.lt; omega
                    replace y9 := y9.alloc (.cells (uv (List.replicate 8 0)) 30)
                    have hg8 : wr.heap.size ≤ V3.heap.size := HS3.out.size
                    have HS4 := Lib.hid (HS3.out.alloc HS3.out.size (.cells (uv (List.replicate 8 0)) 30))
                    refine hK.out _ _ HS4.out ?_
                    clear hK K HS3
                    (try simp only [Act.put, List.setIfInBounds_toArray, List.set_cons_zero, List.set_cons_succ])
                    generalize V3.alloc (.cells (uv (List.replicate 8 0)) 30) = V4 at *
                    generalize V3.heap.size = g8 at *
                    (refine wpOU_solo (o := ?_) ?_ ?_; rotate_left 1; (simp only [List.getElem?_toArray, List.getElem?_cons_succ, List.getElem?_cons_zero]; with_reducible rfl))
                    intro K hK
                    rw [if_pos (by rfl)]
                    refine wp_store_row _ _ _ rfl g8 (uv j) rfl rfl _ _ y8 (einfo hj) (by rw [ev_size hj, ev_size z8]) (uv_one _) ?_
                    have he := Else.setRow V4 g8 (uv j)
                    replace y9 := y9.other he (n98)
                    replace y8 := y8.setRow (uv j)
                    have HS5 : Hid (Below wr.heap.size wr (V4.setRow g8 (uv j))) := HS4.out.trans (he.below hg8)
                    refine hK.out _ _ HS5.out ?_
                    clear hK K he HS4
                    (try simp only [Act.put])
                    generalize V4.setRow g8 (uv j) = V5 at *
                    (refine wpOU_solo (o := ?_) ?_ ?_; rotate_left 1; (simp only [List.getElem?_toArray, List.getElem?_cons_succ, List.getElem?_cons_zero]; with_reducible rfl))
                    intro K hK
                    rw [if_pos (by rfl)]
                    refine wp_store_row _ _ _ rfl g9 (uv m) rfl rfl _ _ y9 (einfo hm) (by rw [ev_size hm, ev_size z8]) (uv_one _) ?_
                    have he := Else.setRow V5 g9 (uv m)
                    replace y8 := y8.other he (n98.symm)
                    replace y9 := y9.setRow (uv m)
                    have HS6 : Hid (Below wr.heap.size wr (V5.setRow g9 (uv m))) := HS5.out.trans (he.below hg9)
                    refine hK.out _ _ HS6.out ?_
                    clear hK K he HS5
                    (try simp only [Act.put])
                    generalize V5.setRow g9 (uv m) = V6 at *
                    refine wpOU_done ?_
                    go_wp2_with fail
                    go_meet
                    case rel => exact ⟨g8, g9, rfl, rfl, r4.below HS6.out r4.lt, x4.below HS6.out x4.lt, y4.below HS6.out y4.lt, z4.below HS6.out z4.lt, y8, y9, HB4.out.trans (HS6.out.mono HB4.out.size)⟩
                  · (refine wpOU_solo (o := ?_) ?_ ?_; rotate_left 1; (simp only [List.getElem?_toArray, List.getElem?_cons_succ, List.getElem?_cons_zero]; with_reducible rfl))
                    intro K hK
                    go_simp
                    rw [zero_elem]
                    have y8 : RowAt (V2.alloc (.cells (uv (List.replicate 8 0)) 30)) V2.heap.size 30 (uv (List.replicate 8 0)) := RowAt.new _ _ _
                    have n98 : g9 ≠ V2.heap.size := by have := y9.lt; omega
                    replace y9 := y9.alloc (.cells (uv (List.replicate 8 0)) 30)
                    have hg8 : wr.heap.size ≤ V2.heap.size := HS2.out.size
                    have HS3 := Lib.hid (HS2.out.alloc HS2.out.size (.cells (uv (List.replicate 8 0)) 30))
                    refine hK.out _ _ HS3.out ?_
                    clear hK K HS2
                    (try simp only [Act.put, List.setIfInBounds_toArray, List.set_cons_zero, List.set_cons_succ])
                    generalize V2.alloc (.cells (uv (List.replicate 8 0)) 30) = V3 at *
                    generalize V2.heap.size = g8 at *
                    (refine wpOU_solo (o := ?_) ?_ ?_; rotate_left 1; (simp only [List.getElem?_toArray, List.getElem?_cons_succ, List.getElem?_cons_zero]; with_reducible rfl))
                    intro K hK
                    go_simp
                    refine (CM1.out _ (HB4.out.trans (HS3.out.mono HB4.out.size))).mono ?_
                    rintro e V4 ⟨rfl, hb⟩
                    have HS4 := Lib.hid (HS3.out.trans (hb.mono HS3.out.size))
                    replace y9 := y9.below hb y9.lt
                    replace y8 := y8.below hb y8.lt
                    refine hK.out _ _ HS4.out ?_
                    clear hK K hb HS3
                    (try simp only [Act.put, List.setIfInBounds_toArray, List.set_cons_zero, List.set_cons_succ])
                    (refine wpOU_solo (o := ?_) ?_ ?_; rotate_left 1; (simp only [List.getElem?_toArray, List.getElem?_cons_succ, List.getElem?_cons_zero]; with_reducible rfl))
                    intro K hK
                    rw [if_pos (by rfl)]
                    refine wp_store_row _ _ _ rfl g8 (uv j) rfl rfl _ _ y8 (einfo hj) (by rw [ev_size hj, ev_size z8]) (uv_one _) ?_
                    have he := Else.setRow V4 g8 (uv j)
                    replace y9 := y9.other he (n98)
                    replace y8 := y8.setRow (uv j)
                    have HS5 : Hid (Below wr.heap.size wr (V4.setRow g8 (uv j))) := HS4.out.trans (he.below hg8)
                    refine hK.out _ _ HS5.out ?_
                    clear hK K he HS4
                    (try simp only [Act.put])
                    generalize V4.setRow g8 (uv j) = V5 at *
                    (refine wpOU_solo (o := ?_) ?_ ?_; rotate_left 1; (simp only [List.getElem?_toArray, List.getElem?_cons_succ, List.getElem?_cons_zero]; with_reducible rfl))
                    intro K hK
                    rw [if_pos (by rfl)]
                    refine wp_store_row _ _ _ rfl g9 (uv m) rfl rfl _ _ y9 (einfo hm) (by rw [ev_size hm, ev_size z8]) (uv_one _) ?_
                    have he := Else.setRow V5 g9 (uv m)
                    replace y8 := y8.other he (n98.symm)
                    replace y9 := y9.setRow (uv m)
                    have HS6 : Hid (Below wr.heap.size wr (V5.setRow g9 (uv m))) := HS5.out.trans (he.below hg9)
                    refine hK.out _ _ HS6.out ?_
                    clear hK K he HS5
                    (try simp only [Act.put])
                    generalize V5.setRow g9 (uv m) = V6 at *
                    refine wpOU_done ?_
                    go_wp2_with fail
                    go_meet
                    case rel => exact ⟨g8, g9, rfl, rfl, r4.below HS6.out r4.lt, x4.below HS6.out x4.lt, y4.below HS6.out y4.lt, z4.below HS6.out z4.lt, y8, y9, HB4.out.trans (HS6.out.mono HB4.out.size)⟩
              · (refine wpOU_solo (o := ?_) ?_ ?_; rotate_left 1; (simp only [List.getElem?_toArray, List.getElem?_cons_succ, List.getElem?_cons_zero]; with_reducible rfl))
                intro K hK
                go_simp
                rw [zero_elem]
                have y8 : RowAt (V.alloc (.cells (uv (List.replicate 8 0)) 30)) V.heap.size 30 (uv (List.replicate 8 0)) := RowAt.new _ _ _
                have hg8 : wr.heap.size ≤ V.heap.size := HS0.out.size
                have HS1 := Lib.hid (HS0.out.alloc HS0.out.size (.cells (uv (List.replicate 8 0)) 30))
                refine hK.out _ _ HS1.out ?_
                clear hK K HS0
                (try simp only [Act.put, List.setIfInBounds_toArray, List.set_cons_zero, List.set_cons_succ])
                generalize V.alloc (.cells (uv (List.replicate 8 0)) 30) = V1 at *
                generalize V.heap.size = g8 at *
                refine wpOU_two ?_ ?_
                · (refine wpOU_solo (o := ?_) ?_ ?_; rotate_left 1; (simp only [List.getElem?_toArray, List.getElem?_cons_succ, List.getElem?_cons_zero]; with_reducible rfl))
                  intro K hK
                  go_simp
                  refine (CJ1.out _ (HB4.out.trans (HS1.out.mono HB4.out.size))).mono ?_
                  rintro e V2 ⟨rfl, hb⟩
                  have HS2 := Lib.hid (HS1.out.trans (hb.mono HS1.out.size))
                  replace y8 := y8.below hb y8.lt
                  refine hK.out _ _ HS2.out ?_
                  clear hK K hb HS1
                  (try simp only [Act.put, List.setIfInBounds_toArray, List.set_cons_zero, List.set_cons_succ])
                  refine wpOU_two ?_ ?_
                  · (refine wpOU_solo (o := ?_) ?_ ?_; rotate_left 1; (simp only [List.getElem?_toArray, List.getElem?_cons_succ, List.getElem?_cons_zero]; with_reducible rfl))
                    intro K hK
                    go_simp
                    refine (CM1.out _ (HB4.out.trans (HS2.out.mono HB4.out.size))).mono ?_
                    rintro e V3 ⟨rfl, hb⟩
                    have HS3 := Lib.hid (HS2.out.trans (hb.mono HS2.out.size))
                    replace y8 := y8.below hb y8.lt
                    refine hK.out _ _ HS3.out ?_
                    clear hK K hb HS2
                    (try simp only [Act.put, List.setIfInBounds_toArray, List.set_cons_zero, List.set_cons_succ])
                    (refine wpOU_solo (o := ?_) ?_ ?_; rotate_left 1; (simp only [List.getElem?_toArray, List.getElem?_cons_succ, List.getElem?_cons_zero]; with_reducible rfl))
                    intro K hK
                    go_simp
                    rw [zero_elem]
                    have y9 : RowAt (V3.alloc (.cells (uv (List.replicate 8 0)) 30)) V3.heap.size 30 (uv (List.replicate 8 0)) := RowAt.new _ _ _
                    have n89 : g8 ≠ V3.heap.size := by have := y8.lt; omega
                    replace y8 := y8.alloc (.cells (uv (List.replicate 8 0)) 30)
                    have hg9 : wr.heap.size ≤ V3.heap.size := HS3.out.size
                    have HS4 := Lib.hid (HS3.out.alloc HS3.out.size (.cells (uv (List.replicate 8 0)) 30))
                    refine hK.out _ _ HS4.out ?_
                    clear hK K HS3
                    (try simp only [Act.put, List.setIfInBounds_toArray, List.set_cons_zero, List.set_cons_succ])
                    generalize V3.alloc (.cells (uv (List.replicate 8 0)) 30) = V4 at *
                    generalize V3.heap.size = g9 at *
                    (refine wpOU_solo (o := ?_) ?_ ?_; rotate_left 1; (simp only [List.getElem?_toArray, List.getElem?_cons_succ, List.getElem?_cons_zero]; with_reducible rfl))
                    intro K hK
                    rw [if_pos (by rfl)]
                    refine wp_store_row _ _ _ rfl g8 (uv j) rfl rfl _ _ y8 (einfo hj) (by rw [ev_size hj, ev_size z8]) (uv_one _) ?_
                    have he := Else.setRow V4 g8 (uv j)
                    replace y9 := y9.other he (n89.symm)
                    replace y8 := y8.setRow (uv j)
                    have HS5 : Hid (Below wr.heap.size wr (V4.setRow g8 (uv j))) := HS4.out.trans (he.below hg8)
                    refine hK.out _ _ HS5.out ?_
                    clear hK K he HS4
                    (try simp only [Act.put])
                    generalize V4.setRow g8 (uv j) = V5 at *
                    (refine wpOU_solo (o := ?_) ?_ ?_; rotate_left 1; (simp only [List.getElem?_toArray, List.getElem?_cons_succ, List.getElem?_cons_zero]; with_reducible rfl))
                    intro K hK
                    rw [if_pos (by rfl)]
                    refine wp_store_row _ _ _ rfl g9 (uv m) rfl rfl _ _ y9 (einfo hm) (by rw [ev_size hm, ev_size z8]) (uv_one _) ?_
                    have he := Else.setRow V5 g9 (uv m)
                    replace y8 := y8.other he (n89)
                    replace y9 := y9.setRow (uv m)
                    have HS6 : Hid (Below wr.heap.size wr (V5.setRow g9 (uv m))) := HS5.out.trans (he.below hg9)
                    refine hK.out _ _ HS6.out ?_
                    clear hK K he HS5
                    (try simp only [Act.put])
                    generalize V5.setRow g9 (uv m) = V6 at *
                    refine wpOU_done ?_
                    go_wp2_with fail
                    go_meet
                    case rel => exact ⟨g8, g9, rfl, rfl, r4.below HS6.out r4.lt, x4.below HS6.out x4.lt, y4.below HS6.out y4.lt, z4.below HS6.out z4.lt, y8, y9, HB4.out.trans (HS6.out.mono HB4.out.size)⟩
                  · (refine wpOU_solo (o := ?_) ?_ ?_; rotate_left 1; (simp only [List.getElem?_toArray, List.getElem?_cons_succ, List.getElem?_cons_zero]; with_reducible rfl))
                    intro K hK
                    go_simp
                    rw [zero_elem]
                    have y9 : RowAt (V2.alloc (.cells (uv (List.replicate 8 0)) 30)) V2.heap.size 30 (uv (List.replicate 8 0)) := RowAt.new _ _ _
                    have n89 : g8 ≠ V2.heap.size := by have := y8.lt; omega
                    replace y8 := y8.alloc (.cells (uv (List.replicate 8 0)) 30)
                    have hg9 : wr.heap.size ≤ V2.heap.size := HS2.out.size
                    have HS3 := Lib.hid (HS2.out.alloc HS2.out.size (.cells (uv (List.replicate 8 0)) 30))
                    refine hK.out _ _ HS3.out ?_
                    clear hK K HS2
                    (try simp only [Act.put, List.setIfInBounds_toArray, List.set_cons_zero, List.set_cons_succ])
                    generalize V2.alloc (.cells (uv (List.replicate 8 0)) 30) = V3 at *
                    generalize V2.heap.size = g9 at *
                    (refine wpOU_solo (o := ?_) ?_ ?_; rotate_left 1; (simp only [List.getElem?_toArray, List.getElem?_cons_succ, List.getElem?_cons_zero]; with_reducible rfl))
                    intro K hK
                    go_simp
                    refine (CM1.out _ (HB4.out.trans (HS3.out.mono HB4.out.size))).mono ?_
                    rintro e V4 ⟨rfl, hb⟩
                    have HS4 := Lib.hid (HS3.out.trans (hb.mono HS3.out.size))
                    replace y8 := y8.below hb y8.lt
                    replace y9 := y9.below hb y9.lt
                    refine hK.out _ _ HS4.out ?_
                    clear hK K hb HS3
                    (try simp only [Act.put, List.setIfInBounds_toArray, List.set_cons_zero, List.set_cons_succ])
                    (refine wpOU_solo (o := ?_) ?_ ?_; rotate_left 1; (simp only [List.getElem?_toArray, List.getElem?_cons_succ, List.getElem?_cons_zero]; with_reducible rfl))
                    intro K hK
                    rw [if_pos (by rfl)]
                    refine wp_store_row _ _ _ rfl g8 (uv j) rfl rfl _ _ y8 (einfo hj) (by rw [ev_size hj, ev_size z8]) (uv_one _) ?_
                    have he := Else.setRow V4 g8 (uv j)
                    replace y9 := y9.other he (n89.symm)
                    replace y8 := y8.setRow (uv j)
                    have HS5 : Hid (Below wr.heap.size wr (V4.setRow g8 (uv j))) := HS4.out.trans (he.below hg8)
                    refine hK.out _ _ HS5.out ?_
                    clear hK K he HS4
                    (try simp only [Act.put])
                    generalize V4.setRow g8 (uv j) = V5 at *
                    (refine wpOU_solo (o := ?_) ?_ ?_; rotate_left 1; (simp only [List.getElem?_toArray, List.getElem?_cons_succ, List.getElem?_cons_zero]; with_reducible rfl))
                    intro K hK
                    rw [if_pos (by rfl)]
                    refine wp_store_row _ _ _ rfl g9 (uv m) rfl rfl _ _ y9 (einfo hm) (by rw [ev_size hm, ev_size z8]) (uv_one _) ?_
                    have he := Else.setRow V5 g9 (uv m)
                    replace y8 := y8.other he (n89)
                    replace y9 := y9.setRow (uv m)
                    have HS6 : Hid (Below wr.heap.size wr (V5.setRow g9 (uv m))) := HS5.out.trans (he.below hg9)
                    refine hK.out _ _ HS6.out ?_
                    clear hK K he HS5
                    (try simp only [Act.put])
                    generalize V5.setRow g9 (uv m) = V6 at *
                    refine wpOU_done ?_
                    go_wp2_with fail
                    go_meet
                    case rel => exact ⟨g8, g9, rfl, rfl, r4.below HS6.out r4.lt, x4.below HS6.out x4.lt, y4.below HS6.out y4.lt, z4.below HS6.out z4.lt, y8, y9, HB4.out.trans (HS6.out.mono HB4.out.size)⟩
                · (refine wpOU_solo (o := ?_) ?_ ?_; rotate_left 1; (simp only [List.getElem?_toArray, List.getElem?_cons_succ, List.getElem?_cons_zero]; with_reducible rfl))
                  intro K hK
                  go_simp
                  rw [zero_elem]
                  have y9 : RowAt (V1.alloc (.cells (uv (List.replicate 8 0)) 30)) V1.heap.size 30 (uv (List.replicate 8 0)) := RowAt.new _ _ _
                  have n89 : g8 ≠ V1.heap.size := by have := y8.lt; omega
                  replace y8 := y8.alloc (.cells (uv (List.replicate 8 0)) 30)
                  have hg9 : wr.heap.size ≤ V1.heap.size := HS1.out.size
                  have HS2 := Lib.hid (HS1.out.alloc HS1.out.size (.cells (uv (List.replicate 8 0)) 30))
                  refine hK.out _ _ HS2.out ?_
                  clear hK K HS1
                  (try simp only [Act.put, List.setIfInBounds_toArray, List.set_cons_zero, List.set_cons_succ])
                  generalize V1.alloc (.cells (uv (List.replicate 8 0)) 30) = V2 at *
                  generalize V1.heap.size = g9 at *
                  (refine wpOU_solo (o := ?_) ?_ ?_; rotate_left 1; (simp only [List.getElem?_toArray, List.getElem?_cons_succ, List.getElem?_cons_zero]; with_reducible rfl))
                  intro K hK
                  go_simp
                  refine (CJ1.out _ (HB4.out.trans (HS2.out.mono HB4.out.size))).mono ?_
                  rintro e V3 ⟨rfl, hb⟩
                  have HS3 := Lib.hid (HS2.out.trans (hb.mono HS2.out.size))
                  replace y8 := y8.below hb y8.lt
                  replace y9 := y9.below hb y9.lt
                  refine hK.out _ _ HS3.out ?_
                  clear hK K hb HS2
                  (try simp only [Act.put, List.setIfInBounds_toArray, List.set_cons_zero, List.set_cons_succ])
                  (refine wpOU_solo (o := ?_) ?_ ?_; rotate_left 1; (simp only [List.getElem?_toArray, List.getElem?_cons_succ, List.getElem?_cons_zero]; with_reducible rfl))
                  intro K hK
                  go_simp
                  refine (CM1.out _ (HB4.out.trans (HS3.out.mono HB4.out.size))).mono ?_
                  rintro e V4 ⟨rfl, hb⟩
                  have HS4 := Lib.hid (HS3.out.trans (hb.mono HS3.out.size))
                  replace y8 := y8.below hb y8.lt
                  replace y9 := y9.below hb y9.lt
                  refine hK.out _ _ HS4.out ?_
                  clear hK K hb HS3
                  (try simp only [Act.put, List.setIfInBounds_toArray, List.set_cons_zero, List.set_cons_succ])
                  (refine wpOU_solo (o := ?_) ?_ ?_; rotate_left 1; (simp only [List.getElem?_toArray, List.getElem?_cons_succ, List.getElem?_cons_zero]; with_reducible rfl))
                  intro K hK
                  rw [if_pos (by rfl)]
                  refine wp_store_row _ _ _ rfl g8 (uv j) rfl rfl _ _ y8 (einfo hj) (by rw [ev_size hj, ev_size z8]) (uv_one _) ?_
                  have he := Else.setRow V4 g8 (uv j)
                  replace y9 := y9.other he (n89.symm)
                  replace y8 := y8.setRow (uv j)
                  have HS5 : Hid (Below wr.heap.size wr (V4.setRow g8 (uv j))) := HS4.out.trans (he.below hg8)
                  refine hK.out _ _ HS5.out ?_
                  clear hK K he HS4
                  (try simp only [Act.put])
                  generalize V4.setRow g8 (uv j) = V5 at *
                  (refine wpOU_solo (o := ?_) ?_ ?_; rotate_left 1; (simp only [List.getElem?_toArray, List.getElem?_cons_succ, List.getElem?_cons_zero]; with_reducible rfl))
                  intro K hK
                  rw [if_pos (by rfl)]
                  refine wp_store_row _ _ _ rfl g9 (uv m) rfl rfl _ _ y9 (einfo hm) (by rw [ev_size hm, ev_size z8]) (uv_one _) ?_
                  have he := Else.setRow V5 g9 (uv m)
                  replace y8 := y8.other he (n89)
                  replace y9 := y9.setRow (uv m)
                  have HS6 : Hid (Below wr.heap.size wr (V5.setRow g9 (uv m))) := HS5.out.trans (he.below hg9)
                  refine hK.out _ _ HS6.out ?_
                  clear hK K he HS5
                  (try simp only [Act.put])
                  generalize V5.setRow g9 (uv m) = V6 at *
                  refine wpOU_done ?_
                  go_wp2_with fail
                  go_meet
                  case rel => exact ⟨g8, g9, rfl, rfl, r4.below HS6.out r4.lt, x4.below HS6.out x4.lt, y4.below HS6.out y4.lt, z4.below HS6.out z4.lt, y8, y9, HB4.out.trans (HS6.out.mono HB4.out.size)⟩
              · (refine wpOU_solo (o := ?_) ?_ ?_; rotate_left 1; (simp only [List.getElem?_toArray, List.getElem?_cons_succ, List.getElem?_cons_zero]; with_reducible rfl))
                intro K hK
                go_simp
                rw [zero_elem]
                have y9 : RowAt (V.alloc (.cells (uv (List.replicate 8 0)) 30)) V.heap.size 30 (uv (List.replicate 8 0)) := RowAt.new _ _ _
                have hg9 : wr.heap.size ≤ V.heap.size := HS0.out.size
                have HS1 := Lib.hid (HS0.out.alloc HS0.out.size (.cells (uv (List.replicate 8 0)) 30))
                refine hK.out _ _ HS1.out ?_
                clear hK K HS0
                (try simp only [Act.put, List.setIfInBounds_toArray, List.set_cons_zero, List.set_cons_succ])
                generalize V.alloc (.cells (uv (List.replicate 8 0)) 30) = V1 at *
                generalize V.heap.size = g9 at *
                refine wpOU_two ?_ ?_
                · (refine wpOU_solo (o := ?_) ?_ ?_; rotate_left 1; (simp only [List.getElem?_toArray, List.getElem?_cons_succ, List.getElem?_cons_zero]; with_reducible rfl))
                  intro K hK
                  go_simp
                  refine (CJ1.out _ (HB4.out.trans (HS1.out.mono HB4.out.size))).mono ?_
                  rintro e V2 ⟨rfl, hb⟩
                  have HS2 := Lib.hid (HS1.out.trans (hb.mono HS1.out.size))
                  replace y9 := y9.below hb y9.lt
                  refine hK.out _ _ HS2.out ?_
                  clear hK K hb HS1
                  (try simp only [Act.put, List.setIfInBounds_toArray, List.set_cons_zero, List.set_cons_succ])
                  refine wpOU_two ?_ ?_
                  · (refine wpOU_solo (o := ?_) ?_ ?_; rotate_left 1; (simp only [List.getElem?_toArray, List.getElem?_cons_succ, List.getElem?_cons_zero]; with_reducible rfl))
                    intro K hK
                    go_simp
                    refine (CM1.out _ (HB4.out.trans (HS2.out.mono HB4.out.size))).mono ?_
                    rintro e V3 ⟨rfl, hb⟩
                    have HS3 := Lib.hid (HS2.out.trans (hb.mono HS2.out.size))
                    replace y9 := y9.below hb y9.lt
                    refine hK.out _ _ HS3.out ?_
                    clear hK K hb HS2
                    (try simp only [Act.put, List.setIfInBounds_toArray, List.set_cons_zero, List.set_cons_succ])
                    (refine wpOU_solo (o := ?_) ?_ ?_; rotate_left 1; (simp only [List.getElem?_toArray, List.getElem?_cons_succ, List.getElem?_cons_zero]; with_reducible rfl))
                    intro K hK
                    go_simp
                    rw [zero_elem]
                    have y8 : RowAt (V3.alloc (.cells (uv (List.replicate 8 0)) 30)) V3.heap.size 30 (uv (List.replicate 8 0)) := RowAt.new _ _ _
                    have n98 : g9 ≠ V3.heap.size := by have := y9.lt; omega
                    replace y9 := y9.alloc (.cells (uv (List.replicate 8 0)) 30)
                    have hg8 : wr.heap.size ≤ V3.heap.size := HS3.out.size
                    have HS4 := Lib.hid (HS3.out.alloc HS3.out.size (.cells (uv (List.replicate 8 0)) 30))
                    refine hK.out _ _ HS4.out ?_
                    clear hK K HS3
                    (try simp only [Act.put, List.setIfInBounds_toArray, List.set_cons_zero, List.set_cons_succ])
                    generalize V3.alloc (.cells (uv (List.replicate 8 0)) 30) = V4 at *
                    generalize V3.heap.size = g8 at *
                    (refine wpOU_solo (o := ?_) ?_ ?_; rotate_left 1; (simp only [List.getElem?_toArray, List.getElem?_cons_succ, List.getElem?_cons_zero]; with_reducible rfl))
                    intro K hK
                    rw [if_pos (by rfl)]
                    refine wp_store_row _ _ _ rfl g8 (uv j) rfl rfl _ _ y8 (einfo hj) (by rw [ev_size hj, ev_size z8]) (uv_one _) ?_
                    have he := Else.setRow V4 g8 (uv j)
                    replace y9 := y9.other he (n98)
                    replace y8 := y8.setRow (uv j)
                    have HS5 : Hid (Below wr.heap.size wr (V4.setRow g8 (uv j))) := HS4.out.trans (he.below hg8)
                    refine hK.out _ _ HS5.out ?_
                    clear hK K he HS4
                    (try simp only [Act.put])
                    generalize V4.setRow g8 (uv j) = V5 at *
                    (refine wpOU_solo (o := ?_) ?_ ?_; rotate_left 1; (simp only [List.getElem?_toArray, List.getElem?_cons_succ, List.getElem?_cons_zero]; with_reducible rfl))
                    intro K hK
                    rw [if_pos (by rfl)]
                    refine wp_store_row _ _ _ rfl g9 (uv m) rfl rfl _ _ y9 (einfo hm) (by rw [ev_size hm, ev_size z8]) (uv_one _) ?_
                    have he := Else.setRow V5 g9 (uv m)
                    replace y8 := y8.other he (n98.symm)
                    replace y9 := y9.setRow (uv m)
                    have HS6 : Hid (Below wr.heap.size wr (V5.setRow g9 (uv m))) := HS5.out.trans (he.below hg9)
                    refine hK.out _ _ HS6.out ?_
                    clear hK K he HS5
                    (try simp only [Act.put])
                    generalize V5.setRow g9 (uv m) = V6 at *
                    refine wpOU_done ?_
                    go_wp2_with fail
                    go_meet
                    case rel => exact ⟨g8, g9, rfl, rfl, r4.below HS6.out r4.lt, x4.below HS6.out x4.lt, y4.below HS6.out y4.lt, z4.below HS6.out z4.lt, y8, y9, HB4.out.trans (HS6.out.mono HB4.out.size)⟩
                  · (refine wpOU_solo (o := ?_) ?_ ?_; rotate_left 1; (simp only [List.getElem?_toArray, List.getElem?_cons_succ, List.getElem?_cons_zero]; with_reducible rfl))
                    intro K hK
                    go_simp
                    rw [zero_elem]
                    have y8 : RowAt (V2.alloc (.cells (uv (List.replicate 8 0)) 30)) V2.heap.size 30 (uv (List.replicate 8 0)) := RowAt.new _ _ _
                    have n98 : g9 ≠ V2.heap.size := by have := y9.lt; omega
                    replace y9 := y9.alloc (.cells (uv (List.replicate 8 0)) 30)
                    have hg8 : wr.heap.size ≤ V2.heap.size := HS2.out.size
                    have HS3 := Lib.hid (HS2.out.alloc HS2.out.size (.cells (uv (List.replicate 8 0)) 30))
                    refine hK.out _ _ HS3.out ?_
                    clear hK K HS2
                    (try simp only [Act.put, List.setIfInBounds_toArray, List.set_cons_zero, List.set_cons_succ])
                    generalize V2.alloc (.cells (uv (List.replicate 8 0)) 30) = V3 at *
                    generalize V2.heap.size = g8 at *
                    (refine wpOU_solo (o := ?_) ?_ ?_; rotate_left 1; (simp only [List.getElem?_toArray, List.getElem?_cons_succ, List.getElem?_cons_zero]; with_reducible rfl))
                    intro K hK
                    go_simp
                    refine (CM1.out _ (HB4.out.trans (HS3.out.mono HB4.out.size))).mono ?_
                    rintro e V4 ⟨rfl, hb⟩
                    have HS4 := Lib.hid (HS3.out.trans (hb.mono HS3.out.size))
                    replace y9 := y9.below hb y9.lt
                    replace y8 := y8.below hb y8.lt
                    refine hK.out _ _ HS4.out ?_
                    clear hK K hb HS3
                    (try simp only [Act.put, List.setIfInBounds_toArray, List.set_cons_zero, List.set_cons_succ])
                    (refine wpOU_solo (o := ?_) ?_ ?_; rotate_left 1; (simp only [List.getElem?_toArray, List.getElem?_cons_succ, List.getElem?_cons_zero]; with_reducible rfl))
                    intro K hK
                    rw [if_pos (by rfl)]
                    refine wp_store_row _ _ _ rfl g8 (uv j) rfl rfl _ _ y8 (einfo hj) (by rw [ev_size hj, ev_size z8]) (uv_one _) ?_
                    have he := Else.setRow V4 g8 (uv j)
                    replace y9 := y9.other he (n98)
                    replace y8 := y8.setRow (uv j)
                    have HS5 : Hid (Below wr.heap.size wr (V4.setRow g8 (uv j))) := HS4.out.trans (he.below hg8)
                    refine hK.out _ _ HS5.out ?_
                    clear hK K he HS4
                    (try simp only [Act.put])
                    generalize V4.setRow g8 (uv j) = V5 at *
                    (refine wpOU_solo (o := ?_) ?_ ?_; rotate_left 1; (simp only [List.getElem?_toArray, List.getElem?_cons_succ, List.getElem?_cons_zero]; with_reducible rfl))
                    intro K hK
                    rw [if_pos (by rfl)]
                    refine wp_store_row _ _ _ rfl g9 (uv m) rfl rfl _ _ y9 (einfo hm) (by rw [ev_size hm, ev_size z8]) (uv_one _) ?_
                    have he := Else.setRow V5 g9 (uv m)
                    replace y8 := y8.other he (n98.symm)
                    replace y9 := y9.setRow (uv m)
                    have HS6 : Hid (Below wr.heap.size wr (V5.setRow g9 (uv m))) := HS5.out.trans (he.below hg9)
                    refine hK.out _ _ HS6.out ?_
                    clear hK K he HS5
                    (try simp only [Act.put])
                    generalize V5.setRow g9 (uv m) = V6 at *
                    refine wpOU_done ?_
                    go_wp2_with fail
                    go_meet
                    case rel => exact ⟨g8, g9, rfl, rfl, r4.below HS6.out r4.lt, x4.below HS6.out x4.lt, y4.below HS6.out y4.lt, z4.below HS6.out z4.lt, y8, y9, HB4.out.trans (HS6.out.mono HB4.out.size)⟩
                · (refine wpOU_solo (o := ?_) ?_ ?_; rotate_left 1; (simp only [List.getElem?_toArray, List.getElem?_cons_succ, List.getElem?_cons_zero]; with_reducible rfl))
                  intro K hK
                  go_simp
                  rw [zero_elem]
                  have y8 : RowAt (V1.alloc (.cells (uv (List.replicate 8 0)) 30)) V1.heap.size 30 (uv (List.replicate 8 0)) := RowAt.new _ _ _
                  have n98 : g9 ≠ V1.heap.size := by have := y9.lt; omega
                  replace y9 := y9.alloc (.cells (uv (List.replicate 8 0)) 30)
                  have hg8 : wr.heap.size ≤ V1.heap.size := HS1.out.size
                  have HS2 := Lib.hid (HS1.out.alloc HS1.out.size (.cells (uv (List.replicate 8 0)) 30))
                  refine hK.out _ _ HS2.out ?_
                  clear hK K HS1
                  (try simp only [Act.put, List.setIfInBounds_toArray, List.set_cons_zero, List.set_cons_succ])
                  generalize V1.alloc (.cells (uv (List.replicate 8 0)) 30) = V2 at *
                  generalize V1.heap.size = g8 at *
                  (refine wpOU_solo (o := ?_) ?_ ?_; rotate_left 1; (simp only [List.getElem?_toArray, List.getElem?_cons_succ, List.getElem?_cons_zero]; with_reducible rfl))
                  intro K hK
                  go_simp
                  refine (CJ1.out _ (HB4.out.trans (HS2.out.mono HB4.out.size))).mono ?_
                  rintro e V3 ⟨rfl, hb⟩
                  have HS3 := Lib.hid (HS2.out.trans (hb.mono HS2.out.size))
                  replace y9 := y9.below hb y9.lt
                  replace y8 := y8.below hb y8.lt
                  refine hK.out _ _ HS3.out ?_
                  clear hK K hb HS2
                  (try simp only [Act.put, List.setIfInBounds_toArray, List.set_cons_zero, List.set_cons_succ])
                  (refine wpOU_solo (o := ?_) ?_ ?_; rotate_left 1; (simp only [List.getElem?_toArray, List.getElem?_cons_succ, List.getElem?_cons_zero]; with_reducible rfl))
                  intro K hK
                  go_simp
                  refine (CM1.out _ (HB4.out.trans (HS3.out.mono HB4.out.size))).mono ?_
                  rintro e V4 ⟨rfl, hb⟩
                  have HS4 := Lib.hid (HS3.out.trans (hb.mono HS3.out.size))
                  replace y9 := y9.below hb y9.lt
                  replace y8 := y8.below hb y8.lt
                  refine hK.out _ _ HS4.out ?_
                  clear hK K hb HS3
                  (try simp only [Act.put, List.setIfInBounds_toArray, List.set_cons_zero, List.set_cons_succ])
                  (refine wpOU_solo (o := ?_) ?_ ?_; rotate_left 1; (simp only [List.getElem?_toArray, List.getElem?_cons_succ, List.getElem?_cons_zero]; with_reducible rfl))
                  intro K hK
                  rw [if_pos (by rfl)]
                  refine wp_store_row _ _ _ rfl g8 (uv j) rfl rfl _ _ y8 (einfo hj) (by rw [ev_size hj, ev_size z8]) (uv_one _) ?_
                  have he := Else.setRow V4 g8 (uv j)
                  replace y9 := y9.other he (n98)
                  replace y8 := y8.setRow (uv j)
                  have HS5 : Hid (Below wr.heap.size wr (V4.setRow g8 (uv j))) := HS4.out.trans (he.below hg8)
                  refine hK.out _ _ HS5.out ?_
                  clear hK K he HS4
                  (try simp only [Act.put])
                  generalize V4.setRow g8 (uv j) = V5 at *
                  (refine wpOU_solo (o := ?_) ?_ ?_; rotate_left 1; (simp only [List.getElem?_toArray, List.getElem?_cons_succ, List.getElem?_cons_zero]; with_reducible rfl))
                  intro K hK
                  rw [if_pos (by rfl)]
                  refine wp_store_row _ _ _ rfl g9 (uv m) rfl rfl _ _ y9 (einfo hm) (by rw [ev_size hm, ev_size z8]) (uv_one _) ?_
                  have he := Else.setRow V5 g9 (uv m)
                  replace y8 := y8.other he (n98.symm)
                  replace y9 := y9.setRow (uv m)
                  have HS6 : Hid (Below wr.heap.size wr (V5.setRow g9 (uv m))) := HS5.out.trans (he.below hg9)
                  refine hK.out _ _ HS6.out ?_
                  clear hK K he HS5
                  (try simp only [Act.put])
                  generalize V5.setRow g9 (uv m) = V6 at *
                  refine wpOU_done ?_
                  go_wp2_with fail
                  go_meet
                  case rel => exact ⟨g8, g9, rfl, rfl, r4.below HS6.out r4.lt, x4.below HS6.out x4.lt, y4.below HS6.out y4.lt, z4.below HS6.out z4.lt, y8, y9, HB4.out.trans (HS6.out.mono HB4.out.size)⟩
            case rest =>
              clear r4 x4 y4 z4 HB4
              obtain ⟨g8, g9, rfl, rfl, r0, x0, y0, z0, j0, m0, hb0⟩ := hcut
              have HB0 := Lib.hid hb0; clear hb0
              go_wp2_with (first | (refine wpList_loadShape (by rfl) _ rfl w.heap.size rfl t A n c r0 ?_) | (refine wpList_loadElem (by rfl) _ rfl g8 rfl _ hj j0 ?_))
              refine (CF1.out _ HB0.out).mono ?_
              rintro e w1 ⟨rfl, hb⟩
              have r1 := r0.below hb r0.lt
              have x1 := x0.below hb x0.lt
              have y1 := y0.below hb y0.lt
              have z1 := z0.below hb z0.lt
              have j1 := j0.below hb j0.lt
              have m1 := m0.below hb m0.lt
              have HB1 := Lib.hid (HB0.out.trans (hb.mono HB0.out.size))
              clear hb r0 x0 y0 z0 j0 m0 HB0
              go_wp2_with (first | (refine wpList_loadShape (by rfl) _ rfl w.heap.size rfl t A n c r1 ?_) | (refine wpList_loadElem (by rfl) _ rfl g9 rfl _ hm m1 ?_))
              refine (CF2.out _ HB1.out).mono ?_
              rintro e w2 ⟨rfl, hb⟩
              have r2 := r1.below hb r1.lt
              have x2 := x1.below hb x1.lt
              have y2 := y1.below hb y1.lt
              have z2 := z1.below hb z1.lt
              have j2 := j1.below hb j1.lt
              have m2 := m1.below hb m1.lt
              have HB2 := Lib.hid (HB1.out.trans (hb.mono HB1.out.size))
              clear hb r1 x1 y1 z1 j1 m1 HB1
              go_wp2_with (first | (refine wpList_loadElem (by rfl) _ rfl g5 rfl _ hx x2 ?_) | (refine wpList_loadElem (by rfl) _ rfl g8 rfl _ hj j2 ?_))
              refine (CK1.out _ HB2.out).mono ?_
              rintro e w3 ⟨rfl, hb⟩
              have r3 := r2.below hb r2.lt
              have x3 := x2.below hb x2.lt
              have y3 := y2.below hb y2.lt
              have z3 := z2.below hb z2.lt
              have j3 := j2.below hb j2.lt
              have m3 := m2.below hb m2.lt
              have HB3 := Lib.hid (HB2.out.trans (hb.mono HB2.out.size))
              clear hb r2 x2 y2 z2 j2 m2 HB2
              go_wp2_with (first | (refine wpList_loadElem (by rfl) _ rfl g6 rfl _ hy y3 ?_) | (refine wpList_loadElem (by rfl) _ rfl g8 rfl _ hj j3 ?_))
              refine (CK2.out _ HB3.out).mono ?_
              rintro e w4 ⟨rfl, hb⟩
              have r4 := r3.below hb r3.lt
              have x4 := x3.below hb x3.lt
              have y4 := y3.below hb y3.lt
              have z4 := z3.below hb z3.lt
              have j4 := j3.below hb j3.lt
              have m4 := m3.below hb m3.lt
              have HB4 := Lib.hid (HB3.out.trans (hb.mono HB3.out.size))
              clear hb r3 x3 y3 z3 j3 m3 HB3
              go_wp2_with (first | (refine wpList_loadElem (by rfl) _ rfl g9 rfl _ hm m4 ?_) | (refine wpList_loadElem (by rfl) _ rfl g5 rfl _ hx x4 ?_))
              refine (CK3.out _ HB4.out).mono ?_
              rintro e w5 ⟨rfl, hb⟩
              have r5 := r4.below hb r4.lt
              have x5 := x4.below hb x4.lt
              have y5 := y4.below hb y4.lt
              have z5 := z4.below hb z4.lt
              have j5 := j4.below hb j4.lt
              have m5 := m4.below hb m4.lt
              have HB5 := Lib.hid (HB4.out.trans (hb.mono HB4.out.size))
              clear hb r4 x4 y4 z4 j4 m4 HB4
              go_wp2_with (first | (refine wpList_loadElem (by rfl) _ rfl g9 rfl _ hm m5 ?_) | (refine wpList_loadElem (by rfl) _ rfl g6 rfl _ hy y5 ?_))
              refine (CK4.out _ HB5.out).mono ?_
              rintro e w6 ⟨rfl, hb⟩
              have r6 := r5.below hb r5.lt
              have x6 := x5.below hb x5.lt
              have y6 := y5.below hb y5.lt
              have z6 := z5.below hb z5.lt
              have j6 := j5.below hb j5.lt
              have m6 := m5.below hb m5.lt
              have HB6 := Lib.hid (HB5.out.trans (hb.mono HB5.out.size))
              clear hb r5 x5 y5 z5 j5 m5 HB5
              clear CF1 CF2 CK1 CK2 CK3 CK4
              go_upto_region 7 with fail
              go_cut [107] from 78 to 107 (fun p wx => p = .bool false ∧ RowAt wx w.heap.size 24 (sv t A n c) ∧ RowAt wx g5 30 (uv x) ∧ RowAt wx g6 30 (uv y) ∧ RowAt wx g7 30 (uv z) ∧ RowAt wx g8 30 (uv j) ∧ RowAt wx g9 30 (uv m) ∧ Below w.heap.size w wx)
              case first =>
                clear CJ1 CJ2 CJ3 CJ4 CJ5 CM1 CM2 CL1 CL2 CBO CTO HAL
                obtain ⟨v6, hv6⟩ : ∃ v, leqE x z = v := ⟨_, rfl⟩
                have D6 := HLE.out x z hx hz
                rw [hv6] at D6
                replace D6 := Lib.hid D6
                have hv6h := Lib.hid hv6; clear hv6
                cases v6
                · go_wp2_with (first | (refine wpList_loadElem (by rfl) _ rfl g5 rfl _ hx x6 ?_) | (refine wpList_loadElem (by rfl) _ rfl g7 rfl _ hz z6 ?_))
                  refine (D6.out _ HB6.out).mono ?_
                  rintro e w7 ⟨rfl, hb⟩
                  have r7 := r6.below hb r6.lt
                  have x7 := x6.below hb x6.lt
                  have y7 := y6.below hb y6.lt
                  have z7 := z6.below hb z6.lt
                  have j7 := j6.below hb j6.lt
                  have m7 := m6.below hb m6.lt
                  have HB7 := Lib.hid (HB6.out.trans (hb.mono HB6.out.size))
                  clear hb r6 x6 y6 z6 j6 m6 HB6
                  obtain ⟨v7, hv7⟩ : ∃ v, leqE z x = v := ⟨_, rfl⟩
                  have D7 := HLE.out z x hz hx
                  rw [hv7] at D7
                  replace D7 := Lib.hid D7
                  have hv7h := Lib.hid hv7; clear hv7
                  cases v7
                  · go_wp2_with (first | (refine wpList_loadElem (by rfl) _ rfl g7 rfl _ hz z7 ?_) | (refine wpList_loadElem (by rfl) _ rfl g5 rfl _ hx x7 ?_))
                    refine (D7.out _ HB7.out).mono ?_
                    rintro e w8 ⟨rfl, hb⟩
                    have r8 := r7.below hb r7.lt
                    have x8 := x7.below hb x7.lt
                    have y8 := y7.below hb y7.lt
                    have z8 := z7.below hb z7.lt
                    have j8 := j7.below hb j7.lt
                    have m8 := m7.below hb m7.lt
                    have HB8 := Lib.hid (HB7.out.trans (hb.mono HB7.out.size))
                    clear hb r7 x7 y7 z7 j7 m7 HB7
                    go_wp2_with fail
                    go_meet
                    case rel => exact ⟨rfl, r8, x8, y8, z8, j8, m8, HB8.out⟩
                  · go_wp2_with (first | (refine wpList_loadElem (by rfl) _ rfl g7 rfl _ hz z7 ?_) | (refine wpList_loadElem (by rfl) _ rfl g5 rfl _ hx x7 ?_))
                    refine (D7.out _ HB7.out).mono ?_
                    rintro e w8 ⟨rfl, hb⟩
                    have r8 := r7.below hb r7.lt
                    have x8 := x7.below hb x7.lt
                    have y8 := y7.below hb y7.lt
                    have z8 := z7.below hb z7.lt
                    have j8 := j7.below hb j7.lt
                    have m8 := m7.below hb m7.lt
                    have HB8 := Lib.hid (HB7.out.trans (hb.mono HB7.out.size))
                    clear hb r7 x7 y7 z7 j7 m7 HB7
                    obtain ⟨v8, hv8⟩ : ∃ v, leqE z y = v := ⟨_, rfl⟩
                    have D8 := HLE.out z y hz hy
                    rw [hv8] at D8
                    replace D8 := Lib.hid D8
                    have hv8h := Lib.hid hv8; clear hv8
                    cases v8
                    · go_wp2_with (first | (refine wpList_loadElem (by rfl) _ rfl g7 rfl _ hz z8 ?_) | (refine wpList_loadElem (by rfl) _ rfl g6 rfl _ hy y8 ?_))
                      refine (D8.out _ HB8.out).mono ?_
                      rintro e w9 ⟨rfl, hb⟩
                      have r9 := r8.below hb r8.lt
                      have x9 := x8.below hb x8.lt
                      have y9 := y8.below hb y8.lt
                      have z9 := z8.below hb z8.lt
                      have j9 := j8.below hb j8.lt
                      have m9 := m8.below hb m8.lt
                      have HB9 := Lib.hid (HB8.out.trans (hb.mono HB8.out.size))
                      clear hb r8 x8 y8 z8 j8 m8 HB8
                      go_wp2_with fail
                      go_meet
                      case rel => exact ⟨rfl, r9, x9, y9, z9, j9, m9, HB9.out⟩
                    · go_wp2_with (first | (refine wpList_loadElem (by rfl) _ rfl g7 rfl _ hz z8 ?_) | (refine wpList_loadElem (by rfl) _ rfl g6 rfl _ hy y8 ?_))
                      refine (D8.out _ HB8.out).mono ?_
                      rintro e w9 ⟨rfl, hb⟩
                      have r9 := r8.below hb r8.lt
                      have x9 := x8.below hb x8.lt
                      have y9 := y8.below hb y8.lt
                      have z9 := z8.below hb z8.lt
                      have j9 := j8.below hb j8.lt
                      have m9 := m8.below hb m8.lt
                      have HB9 := Lib.hid (HB8.out.trans (hb.mono HB8.out.size))
                      clear hb r8 x8 y8 z8 j8 m8 HB8
                      have D9 := HLE.out z m hz hm
                      rw [HGLB.out hv7h.out hv8h.out] at D9
                      replace D9 := Lib.hid D9
                      go_wp2_with (first | (refine wpList_loadElem (by rfl) _ rfl g7 rfl _ hz z9 ?_) | (refine wpList_loadElem (by rfl) _ rfl g9 rfl _ hm m9 ?_))
                      refine (D9.out _ HB9.out).mono ?_
                      rintro e w10 ⟨rfl, hb⟩
                      have r10 := r9.below hb r9.lt
                      have x10 := x9.below hb x9.lt
                      have y10 := y9.below hb y9.lt
                      have z10 := z9.below hb z9.lt
                      have j10 := j9.below hb j9.lt
                      have m10 := m9.below hb m9.lt
                      have HB10 := Lib.hid (HB9.out.trans (hb.mono HB9.out.size))
                      clear hb r9 x9 y9 z9 j9 m9 HB9
                      go_wp2_with fail
                      go_meet
                      case rel => exact ⟨rfl, r10, x10, y10, z10, j10, m10, HB10.out⟩
                · go_wp2_with (first | (refine wpList_loadElem (by rfl) _ rfl g5 rfl _ hx x6 ?_) | (refine wpList_loadElem (by rfl) _ rfl g7 rfl _ hz z6 ?_))
                  refine (D6.out _ HB6.out).mono ?_
                  rintro e w7 ⟨rfl, hb⟩
                  have r7 := r6.below hb r6.lt
                  have x7 := x6.below hb x6.lt
                  have y7 := y6.below hb y6.lt
                  have z7 := z6.below hb z6.lt
                  have j7 := j6.below hb j6.lt
                  have m7 := m6.below hb m6.lt
                  have HB7 := Lib.hid (HB6.out.trans (hb.mono HB6.out.size))
                  clear hb r6 x6 y6 z6 j6 m6 HB6
                  obtain ⟨v7, hv7⟩ : ∃ v, leqE y z = v := ⟨_, rfl⟩
                  have D7 := HLE.out y z hy hz
                  rw [hv7] at D7
                  replace D7 := Lib.hid D7
                  have hv7h := Lib.hid hv7; clear hv7
                  cases v7
                  · go_wp2_with (first | (refine wpList_loadElem (by rfl) _ rfl g6 rfl _ hy y7 ?_) | (refine wpList_loadElem (by rfl) _ rfl g7 rfl _ hz z7 ?_))
                    refine (D7.out _ HB7.out).mono ?_
                    rintro e w8 ⟨rfl, hb⟩
                    have r8 := r7.below hb r7.lt
                    have x8 := x7.below hb x7.lt
                    have y8 := y7.below hb y7.lt
                    have z8 := z7.below hb z7.lt
                    have j8 := j7.below hb j7.lt
                    have m8 := m7.below hb m7.lt
                    have HB8 := Lib.hid (HB7.out.trans (hb.mono HB7.out.size))
                    clear hb r7 x7 y7 z7 j7 m7 HB7
                    obtain ⟨v8, hv8⟩ : ∃ v, leqE z x = v := ⟨_, rfl⟩
                    have D8 := HLE.out z x hz hx
                    rw [hv8] at D8
                    replace D8 := Lib.hid D8
                    have hv8h := Lib.hid hv8; clear hv8
                    cases v8
                    · go_wp2_with (first | (refine wpList_loadElem (by rfl) _ rfl g7 rfl _ hz z8 ?_) | (refine wpList_loadElem (by rfl) _ rfl g5 rfl _ hx x8 ?_))
                      refine (D8.out _ HB8.out).mono ?_
                      rintro e w9 ⟨rfl, hb⟩
                      have r9 := r8.below hb r8.lt
                      have x9 := x8.below hb x8.lt
                      have y9 := y8.below hb y8.lt
                      have z9 := z8.below hb z8.lt
                      have j9 := j8.below hb j8.lt
                      have m9 := m8.below hb m8.lt
                      have HB9 := Lib.hid (HB8.out.trans (hb.mono HB8.out.size))
                      clear hb r8 x8 y8 z8 j8 m8 HB8
                      go_wp2_with fail
                      go_meet
                      case rel => exact ⟨rfl, r9, x9, y9, z9, j9, m9, HB9.out⟩
                    · go_wp2_with (first | (refine wpList_loadElem (by rfl) _ rfl g7 rfl _ hz z8 ?_) | (refine wpList_loadElem (by rfl) _ rfl g5 rfl _ hx x8 ?_))
                      refine (D8.out _ HB8.out).mono ?_
                      rintro e w9 ⟨rfl, hb⟩
                      have r9 := r8.below hb r8.lt
                      have x9 := x8.below hb x8.lt
                      have y9 := y8.below hb y8.lt
                      have z9 := z8.below hb z8.lt
                      have j9 := j8.below hb j8.lt
                      have m9 := m8.below hb m8.lt
                      have HB9 := Lib.hid (HB8.out.trans (hb.mono HB8.out.size))
                      clear hb r8 x8 y8 z8 j8 m8 HB8
                      obtain ⟨v9, hv9⟩ : ∃ v, leqE z y = v := ⟨_, rfl⟩
                      have D9 := HLE.out z y hz hy
                      rw [hv9] at D9
                      replace D9 := Lib.hid D9
                      have hv9h := Lib.hid hv9; clear hv9
                      cases v9
                      · go_wp2_with (first | (refine wpList_loadElem (by rfl) _ rfl g7 rfl _ hz z9 ?_) | (refine wpList_loadElem (by rfl) _ rfl g6 rfl _ hy y9 ?_))
                        refine (D9.out _ HB9.out).mono ?_
                        rintro e w10 ⟨rfl, hb⟩
                        have r10 := r9.below hb r9.lt
                        have x10 := x9.below hb x9.lt
                        have y10 := y9.below hb y9.lt
                        have z10 := z9.below hb z9.lt
                        have j10 := j9.below hb j9.lt
                        have m10 := m9.below hb m9.lt
                        have HB10 := Lib.hid (HB9.out.trans (hb.mono HB9.out.size))
                        clear hb r9 x9 y9 z9 j9 m9 HB9
                        go_wp2_with fail
                        go_meet
                        case rel => exact ⟨rfl, r10, x10, y10, z10, j10, m10, HB10.out⟩
                      · go_wp2_with (first | (refine wpList_loadElem (by rfl) _ rfl g7 rfl _ hz z9 ?_) | (refine wpList_loadElem (by rfl) _ rfl g6 rfl _ hy y9 ?_))
                        refine (D9.out _ HB9.out).mono ?_
                        rintro e w10 ⟨rfl, hb⟩
                        have r10 := r9.below hb r9.lt
                        have x10 := x9.below hb x9.lt
                        have y10 := y9.below hb y9.lt
                        have z10 := z9.below hb z9.lt
                        have j10 := j9.below hb j9.lt
                        have m10 := m9.below hb m9.lt
                        have HB10 := Lib.hid (HB9.out.trans (hb.mono HB9.out.size))
                        clear hb r9 x9 y9 z9 j9 m9 HB9
                        have D10 := HLE.out z m hz hm
                        rw [HGLB.out hv8h.out hv9h.out] at D10
                        replace D10 := Lib.hid D10
                        go_wp2_with (first | (refine wpList_loadElem (by rfl) _ rfl g7 rfl _ hz z10 ?_) | (refine wpList_loadElem (by rfl) _ rfl g9 rfl _ hm m10 ?_))
                        refine (D10.out _ HB10.out).mono ?_
                        rintro e w11 ⟨rfl, hb⟩
                        have r11 := r10.below hb r10.lt
                        have x11 := x10.below hb x10.lt
                        have y11 := y10.below hb y10.lt
                        have z11 := z10.below hb z10.lt
                        have j11 := j10.below hb j10.lt
                        have m11 := m10.below hb m10.lt
                        have HB11 := Lib.hid (HB10.out.trans (hb.mono HB10.out.size))
                        clear hb r10 x10 y10 z10 j10 m10 HB10
                        go_wp2_with fail
                        go_meet
                        case rel => exact ⟨rfl, r11, x11, y11, z11, j11, m11, HB11.out⟩
                  · go_wp2_with (first | (refine wpList_loadElem (by rfl) _ rfl g6 rfl _ hy y7 ?_) | (refine wpList_loadElem (by rfl) _ rfl g7 rfl _ hz z7 ?_))
                    refine (D7.out _ HB7.out).mono ?_
                    rintro e w8 ⟨rfl, hb⟩
                    have r8 := r7.below hb r7.lt
                    have x8 := x7.below hb x7.lt
                    have y8 := y7.below hb y7.lt
                    have z8 := z7.below hb z7.lt
                    have j8 := j7.below hb j7.lt
                    have m8 := m7.below hb m7.lt
                    have HB8 := Lib.hid (HB7.out.trans (hb.mono HB7.out.size))
                    clear hb r7 x7 y7 z7 j7 m7 HB7
                    have D8 := HLE.out j z hj hz
                    rw [HLUB.out hv6h.out hv7h.out] at D8
                    replace D8 := Lib.hid D8
                    go_wp2_with (first | (refine wpList_loadElem (by rfl) _ rfl g8 rfl _ hj j8 ?_) | (refine wpList_loadElem (by rfl) _ rfl g7 rfl _ hz z8 ?_))
                    refine (D8.out _ HB8.out).mono ?_
                    rintro e w9 ⟨rfl, hb⟩
                    have r9 := r8.below hb r8.lt
                    have x9 := x8.below hb x8.lt
                    have y9 := y8.below hb y8.lt
                    have z9 := z8.below hb z8.lt
                    have j9 := j8.below hb j8.lt
                    have m9 := m8.below hb m8.lt
                    have HB9 := Lib.hid (HB8.out.trans (hb.mono HB8.out.size))
                    clear hb r8 x8 y8 z8 j8 m8 HB8
                    obtain ⟨v9, hv9⟩ : ∃ v, leqE z x = v := ⟨_, rfl⟩
                    have D9 := HLE.out z x hz hx
                    rw [hv9] at D9
                    replace D9 := Lib.hid D9
                    have hv9h := Lib.hid hv9; clear hv9
                    cases v9
                    · go_wp2_with (first | (refine wpList_loadElem (by rfl) _ rfl g7 rfl _ hz z9 ?_) | (refine wpList_loadElem (by rfl) _ rfl g5 rfl _ hx x9 ?_))
                      refine (D9.out _ HB9.out).mono ?_
                      rintro e w10 ⟨rfl, hb⟩
                      have r10 := r9.below hb r9.lt
                      have x10 := x9.below hb x9.lt
                      have y10 := y9.below hb y9.lt
                      have z10 := z9.below hb z9.lt
                      have j10 := j9.below hb j9.lt
                      have m10 := m9.below hb m9.lt
                      have HB10 := Lib.hid (HB9.out.trans (hb.mono HB9.out.size))
                      clear hb r9 x9 y9 z9 j9 m9 HB9
                      go_wp2_with fail
                      go_meet
                      case rel => exact ⟨rfl, r10, x10, y10, z10, j10, m10, HB10.out⟩
                    · go_wp2_with (first | (refine wpList_loadElem (by rfl) _ rfl g7 rfl _ hz z9 ?_) | (refine wpList_loadElem (by rfl) _ rfl g5 rfl _ hx x9 ?_))
                      refine (D9.out _ HB9.out).mono ?_
                      rintro e w10 ⟨rfl, hb⟩
                      have r10 := r9.below hb r9.lt
                      have x10 := x9.below hb x9.lt
                      have y10 := y9.below hb y9.lt
                      have z10 := z9.below hb z9.lt
                      have j10 := j9.below hb j9.lt
                      have m10 := m9.below hb m9.lt
                      have HB10 := Lib.hid (HB9.out.trans (hb.mono HB9.out.size))
                      clear hb r9 x9 y9 z9 j9 m9 HB9
                      obtain ⟨v10, hv10⟩ : ∃ v, leqE z y = v := ⟨_, rfl⟩
                      have D10 := HLE.out z y hz hy
                      rw [hv10] at D10
                      replace D10 := Lib.hid D10
                      have hv10h := Lib.hid hv10; clear hv10
                      cases v10
                      · go_wp2_with (first | (refine wpList_loadElem (by rfl) _ rfl g7 rfl _ hz z10 ?_) | (refine wpList_loadElem (by rfl) _ rfl g6 rfl _ hy y10 ?_))
                        refine (D10.out _ HB10.out).mono ?_
                        rintro e w11 ⟨rfl, hb⟩
                        have r11 := r10.below hb r10.lt
                        have x11 := x10.below hb x10.lt
                        have y11 := y10.below hb y10.lt
                        have z11 := z10.below hb z10.lt
                        have j11 := j10.below hb j10.lt
                        have m11 := m10.below hb m10.lt
                        have HB11 := Lib.hid (HB10.out.trans (hb.mono HB10.out.size))
                        clear hb r10 x10 y10 z10 j10 m10 HB10
                        go_wp2_with fail
                        go_meet
                        case rel => exact ⟨rfl, r11, x11, y11, z11, j11, m11, HB11.out⟩
                      · go_wp2_with (first | (refine wpList_loadElem (by rfl) _ rfl g7 rfl _ hz z10 ?_) | (refine wpList_loadElem (by rfl) _ rfl g6 rfl _ hy y10 ?_))
                        refine (D10.out _ HB10.out).mono ?_
                        rintro e w11 ⟨rfl, hb⟩
                        have r11 := r10.below hb r10.lt
                        have x11 := x10.below hb x10.lt
                        have y11 := y10.below hb y10.lt
                        have z11 := z10.below hb z10.lt
                        have j11 := j10.below hb j10.lt
                        have m11 := m10.below hb m10.lt
                        have HB11 := Lib.hid (HB10.out.trans (hb.mono HB10.out.size))
                        clear hb r10 x10 y10 z10 j10 m10 HB10
                        have D11 := HLE.out z m hz hm
                        rw [HGLB.out hv9h.out hv10h.out] at D11
                        replace D11 := Lib.hid D11
                        go_wp2_with (first | (refine wpList_loadElem (by rfl) _ rfl g7 rfl _ hz z11 ?_) | (refine wpList_loadElem (by rfl) _ rfl g9 rfl _ hm m11 ?_))
                        refine (D11.out _ HB11.out).mono ?_
                        rintro e w12 ⟨rfl, hb⟩
                        have r12 := r11.below hb r11.lt
                        have x12 := x11.below hb x11.lt
                        have y12 := y11.below hb y11.lt
                        have z12 := z11.below hb z11.lt
                        have j12 := j11.below hb j11.lt
                        have m12 := m11.below hb m11.lt
                        have HB12 := Lib.hid (HB11.out.trans (hb.mono HB11.out.size))
                        clear hb r11 x11 y11 z11 j11 m11 HB11
                        go_wp2_with fail
                        go_meet
                        case rel => exact ⟨rfl, r12, x12, y12, z12, j12, m12, HB12.out⟩
              case rest =>
                clear r6 x6 y6 z6 j6 m6 HB6 HLUB HGLB
                obtain ⟨rfl, r0, x0, y0, z0, j0, m0, hb0⟩ := hcut
                have HB0 := Lib.hid hb0; clear hb0
                go_wp2_with fail
                go_upto_region 9 with fail
                obtain ⟨wq, hwq⟩ : ∃ wq : World, wq = wc := ⟨_, rfl⟩
                subst hwq
                go_cut [134] from 108 to 134 (fun p wx => p = .bool false ∧ RowAt wx w.heap.size 24 (sv t A n c) ∧ RowAt wx g5 30 (uv x) ∧ RowAt wx g6 30 (uv y) ∧ RowAt wx g7 30 (uv z) ∧ RowAt wx g8 30 (uv j) ∧ RowAt wx g9 30 (uv m) ∧ Below w.heap.size w wx)
                case first =>
                  clear CJ1 CJ2 CJ3 CJ4 CJ5 CM1 CM2 HAL
                  obtain ⟨S, HS, pW, keepS⟩ := ex_gen wq
                  have pR := fun w' h => r0.below (pW w' h) r0.lt
                  have pX := fun w' h => x0.below (pW w' h) x0.lt
                  have pY := fun w' h => y0.below (pW w' h) y0.lt
                  have pZ := fun w' h => z0.below (pW w' h) z0.lt
                  have pJ := fun w' h => j0.below (pW w' h) j0.lt
                  have pM := fun w' h => m0.below (pW w' h) m0.lt
                  have PRh := Lib.hid pR
                  have PXh := Lib.hid pX
                  have PYh := Lib.hid pY
                  have PZh := Lib.hid pZ
                  have PJh := Lib.hid pJ
                  have PMh := Lib.hid pM
                  have PB : Hid (∀ w', S w' → Below w.heap.size w w') := fun w' h => HB0.out.trans ((pW w' h).mono HB0.out.size)
                  clear pW r0 x0 y0 z0 j0 m0 HB0
                  obtain ⟨v1, hv1⟩ : ∃ v, leqE x y = v := ⟨_, rfl⟩
                  have E1 := HLE.out x y hx hy
                  rw [hv1] at E1
                  replace E1 := Lib.hid E1
                  obtain ⟨v2, hv2⟩ : ∃ v, leqE y x = v := ⟨_, rfl⟩
                  have E2 := HLE.out y x hy hx
                  rw [hv2] at E2
                  replace E2 := Lib.hid E2
                  have HV1 := Lib.hid hv1; clear hv1
                  have HV2 := Lib.hid hv2; clear hv2
                  clear HLE
                  cases v1
                  · clear HV1 HV2
                    refine wp_region_ord S [(0, true), (1, true), (2, false), (3, true), (4, true), (5, true), (6, false), (7, true), (8, true), (9, true), (10, true), (11, true), (12, true), (13, true), (14, true), (16, true), (15, false), (17, false), (18, true), (19, true), (20, true), (21, true), (22, true), (23, false), (24, false), (25, true), (26, true)] (by kernel_rfl) (by kernel_rfl) rfl (by kernel_rfl) HS.out ?_
                    generalize wq.drew = V at HS ⊢
                    iterate 2
                      (refine wpOrd_step (o := ?_) ?_ ?_; rotate_left 1; (simp only [List.getElem?_toArray, List.getElem?_cons_succ, List.getElem?_cons_zero]; with_reducible rfl))
                      (first
                          | (refine wpOrd_skip (by rfl) ?_)
                          | (refine wpOrd_take (by rfl) (take_loadShape _ rfl _ rfl _ _ _ _ pR) ?_)
                          | (refine wpOrd_take (by rfl) (take_loadElem _ rfl _ rfl _ hx pX) ?_)
                          | (refine wpOrd_take (by rfl) (take_loadElem _ rfl _ rfl _ hy pY) ?_)
                          | (refine wpOrd_take (by rfl) (take_loadElem _ rfl _ rfl _ hz pZ) ?_)
                          | (refine wpOrd_take (by rfl) (take_loadElem _ rfl _ rfl _ hj pJ) ?_)
                          | (refine wpOrd_take (by rfl) (take_loadElem _ rfl _ rfl _ hm pM) ?_)
                          | (refine wpOrd_take (v := ?_) (by rfl) ?_ ?_; rotate_left 1; (intro wx hSx; go_simp; try with_reducible rfl)))
                      (try simp only [Act.put, List.setIfInBounds_toArray, List.set_cons_zero, List.set_cons_succ])
                    (refine wpOrd_solo (o := ?_) ?_ ?_; rotate_left 1; (simp only [List.getElem?_toArray, List.getElem?_cons_succ, List.getElem?_cons_zero]; with_reducible rfl))
                    intro K hK
                    go_simp
                    go_at_call 19
                    refine (E1.out _ (PB.out _ HS.out)).mono ?_
                    rintro e w1 ⟨rfl, hb⟩
                    have hS := keepS _ _ HS.out hb
                    clear HS
                    have HS := Lib.hid hS; clear hS hb
                    refine hK.out _ _ HS.out ?_
                    clear hK K
                    (try simp only [Act.put, List.setIfInBounds_toArray, List.set_cons_zero, List.set_cons_succ])
                    iterate 3
                      (refine wpOrd_step (o := ?_) ?_ ?_; rotate_left 1; (simp only [List.getElem?_toArray, List.getElem?_cons_succ, List.getElem?_cons_zero]; with_reducible rfl))
                      (first
                          | (refine wpOrd_skip (by rfl) ?_)
                          | (refine wpOrd_take (by rfl) (take_loadShape _ rfl _ rfl _ _ _ _ pR) ?_)
                          | (refine wpOrd_take (by rfl) (take_loadElem _ rfl _ rfl _ hx pX) ?_)
                          | (refine wpOrd_take (by rfl) (take_loadElem _ rfl _ rfl _ hy pY) ?_)
                          | (refine wpOrd_take (by rfl) (take_loadElem _ rfl _ rfl _ hz pZ) ?_)
                          | (refine wpOrd_take (by rfl) (take_loadElem _ rfl _ rfl _ hj pJ) ?_)
                          | (refine wpOrd_take (by rfl) (take_loadElem _ rfl _ rfl _ hm pM) ?_)
                          | (refine wpOrd_take (v := ?_) (by rfl) ?_ ?_; rotate_left 1; (intro wx hSx; go_simp; try with_reducible rfl)))
                      (try simp only [Act.put, List.setIfInBounds_toArray, List.set_cons_zero, List.set_cons_succ])
                    (refine wpOrd_solo (o := ?_) ?_ ?_; rotate_left 1; (simp only [List.getElem?_toArray, List.getElem?_cons_succ, List.getElem?_cons_zero]; with_reducible rfl))
                    intro K hK
                    go_simp
                    refine hK.out _ _ HS.out ?_
                    clear hK K
                    (try simp only [Act.put, List.setIfInBounds_toArray, List.set_cons_zero, List.set_cons_succ])
                    iterate 9
                      (refine wpOrd_step (o := ?_) ?_ ?_; rotate_left 1; (simp only [List.getElem?_toArray, List.getElem?_cons_succ, List.getElem?_cons_zero]; with_reducible rfl))
                      (first
                          | (refine wpOrd_skip (by rfl) ?_)
                          | (refine wpOrd_take (by rfl) (take_loadShape _ rfl _ rfl _ _ _ _ pR) ?_)
                          | (refine wpOrd_take (by rfl) (take_loadElem _ rfl _ rfl _ hx pX) ?_)
                          | (refine wpOrd_take (by rfl) (take_loadElem _ rfl _ rfl _ hy pY) ?_)
                          | (refine wpOrd_take (by rfl) (take_loadElem _ rfl _ rfl _ hz pZ) ?_)
                          | (refine wpOrd_take (by rfl) (take_loadElem _ rfl _ rfl _ hj pJ) ?_)
                          | (refine wpOrd_take (by rfl) (take_loadElem _ rfl _ rfl _ hm pM) ?_)
                          | (refine wpOrd_take (v := ?_) (by rfl) ?_ ?_; rotate_left 1; (intro wx hSx; go_simp; try with_reducible rfl)))
                      (try simp only [Act.put, List.setIfInBounds_toArray, List.set_cons_zero, List.set_cons_succ])
                    (refine wpOrd_solo (o := ?_) ?_ ?_; rotate_left 1; (simp only [List.getElem?_toArray, List.getElem?_cons_succ, List.getElem?_cons_zero]; with_reducible rfl))
                    intro K hK
                    go_simp
                    go_at_call 12
                    refine (CBO.out _ (PB.out _ HS.out)).mono ?_
                    rintro e w3 ⟨rfl, hb⟩
                    have hS := keepS _ _ HS.out hb
                    clear HS
                    have HS := Lib.hid hS; clear hS hb
                    refine hK.out _ _ HS.out ?_
                    clear hK K
                    (try simp only [Act.put, List.setIfInBounds_toArray, List.set_cons_zero, List.set_cons_succ])
                    (refine wpOrd_solo (o := ?_) ?_ ?_; rotate_left 1; (simp only [List.getElem?_toArray, List.getElem?_cons_succ, List.getElem?_cons_zero]; with_reducible rfl))
                    intro K hK
                    go_simp
                    go_at_call 19
                    refine (CL1.out _ (PB.out _ HS.out)).mono ?_
                    rintro e w4 ⟨rfl, hb⟩
                    have hS := keepS _ _ HS.out hb
                    clear HS
                    have HS := Lib.hid hS; clear hS hb
                    refine hK.out _ _ HS.out ?_
                    clear hK K
                    (try simp only [Act.put, List.setIfInBounds_toArray, List.set_cons_zero, List.set_cons_succ])
                    iterate 5
                      (refine wpOrd_step (o := ?_) ?_ ?_; rotate_left 1; (simp only [List.getElem?_toArray, List.getElem?_cons_succ, List.getElem?_cons_zero]; with_reducible rfl))
                      (first
                          | (refine wpOrd_skip (by rfl) ?_)
                          | (refine wpOrd_take (by rfl) (take_loadShape _ rfl _ rfl _ _ _ _ pR) ?_)
                          | (refine wpOrd_take (by rfl) (take_loadElem _ rfl _ rfl _ hx pX) ?_)
                          | (refine wpOrd_take (by rfl) (take_loadElem _ rfl _ rfl _ hy pY) ?_)
                          | (refine wpOrd_take (by rfl) (take_loadElem _ rfl _ rfl _ hz pZ) ?_)
                          | (refine wpOrd_take (by rfl) (take_loadElem _ rfl _ rfl _ hj pJ) ?_)
                          | (refine wpOrd_take (by rfl) (take_loadElem _ rfl _ rfl _ hm pM) ?_)
                          | (refine wpOrd_take (v := ?_) (by rfl) ?_ ?_; rotate_left 1; (intro wx hSx; go_simp; try with_reducible rfl)))
                      (try simp only [Act.put, List.setIfInBounds_toArray, List.set_cons_zero, List.set_cons_succ])
                    (refine wpOrd_solo (o := ?_) ?_ ?_; rotate_left 1; (simp only [List.getElem?_toArray, List.getElem?_cons_succ, List.getElem?_cons_zero]; with_reducible rfl))
                    intro K hK
                    go_simp
                    go_at_call 14
                    refine (CTO.out _ (PB.out _ HS.out)).mono ?_
                    rintro e w5 ⟨rfl, hb⟩
                    have hS := keepS _ _ HS.out hb
                    clear HS
                    have HS := Lib.hid hS; clear hS hb
                    refine hK.out _ _ HS.out ?_
                    clear hK K
                    (try simp only [Act.put, List.setIfInBounds_toArray, List.set_cons_zero, List.set_cons_succ])
                    (refine wpOrd_solo (o := ?_) ?_ ?_; rotate_left 1; (simp only [List.getElem?_toArray, List.getElem?_cons_succ, List.getElem?_cons_zero]; with_reducible rfl))
                    intro K hK
                    go_simp
                    go_at_call 19
                    refine (CL2.out _ (PB.out _ HS.out)).mono ?_
                    rintro e w6 ⟨rfl, hb⟩
                    have hS := keepS _ _ HS.out hb
                    clear HS
                    have HS := Lib.hid hS; clear hS hb
                    refine hK.out _ _ HS.out ?_
                    clear hK K
                    (try simp only [Act.put, List.setIfInBounds_toArray, List.set_cons_zero, List.set_cons_succ])
                    iterate 2
                      (refine wpOrd_step (o := ?_) ?_ ?_; rotate_left 1; (simp only [List.getElem?_toArray, List.getElem?_cons_succ, List.getElem?_cons_zero]; with_reducible rfl))
                      (first
                          | (refine wpOrd_skip (by rfl) ?_)
                          | (refine wpOrd_take (by rfl) (take_loadShape _ rfl _ rfl _ _ _ _ pR) ?_)
                          | (refine wpOrd_take (by rfl) (take_loadElem _ rfl _ rfl _ hx pX) ?_)
                          | (refine wpOrd_take (by rfl) (take_loadElem _ rfl _ rfl _ hy pY) ?_)
                          | (refine wpOrd_take (by rfl) (take_loadElem _ rfl _ rfl _ hz pZ) ?_)
                          | (refine wpOrd_take (by rfl) (take_loadElem _ rfl _ rfl _ hj pJ) ?_)
                          | (refine wpOrd_take (by rfl) (take_loadElem _ rfl _ rfl _ hm pM) ?_)
                          | (refine wpOrd_take (v := ?_) (by rfl) ?_ ?_; rotate_left 1; (intro wx hSx; go_simp; try with_reducible rfl)))
                      (try simp only [Act.put, List.setIfInBounds_toArray, List.set_cons_zero, List.set_cons_succ])
                    refine wpOrd_done ?_
                    have HB9 := Lib.hid (PB.out _ HS.out)
                    have r9 := PRh.out _ HS.out
                    have x9 := PXh.out _ HS.out
                    have y9 := PYh.out _ HS.out
                    have z9 := PZh.out _ HS.out
                    have j9 := PJh.out _ HS.out
                    have m9 := PMh.out _ HS.out
                    clear pR pX pY pZ pJ pM PRh PXh PYh PZh PJh PMh PB HS keepS S
                    go_wp2_with fail
                    go_meet
                    case rel => exact ⟨rfl, r9, x9, y9, z9, j9, m9, HB9.out⟩
                  · cases v2
                    · clear HV1 HV2
                      refine wp_region_ord S [(0, true), (1, true), (2, false), (3, true), (4, true), (5, true), (6, false), (7, true), (8, true), (9, true), (10, true), (11, true), (12, true), (13, true), (14, true), (16, true), (15, false), (17, false), (18, true), (19, true), (20, true), (21, true), (22, true), (23, false), (24, false), (25, true), (26, true)] (by kernel_rfl) (by kernel_rfl) rfl (by kernel_rfl) HS.out ?_
                      generalize wq.drew = V at HS ⊢
                      iterate 2
                        (refine wpOrd_step (o := ?_) ?_ ?_; rotate_left 1; (simp only [List.getElem?_toArray, List.getElem?_cons_succ, List.getElem?_cons_zero]; with_reducible rfl))
                        (first
                            | (refine wpOrd_skip (by rfl) ?_)
                            | (refine wpOrd_take (by rfl) (take_loadShape _ rfl _ rfl _ _ _ _ pR) ?_)
                            | (refine wpOrd_take (by rfl) (take_loadElem _ rfl _ rfl _ hx pX) ?_)
                            | (refine wpOrd_take (by rfl) (take_loadElem _ rfl _ rfl _ hy pY) ?_)
                            | (refine wpOrd_take (by rfl) (take_loadElem _ rfl _ rfl _ hz pZ) ?_)
                            | (refine wpOrd_take (by rfl) (take_loadElem _ rfl _ rfl _ hj pJ) ?_)
                            | (refine wpOrd_take (by rfl) (take_loadElem _ rfl _ rfl _ hm pM) ?_)
                            | (refine wpOrd_take (v := ?_) (by rfl) ?_ ?_; rotate_left 1; (intro wx hSx; go_simp; try with_reducible rfl)))
                        (try simp only [Act.put, List.setIfInBounds_toArray, List.set_cons_zero, List.set_cons_succ])
                      (refine wpOrd_solo (o := ?_) ?_ ?_; rotate_left 1; (simp only [List.getElem?_toArray, List.getElem?_cons_succ, List.getElem?_cons_zero]; with_reducible rfl))
                      intro K hK
                      go_simp
                      go_at_call 19
                      refine (E1.out _ (PB.out _ HS.out)).mono ?_
                      rintro e w1 ⟨rfl, hb⟩
                      have hS := keepS _ _ HS.out hb
                      clear HS
                      have HS := Lib.hid hS; clear hS hb
                      refine hK.out _ _ HS.out ?_
                      clear hK K
                      (try simp only [Act.put, List.setIfInBounds_toArray, List.set_cons_zero, List.set_cons_succ])
                      iterate 3
                        (refine wpOrd_step (o := ?_) ?_ ?_; rotate_left 1; (simp only [List.getElem?_toArray, List.getElem?_cons_succ, List.getElem?_cons_zero]; with_reducible rfl))
                        (first
                            | (refine wpOrd_skip (by rfl) ?_)
                            | (refine wpOrd_take (by rfl) (take_loadShape _ rfl _ rfl _ _ _ _ pR) ?_)
                            | (refine wpOrd_take (by rfl) (take_loadElem _ rfl _ rfl _ hx pX) ?_)
                            | (refine wpOrd_take (by rfl) (take_loadElem _ rfl _ rfl _ hy pY) ?_)
                            | (refine wpOrd_take (by rfl) (take_loadElem _ rfl _ rfl _ hz pZ) ?_)
                            | (refine wpOrd_take (by rfl) (take_loadElem _ rfl _ rfl _ hj pJ) ?_)
                            | (refine wpOrd_take (by rfl) (take_loadElem _ rfl _ rfl _ hm pM) ?_)
                            | (refine wpOrd_take (v := ?_) (by rfl) ?_ ?_; rotate_left 1; (intro wx hSx; go_simp; try with_reducible rfl)))
                        (try simp only [Act.put, List.setIfInBounds_toArray, List.set_cons_zero, List.set_cons_succ])
                      (refine wpOrd_solo (o := ?_) ?_ ?_; rotate_left 1; (simp only [List.getElem?_toArray, List.getElem?_cons_succ, List.getElem?_cons_zero]; with_reducible rfl))
                      intro K hK
                      go_simp
                      go_at_call 19
                      refine (E2.out _ (PB.out _ HS.out)).mono ?_
                      rintro e w2 ⟨rfl, hb⟩
                      have hS := keepS _ _ HS.out hb
                      clear HS
                      have HS := Lib.hid hS; clear hS hb
                      refine hK.out _ _ HS.out ?_
                      clear hK K
                      (try simp only [Act.put, List.setIfInBounds_toArray, List.set_cons_zero, List.set_cons_succ])
                      iterate 9
                        (refine wpOrd_step (o := ?_) ?_ ?_; rotate_left 1; (simp only [List.getElem?_toArray, List.getElem?_cons_succ, List.getElem?_cons_zero]; with_reducible rfl))
                        (first
                            | (refine wpOrd_skip (by rfl) ?_)
                            | (refine wpOrd_take (by rfl) (take_loadShape _ rfl _ rfl _ _ _ _ pR) ?_)
                            | (refine wpOrd_take (by rfl) (take_loadElem _ rfl _ rfl _ hx pX) ?_)
                            | (refine wpOrd_take (by rfl) (take_loadElem _ rfl _ rfl _ hy pY) ?_)
                            | (refine wpOrd_take (by rfl) (take_loadElem _ rfl _ rfl _ hz pZ) ?_)
                            | (refine wpOrd_take (by rfl) (take_loadElem _ rfl _ rfl _ hj pJ) ?_)
                            | (refine wpOrd_take (by rfl) (take_loadElem _ rfl _ rfl _ hm pM) ?_)
                            | (refine wpOrd_take (v := ?_) (by rfl) ?_ ?_; rotate_left 1; (intro wx hSx; go_simp; try with_reducible rfl)))
                        (try simp only [Act.put, List.setIfInBounds_toArray, List.set_cons_zero, List.set_cons_succ])
                      (refine wpOrd_solo (o := ?_) ?_ ?_; rotate_left 1; (simp only [List.getElem?_toArray, List.getElem?_cons_succ, List.getElem?_cons_zero]; with_reducible rfl))
                      intro K hK
                      go_simp
                      go_at_call 12
                      refine (CBO.out _ (PB.out _ HS.out)).mono ?_
                      rintro e w3 ⟨rfl, hb⟩
                      have hS := keepS _ _ HS.out hb
                      clear HS
                      have HS := Lib.hid hS; clear hS hb
                      refine hK.out _ _ HS.out ?_
                      clear hK K
                      (try simp only [Act.put, List.setIfInBounds_toArray, List.set_cons_zero, List.set_cons_succ])
                      (refine wpOrd_solo (o := ?_) ?_ ?_; rotate_left 1; (simp only [List.getElem?_toArray, List.getElem?_cons_succ, List.getElem?_cons_zero]; with_reducible rfl))
                      intro K hK
                      go_simp
                      go_at_call 19
                      refine (CL1.out _ (PB.out _ HS.out)).mono ?_
                      rintro e w4 ⟨rfl, hb⟩
                      have hS := keepS _ _ HS.out hb
                      clear HS
                      have HS := Lib.hid hS; clear hS hb
                      refine hK.out _ _ HS.out ?_
                      clear hK K
                      (try simp only [Act.put, List.setIfInBounds_toArray, List.set_cons_zero, List.set_cons_succ])
                      iterate 5
                        (refine wpOrd_step (o := ?_) ?_ ?_; rotate_left 1; (simp only [List.getElem?_toArray, List.getElem?_cons_succ, List.getElem?_cons_zero]; with_reducible rfl))
                        (first
                            | (refine wpOrd_skip (by rfl) ?_)
                            | (refine wpOrd_take (by rfl) (take_loadShape _ rfl _ rfl _ _ _ _ pR) ?_)
                            | (refine wpOrd_take (by rfl) (take_loadElem _ rfl _ rfl _ hx pX) ?_)
                            | (refine wpOrd_take (by rfl) (take_loadElem _ rfl _ rfl _ hy pY) ?_)
                            | (refine wpOrd_take (by rfl) (take_loadElem _ rfl _ rfl _ hz pZ) ?_)
                            | (refine wpOrd_take (by rfl) (take_loadElem _ rfl _ rfl _ hj pJ) ?_)
                            | (refine wpOrd_take (by rfl) (take_loadElem _ rfl _ rfl _ hm pM) ?_)
                            | (refine wpOrd_take (v := ?_) (by rfl) ?_ ?_; rotate_left 1; (intro wx hSx; go_simp; try with_reducible rfl)))
                        (try simp only [Act.put, List.setIfInBounds_toArray, List.set_cons_zero, List.set_cons_succ])
                      (refine wpOrd_solo (o := ?_) ?_ ?_; rotate_left 1; (simp only [List.getElem?_toArray, List.getElem?_cons_succ, List.getElem?_cons_zero]; with_reducible rfl))
                      intro K hK
                      go_simp
                      go_at_call 14
                      refine (CTO.out _ (PB.out _ HS.out)).mono ?_
                      rintro e w5 ⟨rfl, hb⟩
                      have hS := keepS _ _ HS.out hb
                      clear HS
                      have HS := Lib.hid hS; clear hS hb
                      refine hK.out _ _ HS.out ?_
                      clear hK K
                      (try simp only [Act.put, List.setIfInBounds_toArray, List.set_cons_zero, List.set_cons_succ])
                      (refine wpOrd_solo (o := ?_) ?_ ?_; rotate_left 1; (simp only [List.getElem?_toArray, List.getElem?_cons_succ, List.getElem?_cons_zero]; with_reducible rfl))
                      intro K hK
                      go_simp
                      go_at_call 19
                      refine (CL2.out _ (PB.out _ HS.out)).mono ?_
                      rintro e w6 ⟨rfl, hb⟩
                      have hS := keepS _ _ HS.out hb
                      clear HS
                      have HS := Lib.hid hS; clear hS hb
                      refine hK.out _ _ HS.out ?_
                      clear hK K
                      (try simp only [Act.put, List.setIfInBounds_toArray, List.set_cons_zero, List.set_cons_succ])
                      iterate 2
                        (refine wpOrd_step (o := ?_) ?_ ?_; rotate_left 1; (simp only [List.getElem?_toArray, List.getElem?_cons_succ, List.getElem?_cons_zero]; with_reducible rfl))
                        (first
                            | (refine wpOrd_skip (by rfl) ?_)
                            | (refine wpOrd_take (by rfl) (take_loadShape _ rfl _ rfl _ _ _ _ pR) ?_)
                            | (refine wpOrd_take (by rfl) (take_loadElem _ rfl _ rfl _ hx pX) ?_)
                            | (refine wpOrd_take (by rfl) (take_loadElem _ rfl _ rfl _ hy pY) ?_)
                            | (refine wpOrd_take (by rfl) (take_loadElem _ rfl _ rfl _ hz pZ) ?_)
                            | (refine wpOrd_take (by rfl) (take_loadElem _ rfl _ rfl _ hj pJ) ?_)
                            | (refine wpOrd_take (by rfl) (take_loadElem _ rfl _ rfl _ hm pM) ?_)
                            | (refine wpOrd_take (v := ?_) (by rfl) ?_ ?_; rotate_left 1; (intro wx hSx; go_simp; try with_reducible rfl)))
                        (try simp only [Act.put, List.setIfInBounds_toArray, List.set_cons_zero, List.set_cons_succ])
                      refine wpOrd_done ?_
                      have HB9 := Lib.hid (PB.out _ HS.out)
                      have r9 := PRh.out _ HS.out
                      have x9 := PXh.out _ HS.out
                      have y9 := PYh.out _ HS.out
                      have z9 := PZh.out _ HS.out
                      have j9 := PJh.out _ HS.out
                      have m9 := PMh.out _ HS.out
                      clear pR pX pY pZ pJ pM PRh PXh PYh PZh PJh PMh PB HS keepS S
                      go_wp2_with fail
                      go_meet
                      case rel => exact ⟨rfl, r9, x9, y9, z9, j9, m9, HB9.out⟩
                    · have hxy : Hid (x = y) := leq_anti hx hy HV1.out HV2.out
                      clear HV1 HV2
                      refine wp_region_ord S [(0, true), (1, true), (2, false), (3, true), (4, true), (5, true), (6, false), (7, true), (8, true), (9, true), (10, true), (11, true), (12, true), (13, true), (14, true), (16, true), (15, false), (17, false), (18, true), (19, true), (20, true), (21, true), (22, true), (23, false), (24, false), (25, true), (26, true)] (by kernel_rfl) (by kernel_rfl) rfl (by kernel_rfl) HS.out ?_
                      generalize wq.drew = V at HS ⊢
                      iterate 2
                        (refine wpOrd_step (o := ?_) ?_ ?_; rotate_left 1; (simp only [List.getElem?_toArray, List.getElem?_cons_succ, List.getElem?_cons_zero]; with_reducible rfl))
                        (first
                            | (refine wpOrd_skip (by rfl) ?_)
                            | (refine wpOrd_take (by rfl) (take_loadShape _ rfl _ rfl _ _ _ _ pR) ?_)
                            | (refine wpOrd_take (by rfl) (take_loadElem _ rfl _ rfl _ hx pX) ?_)
                            | (refine wpOrd_take (by rfl) (take_loadElem _ rfl _ rfl _ hy pY) ?_)
                            | (refine wpOrd_take (by rfl) (take_loadElem _ rfl _ rfl _ hz pZ) ?_)
                            | (refine wpOrd_take (by rfl) (take_loadElem _ rfl _ rfl _ hj pJ) ?_)
                            | (refine wpOrd_take (by rfl) (take_loadElem _ rfl _ rfl _ hm pM) ?_)
                            | (refine wpOrd_take (v := ?_) (by rfl) ?_ ?_; rotate_left 1; (intro wx hSx; go_simp; try with_reducible rfl)))
                        (try simp only [Act.put, List.setIfInBounds_toArray, List.set_cons_zero, List.set_cons_succ])
                      (refine wpOrd_solo (o := ?_) ?_ ?_; rotate_left 1; (simp only [List.getElem?_toArray, List.getElem?_cons_succ, List.getElem?_cons_zero]; with_reducible rfl))
                      intro K hK
                      go_simp
                      go_at_call 19
                      refine (E1.out _ (PB.out _ HS.out)).mono ?_
                      rintro e w1 ⟨rfl, hb⟩
                      have hS := keepS _ _ HS.out hb
                      clear HS
                      have HS := Lib.hid hS; clear hS hb
                      refine hK.out _ _ HS.out ?_
                      clear hK K
                      (try simp only [Act.put, List.setIfInBounds_toArray, List.set_cons_zero, List.set_cons_succ])
                      iterate 3
                        (refine wpOrd_step (o := ?_) ?_ ?_; rotate_left 1; (simp only [List.getElem?_toArray, List.getElem?_cons_succ, List.getElem?_cons_zero]; with_reducible rfl))
                        (first
                            | (refine wpOrd_skip (by rfl) ?_)
                            | (refine wpOrd_take (by rfl) (take_loadShape _ rfl _ rfl _ _ _ _ pR) ?_)
                            | (refine wpOrd_take (by rfl) (take_loadElem _ rfl _ rfl _ hx pX) ?_)
                            | (refine wpOrd_take (by rfl) (take_loadElem _ rfl _ rfl _ hy pY) ?_)
                            | (refine wpOrd_take (by rfl) (take_loadElem _ rfl _ rfl _ hz pZ) ?_)
                            | (refine wpOrd_take (by rfl) (take_loadElem _ rfl _ rfl _ hj pJ) ?_)
                            | (refine wpOrd_take (by rfl) (take_loadElem _ rfl _ rfl _ hm pM) ?_)
                            | (refine wpOrd_take (v := ?_) (by rfl) ?_ ?_; rotate_left 1; (intro wx hSx; go_simp; try with_reducible rfl)))
                        (try simp only [Act.put, List.setIfInBounds_toArray, List.set_cons_zero, List.set_cons_succ])
                      (refine wpOrd_solo (o := ?_) ?_ ?_; rotate_left 1; (simp only [List.getElem?_toArray, List.getElem?_cons_succ, List.getElem?_cons_zero]; with_reducible rfl))
                      intro K hK
                      go_simp
                      go_at_call 19
                      refine (E2.out _ (PB.out _ HS.out)).mono ?_
                      rintro e w2 ⟨rfl, hb⟩
                      have hS := keepS _ _ HS.out hb
                      clear HS
                      have HS := Lib.hid hS; clear hS hb
                      refine hK.out _ _ HS.out ?_
                      clear hK K
                      (try simp only [Act.put, List.setIfInBounds_toArray, List.set_cons_zero, List.set_cons_succ])
                      iterate 9
                        (refine wpOrd_step (o := ?_) ?_ ?_; rotate_left 1; (simp only [List.getElem?_toArray, List.getElem?_cons_succ, List.getElem?_cons_zero]; with_reducible rfl))
                        (first
                            | (refine wpOrd_skip (by rfl) ?_)
                            | (refine wpOrd_take (by rfl) (take_loadShape _ rfl _ rfl _ _ _ _ pR) ?_)
                            | (refine wpOrd_take (by rfl) (take_loadElem _ rfl _ rfl _ hx pX) ?_)
                            | (refine wpOrd_take (by rfl) (take_loadElem _ rfl _ rfl _ hy pY) ?_)
                            | (refine wpOrd_take (by rfl) (take_loadElem _ rfl _ rfl _ hz pZ) ?_)
                            | (refine wpOrd_take (by rfl) (take_loadElem _ rfl _ rfl _ hj pJ) ?_)
                            | (refine wpOrd_take (by rfl) (take_loadElem _ rfl _ rfl _ hm pM) ?_)
                            | (refine wpOrd_take (by rfl) (take_notElem _ _ _ rfl _ _ rfl rfl hx hy hxy.out) ?_)
                            | (refine wpOrd_take (v := ?_) (by rfl) ?_ ?_; rotate_left 1; (intro wx hSx; go_simp; try with_reducible rfl)))
                        (try simp only [Act.put, List.setIfInBounds_toArray, List.set_cons_zero, List.set_cons_succ])
                      (refine wpOrd_solo (o := ?_) ?_ ?_; rotate_left 1; (simp only [List.getElem?_toArray, List.getElem?_cons_succ, List.getElem?_cons_zero]; with_reducible rfl))
                      intro K hK
                      go_simp
                      go_at_call 12
                      refine (CBO.out _ (PB.out _ HS.out)).mono ?_
                      rintro e w3 ⟨rfl, hb⟩
                      have hS := keepS _ _ HS.out hb
                      clear HS
                      have HS := Lib.hid hS; clear hS hb
                      refine hK.out _ _ HS.out ?_
                      clear hK K
                      (try simp only [Act.put, List.setIfInBounds_toArray, List.set_cons_zero, List.set_cons_succ])
                      (refine wpOrd_solo (o := ?_) ?_ ?_; rotate_left 1; (simp only [List.getElem?_toArray, List.getElem?_cons_succ, List.getElem?_cons_zero]; with_reducible rfl))
                      intro K hK
                      go_simp
                      go_at_call 19
                      refine (CL1.out _ (PB.out _ HS.out)).mono ?_
                      rintro e w4 ⟨rfl, hb⟩
                      have hS := keepS _ _ HS.out hb
                      clear HS
                      have HS := Lib.hid hS; clear hS hb
                      refine hK.out _ _ HS.out ?_
                      clear hK K
                      (try simp only [Act.put, List.setIfInBounds_toArray, List.set_cons_zero, List.set_cons_succ])
                      iterate 5
                        (refine wpOrd_step (o := ?_) ?_ ?_; rotate_left 1; (simp only [List.getElem?_toArray, List.getElem?_cons_succ, List.getElem?_cons_zero]; with_reducible rfl))
                        (first
                            | (refine wpOrd_skip (by rfl) ?_)
                            | (refine wpOrd_take (by rfl) (take_loadShape _ rfl _ rfl _ _ _ _ pR) ?_)
                            | (refine wpOrd_take (by rfl) (take_loadElem _ rfl _ rfl _ hx pX) ?_)
                            | (refine wpOrd_take (by rfl) (take_loadElem _ rfl _ rfl _ hy pY) ?_)
                            | (refine wpOrd_take (by rfl) (take_loadElem _ rfl _ rfl _ hz pZ) ?_)
                            | (refine wpOrd_take (by rfl) (take_loadElem _ rfl _ rfl _ hj pJ) ?_)
                            | (refine wpOrd_take (by rfl) (take_loadElem _ rfl _ rfl _ hm pM) ?_)
                            | (refine wpOrd_take (v := ?_) (by rfl) ?_ ?_; rotate_left 1; (intro wx hSx; go_simp; try with_reducible rfl)))
                        (try simp only [Act.put, List.setIfInBounds_toArray, List.set_cons_zero, List.set_cons_succ])
                      (refine wpOrd_solo (o := ?_) ?_ ?_; rotate_left 1; (simp only [List.getElem?_toArray, List.getElem?_cons_succ, List.getElem?_cons_zero]; with_reducible rfl))
                      intro K hK
                      go_simp
                      go_at_call 14
                      refine (CTO.out _ (PB.out _ HS.out)).mono ?_
                      rintro e w5 ⟨rfl, hb⟩
                      have hS := keepS _ _ HS.out hb
                      clear HS
                      have HS := Lib.hid hS; clear hS hb
                      refine hK.out _ _ HS.out ?_
                      clear hK K
                      (try simp only [Act.put, List.setIfInBounds_toArray, List.set_cons_zero, List.set_cons_succ])
                      (refine wpOrd_solo (o := ?_) ?_ ?_; rotate_left 1; (simp only [List.getElem?_toArray, List.getElem?_cons_succ, List.getElem?_cons_zero]; with_reducible rfl))
                      intro K hK
                      go_simp
                      go_at_call 19
                      refine (CL2.out _ (PB.out _ HS.out)).mono ?_
                      rintro e w6 ⟨rfl, hb⟩
                      have hS := keepS _ _ HS.out hb
                      clear HS
                      have HS := Lib.hid hS; clear hS hb
                      refine hK.out _ _ HS.out ?_
                      clear hK K
                      (try simp only [Act.put, List.setIfInBounds_toArray, List.set_cons_zero, List.set_cons_succ])
                      iterate 2
                        (refine wpOrd_step (o := ?_) ?_ ?_; rotate_left 1; (simp only [List.getElem?_toArray, List.getElem?_cons_succ, List.getElem?_cons_zero]; with_reducible rfl))
                        (first
                            | (refine wpOrd_skip (by rfl) ?_)
                            | (refine wpOrd_take (by rfl) (take_loadShape _ rfl _ rfl _ _ _ _ pR) ?_)
                            | (refine wpOrd_take (by rfl) (take_loadElem _ rfl _ rfl _ hx pX) ?_)
                            | (refine wpOrd_take (by rfl) (take_loadElem _ rfl _ rfl _ hy pY) ?_)
                            | (refine wpOrd_take (by rfl) (take_loadElem _ rfl _ rfl _ hz pZ) ?_)
                            | (refine wpOrd_take (by rfl) (take_loadElem _ rfl _ rfl _ hj pJ) ?_)
                            | (refine wpOrd_take (by rfl) (take_loadElem _ rfl _ rfl _ hm pM) ?_)
                            | (refine wpOrd_take (v := ?_) (by rfl) ?_ ?_; rotate_left 1; (intro wx hSx; go_simp; try with_reducible rfl)))
                        (try simp only [Act.put, List.setIfInBounds_toArray, List.set_cons_zero, List.set_cons_succ])
                      refine wpOrd_done ?_
                      have HB9 := Lib.hid (PB.out _ HS.out)
                      have r9 := PRh.out _ HS.out
                      have x9 := PXh.out _ HS.out
                      have y9 := PYh.out _ HS.out
                      have z9 := PZh.out _ HS.out
                      have j9 := PJh.out _ HS.out
                      have m9 := PMh.out _ HS.out
                      clear pR pX pY pZ pJ pM PRh PXh PYh PZh PJh PMh PB HS keepS S
                      go_wp2_with fail
                      go_meet
                      case rel => exact ⟨rfl, r9, x9, y9, z9, j9, m9, HB9.out⟩
                case rest =>
                  clear r0 x0 y0 z0 j0 m0 HB0
                  obtain ⟨rfl, r0, x0, y0, z0, j0, m0, hb0⟩ := hcut
                  have HB0 := Lib.hid hb0; clear hb0
                  clear CL1 CL2 CBO CTO HLE
                  go_wp2_with fail
                  obtain ⟨S, HS, pW, keepS⟩ := ex_gen wc
                  have pR := fun w' h => r0.below (pW w' h) r0.lt
                  have pX := fun w' h => x0.below (pW w' h) x0.lt
                  have pY := fun w' h => y0.below (pW w' h) y0.lt
                  have pZ := fun w' h => z0.below (pW w' h) z0.lt
                  have pJ := fun w' h => j0.below (pW w' h) j0.lt
                  have pM := fun w' h => m0.below (pW w' h) m0.lt
                  have PRh := Lib.hid pR
                  have PXh := Lib.hid pX
                  have PYh := Lib.hid pY
                  have PZh := Lib.hid pZ
                  have PJh := Lib.hid pJ
                  have PMh := Lib.hid pM
                  have PB : Hid (∀ w', S w' → Below w.heap.size w w') := fun w' h => HB0.out.trans ((pW w' h).mono HB0.out.size)
                  clear pW r0 x0 y0 z0 j0 m0 HB0
                  refine wp_region_ord S [(0, true), (1, true), (2, true), (3, true), (4, true), (7, true), (8, true), (9, true), (10, true), (12, true), (5, false), (6, false), (11, false), (13, false), (14, true), (15, true), (16, true), (17, true), (18, true), (20, true), (19, false), (21, true), (22, true), (23, true), (24, true), (25, true), (27, true), (26, false), (28, true), (29, true), (30, true), (31, false), (32, true), (33, true)] (by kernel_rfl) (by kernel_rfl) rfl (by kernel_rfl) HS.out ?_
                  generalize wc.drew = V at HS ⊢
                  iterate 10
                    (refine wpOrd_step (o := ?_) ?_ ?_; rotate_left 1; (simp only [List.getElem?_toArray, List.getElem?_cons_succ, List.getElem?_cons_zero]; with_reducible rfl))
                    (first
                        | (refine wpOrd_skip (by rfl) ?_)
                        | (refine wpOrd_take (by rfl) (take_loadShape _ rfl _ rfl _ _ _ _ pR) ?_)
                        | (refine wpOrd_take (by rfl) (take_loadElem _ rfl _ rfl _ hx pX) ?_)
                        | (refine wpOrd_take (by rfl) (take_loadElem _ rfl _ rfl _ hy pY) ?_)
                        | (refine wpOrd_take (by rfl) (take_loadElem _ rfl _ rfl _ hz pZ) ?_)
                        | (refine wpOrd_take (by rfl) (take_loadElem _ rfl _ rfl _ hj pJ) ?_)
                        | (refine wpOrd_take (by rfl) (take_loadElem _ rfl _ rfl _ hm pM) ?_)
                        | (refine wpOrd_take (v := ?_) (by rfl) ?_ ?_; rotate_left 1; (intro wx hSx; go_simp; try with_reducible rfl)))
                    (try simp only [Act.put, List.setIfInBounds_toArray, List.set_cons_zero, List.set_cons_succ])
                  (refine wpOrd_solo (o := ?_) ?_ ?_; rotate_left 1; (simp only [List.getElem?_toArray, List.getElem?_cons_succ, List.getElem?_cons_zero]; with_reducible rfl))
                  intro K hK
                  go_simp
                  go_at_call 21
                  refine (CJ2.out _ (PB.out _ HS.out)).mono ?_
                  rintro e w1 ⟨rfl, hb⟩
                  have hS := keepS _ _ HS.out hb
                  clear HS
                  have HS := Lib.hid hS; clear hS hb
                  refine hK.out _ _ HS.out ?_
                  clear hK K
                  (try simp only [Act.put, List.setIfInBounds_toArray, List.set_cons_zero, List.set_cons_succ])
                  (refine wpOrd_solo (o := ?_) ?_ ?_; rotate_left 1; (simp only [List.getElem?_toArray, List.getElem?_cons_succ, List.getElem?_cons_zero]; with_reducible rfl))
                  intro K hK
                  go_simp
                  go_at_call 21
                  refine (CJ3.out _ (PB.out _ HS.out)).mono ?_
                  rintro e w2 ⟨rfl, hb⟩
                  have hS := keepS _ _ HS.out hb
                  clear HS
                  have HS := Lib.hid hS; clear hS hb
                  refine hK.out _ _ HS.out ?_
                  clear hK K
                  (try simp only [Act.put, List.setIfInBounds_toArray, List.set_cons_zero, List.set_cons_succ])
                  (refine wpOrd_solo (o := ?_) ?_ ?_; rotate_left 1; (simp only [List.getElem?_toArray, List.getElem?_cons_succ, List.getElem?_cons_zero]; with_reducible rfl))
                  intro K hK
                  go_simp
                  go_at_call 21
                  refine (CJ1.out _ (PB.out _ HS.out)).mono ?_
                  rintro e w3 ⟨rfl, hb⟩
                  have hS := keepS _ _ HS.out hb
                  clear HS
                  have HS := Lib.hid hS; clear hS hb
                  refine hK.out _ _ HS.out ?_
                  clear hK K
                  (try simp only [Act.put, List.setIfInBounds_toArray, List.set_cons_zero, List.set_cons_succ])
                  (refine wpOrd_solo (o := ?_) ?_ ?_; rotate_left 1; (simp only [List.getElem?_toArray, List.getElem?_cons_succ, List.getElem?_cons_zero]; with_reducible rfl))
                  intro K hK
                  go_simp
                  go_at_call 21
                  refine (CJ4.out _ (PB.out _ HS.out)).mono ?_
                  rintro e w4 ⟨rfl, hb⟩
                  have hS := keepS _ _ HS.out hb
                  clear HS
                  have HS := Lib.hid hS; clear hS hb
                  refine hK.out _ _ HS.out ?_
                  clear hK K
                  (try simp only [Act.put, List.setIfInBounds_toArray, List.set_cons_zero, List.set_cons_succ])
                  iterate 6
                    (refine wpOrd_step (o := ?_) ?_ ?_; rotate_left 1; (simp only [List.getElem?_toArray, List.getElem?_cons_succ, List.getElem?_cons_zero]; with_reducible rfl))
                    (first
                        | (refine wpOrd_skip (by rfl) ?_)
                        | (refine wpOrd_take (by rfl) (take_loadShape _ rfl _ rfl _ _ _ _ pR) ?_)
                        | (refine wpOrd_take (by rfl) (take_loadElem _ rfl _ rfl _ hx pX) ?_)
                        | (refine wpOrd_take (by rfl) (take_loadElem _ rfl _ rfl _ hy pY) ?_)
                        | (refine wpOrd_take (by rfl) (take_loadElem _ rfl _ rfl _ hz pZ) ?_)
                        | (refine wpOrd_take (by rfl) (take_loadElem _ rfl _ rfl _ hj pJ) ?_)
                        | (refine wpOrd_take (by rfl) (take_loadElem _ rfl _ rfl _ hm pM) ?_)
                        | (refine wpOrd_take (by rfl) (take_likeElem _ _ _ rfl _ _ rfl rfl he he rfl) ?_)
                        | (refine wpOrd_take (v := ?_) (by rfl) ?_ ?_; rotate_left 1; (intro wx hSx; go_simp; try with_reducible rfl)))
                    (try simp only [Act.put, List.setIfInBounds_toArray, List.set_cons_zero, List.set_cons_succ])
                  (refine wpOrd_solo (o := ?_) ?_ ?_; rotate_left 1; (simp only [List.getElem?_toArray, List.getElem?_cons_succ, List.getElem?_cons_zero]; with_reducible rfl))
                  intro K hK
                  go_simp
                  go_at_call 21
                  refine (CJ5.out _ (PB.out _ HS.out)).mono ?_
                  rintro e w5 ⟨rfl, hb⟩
                  have hS := keepS _ _ HS.out hb
                  clear HS
                  have HS := Lib.hid hS; clear hS hb
                  refine hK.out _ _ HS.out ?_
                  clear hK K
                  (try simp only [Act.put, List.setIfInBounds_toArray, List.set_cons_zero, List.set_cons_succ])
                  iterate 6
                    (refine wpOrd_step (o := ?_) ?_ ?_; rotate_left 1; (simp only [List.getElem?_toArray, List.getElem?_cons_succ, List.getElem?_cons_zero]; with_reducible rfl))
                    (first
                        | (refine wpOrd_skip (by rfl) ?_)
                        | (refine wpOrd_take (by rfl) (take_loadShape _ rfl _ rfl _ _ _ _ pR) ?_)
                        | (refine wpOrd_take (by rfl) (take_loadElem _ rfl _ rfl _ hx pX) ?_)
                        | (refine wpOrd_take (by rfl) (take_loadElem _ rfl _ rfl _ hy pY) ?_)
                        | (refine wpOrd_take (by rfl) (take_loadElem _ rfl _ rfl _ hz pZ) ?_)
                        | (refine wpOrd_take (by rfl) (take_loadElem _ rfl _ rfl _ hj pJ) ?_)
                        | (refine wpOrd_take (by rfl) (take_loadElem _ rfl _ rfl _ hm pM) ?_)
                        | (refine wpOrd_take (by rfl) (take_likeElem _ _ _ rfl _ _ rfl rfl hx hx rfl) ?_)
                        | (refine wpOrd_take (v := ?_) (by rfl) ?_ ?_; rotate_left 1; (intro wx hSx; go_simp; try with_reducible rfl)))
                    (try simp only [Act.put, List.setIfInBounds_toArray, List.set_cons_zero, List.set_cons_succ])
                  (refine wpOrd_solo (o := ?_) ?_ ?_; rotate_left 1; (simp only [List.getElem?_toArray, List.getElem?_cons_succ, List.getElem?_cons_zero]; with_reducible rfl))
                  intro K hK
                  go_simp
                  go_at_call 23
                  refine (CM2.out _ (PB.out _ HS.out)).mono ?_
                  rintro e w6 ⟨rfl, hb⟩
                  have hS := keepS _ _ HS.out hb
                  clear HS
                  have HS := Lib.hid hS; clear hS hb
                  refine hK.out _ _ HS.out ?_
                  clear hK K
                  (try simp only [Act.put, List.setIfInBounds_toArray, List.set_cons_zero, List.set_cons_succ])
                  iterate 3
                    (refine wpOrd_step (o := ?_) ?_ ?_; rotate_left 1; (simp only [List.getElem?_toArray, List.getElem?_cons_succ, List.getElem?_cons_zero]; with_reducible rfl))
                    (first
                        | (refine wpOrd_skip (by rfl) ?_)
                        | (refine wpOrd_take (by rfl) (take_loadShape _ rfl _ rfl _ _ _ _ pR) ?_)
                        | (refine wpOrd_take (by rfl) (take_loadElem _ rfl _ rfl _ hx pX) ?_)
                        | (refine wpOrd_take (by rfl) (take_loadElem _ rfl _ rfl _ hy pY) ?_)
                        | (refine wpOrd_take (by rfl) (take_loadElem _ rfl _ rfl _ hz pZ) ?_)
                        | (refine wpOrd_take (by rfl) (take_loadElem _ rfl _ rfl _ hj pJ) ?_)
                        | (refine wpOrd_take (by rfl) (take_loadElem _ rfl _ rfl _ hm pM) ?_)
                        | (refine wpOrd_take (by rfl) (take_likeElem _ _ _ rfl _ _ rfl rfl hx hx rfl) ?_)
                        | (refine wpOrd_take (v := ?_) (by rfl) ?_ ?_; rotate_left 1; (intro wx hSx; go_simp; try with_reducible rfl)))
                    (try simp only [Act.put, List.setIfInBounds_toArray, List.set_cons_zero, List.set_cons_succ])
                  (refine wpOrd_solo (o := ?_) ?_ ?_; rotate_left 1; (simp only [List.getElem?_toArray, List.getElem?_cons_succ, List.getElem?_cons_zero]; with_reducible rfl))
                  intro K hK
                  go_simp
                  go_at_call 7
                  refine (HAL.out _ (PB.out _ HS.out)).mono ?_
                  rintro e w7 ⟨rfl, hb⟩
                  have hS := keepS _ _ HS.out hb
                  clear HS
                  have HS := Lib.hid hS; clear hS hb
                  refine hK.out _ _ HS.out ?_
                  clear hK K
                  (try simp only [Act.put, List.setIfInBounds_toArray, List.set_cons_zero, List.set_cons_succ])
                  iterate 2
                    (refine wpOrd_step (o := ?_) ?_ ?_; rotate_left 1; (simp only [List.getElem?_toArray, List.getElem?_cons_succ, List.getElem?_cons_zero]; with_reducible rfl))
                    (first
                        | (refine wpOrd_skip (by rfl) ?_)
                        | (refine wpOrd_take (by rfl) (take_loadShape _ rfl _ rfl _ _ _ _ pR) ?_)
                        | (refine wpOrd_take (by rfl) (take_loadElem _ rfl _ rfl _ hx pX) ?_)
                        | (refine wpOrd_take (by rfl) (take_loadElem _ rfl _ rfl _ hy pY) ?_)
                        | (refine wpOrd_take (by rfl) (take_loadElem _ rfl _ rfl _ hz pZ) ?_)
                        | (refine wpOrd_take (by rfl) (take_loadElem _ rfl _ rfl _ hj pJ) ?_)
                        | (refine wpOrd_take (by rfl) (take_loadElem _ rfl _ rfl _ hm pM) ?_)
                        | (refine wpOrd_take (v := ?_) (by rfl) ?_ ?_; rotate_left 1; (intro wx hSx; go_simp; try with_reducible rfl)))
                    (try simp only [Act.put, List.setIfInBounds_toArray, List.set_cons_zero, List.set_cons_succ])
                  refine wpOrd_done ?_
                  have HB9 := Lib.hid (PB.out _ HS.out)
                  clear pR pX pY pZ pJ pM PRh PXh PYh PZh PJh PMh PB HS keepS S
                  go_wp2_with fail
                  go_ret
                  exact ⟨rfl, HB9.out⟩
end Go.Proofs.YtpgkcddhpeoiiaaGreatDoor
