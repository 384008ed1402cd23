/-
  What Long of layer 3's reference returns. Conditions: 64 words below 2^64.
-/
import Derived.Test.YtojbmahapomoeaaDoorLongMath
import Derived.Test.YtojbmahapomoeaaDoorSortC
namespace Go.Proofs.YtojbmahapomoeaaDoor
open Go.RowKit RM
open Go.Sort hiding Below ahead

def eI (x : Nat) : Value := .int .i64 (x : Int)
theorem hI_set {w : World} {blk off : Nat} {d : Array Nat} (h : Holds eI w blk off d) (i x : Nat) (hi : i < d.size) : Holds eI (w.setCell ⟨blk, off + i, none⟩ (.int .i64 (x : Int))) blk off (d.setIfInBounds i x) := by
  intro j hj
  have hj2 : j < d.size := by simpa using hj
  obtain ⟨h1, h2⟩ := h j hj2
  obtain ⟨h3, _⟩ := h i hi
  constructor
  · by_cases e : j = i
    · subst e
      rw [World.cell?_setCell_same' _ _ _ (by rw [h1]; rfl), getElem!_set_same d j x hi]; rfl
    · rw [World.cell?_setCell_other (h := show (⟨blk, off + i, none⟩ : Addr) ≠ ⟨blk, off + j, none⟩ from fun h => e (by injection h with _ h _; omega)), getElem!_set_other d i j x e, h1]
  · rw [World.frozen?_setCell]; exact h2
theorem hI_below {w w' : World} {blk off B : Nat} {d : Array Nat} (h : Holds eI w blk off d) (hb : Below B w w') (hB : blk < B) : Holds eI w' blk off d :=
  fun j hj => ⟨(hb.cell (p := ⟨blk, off + j, none⟩) hB).trans (h j hj).1, (hb.frozen (p := ⟨blk, off + j, none⟩) hB).trans (h j hj).2⟩
theorem far_eq (w : World) : w.alloc (.cells #[.int .i64 0, .int .i64 0, .int .i64 0, .int .i64 0, .int .i64 0, .int .i64 0, .int .i64 0, .int .i64 0, .int .i64 0, .int .i64 0, .int .i64 0, .int .i64 0, .int .i64 0, .int .i64 0, .int .i64 0, .int .i64 0, .int .i64 0, .int .i64 0, .int .i64 0, .int .i64 0, .int .i64 0, .int .i64 0, .int .i64 0, .int .i64 0, .int .i64 0, .int .i64 0, .int .i64 0, .int .i64 0, .int .i64 0, .int .i64 0, .int .i64 0, .int .i64 0, .int .i64 0, .int .i64 0, .int .i64 0, .int .i64 0, .int .i64 0, .int .i64 0, .int .i64 0, .int .i64 0, .int .i64 0, .int .i64 0, .int .i64 0, .int .i64 0, .int .i64 0, .int .i64 0, .int .i64 0, .int .i64 0, .int .i64 0, .int .i64 0, .int .i64 0, .int .i64 0, .int .i64 0, .int .i64 0, .int .i64 0, .int .i64 0, .int .i64 0, .int .i64 0, .int .i64 0, .int .i64 0, .int .i64 0, .int .i64 0, .int .i64 0, .int .i64 0] 48) = w.alloc (.cells (Array.replicate 64 (.int .i64 0)) 48) := rfl
theorem far_zero (w : World) : Holds eI (w.alloc (.cells (Array.replicate 64 (.int .i64 0)) 48)) w.heap.size 0 (Array.replicate 64 0) := by
  intro j hj
  have hj2 : j < 64 := by simpa using hj
  have hn := heap_alloc_new w (.cells (Array.replicate 64 (.int .i64 0)) 48)
  constructor
  · rw [Nat.zero_add, cell_of_row _ w.heap.size j _ _ (0, 0) hn, getElem!_pos _ j hj]
    simp [hj2, eI]
  · unfold World.frozen?
    rw [hn]
    simp
theorem far_at {w : World} {g : Nat} {d : Array Nat} (h : Holds eI w g 0 d) (i : Nat) (hi : i < d.size) : w.cell? ⟨g, i, none⟩ = some (.int .i64 ((d[i]! : Nat) : Int)) ∧ w.frozen? ⟨g, i, none⟩ = false := by
  have := h i hi
  rw [Nat.zero_add] at this
  exact this
/-- What stands while the points' heights are made better: round t, at the pair (i, j). -/
structure RX (n : Int) (l : List Nat) (t i j : Nat) (d : Array Nat) : Prop where
  size : d.size = 64
  up : ∀ x, x < pts n → d[x]! ≤ hgt n l x
  low : ∀ x, x < pts n → min (hgt n l x) t ≤ d[x]!
  prog : ∀ x y, stp n l x y = true → (x < i ∨ (x = i ∧ y < j)) → min (hgt n l x) t + 1 ≤ d[y]!
section
variable {n : Int} {l : List Nat} {t i j : Nat} {d : Array Nat}
theorem RX.begin : RX n l 0 0 0 (Array.replicate 64 0) := ⟨by simp, fun x hx => by have := pts_le n; rw [getElem!_pos _ x (by simp; omega)]; simp, fun x _ => by simp, fun x y _ h => by omega⟩
theorem RX.skip (h : RX n l t i j d) (hn : stp n l i j = true → d[i]! < d[j]!) : RX n l t i (j + 1) d :=
  ⟨h.size, h.up, h.low, fun x y hs hxy => by
    by_cases e : x = i ∧ y = j
    · obtain ⟨rfl, rfl⟩ := e
      have h1 := hn hs
      have h2 := h.low x (stp_lt hs).1
      omega
    · exact h.prog x y hs (by omega)⟩
theorem RX.better (h : RX n l t i j d) (ho : ordR n l = true) (hs : stp n l i j = true) (hle : d[j]! ≤ d[i]!) : RX n l t i (j + 1) (d.setIfInBounds j (d[i]! + 1)) := by
  have hp := pts_le n
  obtain ⟨hi, hj⟩ := stp_lt hs
  have hjs : j < d.size := by rw [h.size]; omega
  have hge : ∀ x, d[x]! ≤ (d.setIfInBounds j (d[i]! + 1))[x]! := fun x => by
    by_cases e : x = j
    · rw [e, getElem!_set_same _ _ _ hjs]; omega
    · rw [getElem!_set_other _ _ _ _ e]; exact Nat.le_refl _
  refine ⟨by simpa using h.size, fun x hx => ?_, fun x hx => Nat.le_trans (h.low x hx) (hge x), fun x y hs2 hxy => ?_⟩
  · by_cases e : x = j
    · rw [e, getElem!_set_same _ _ _ hjs]
      have h1 := h.up i hi
      have h2 := hgt_step ho hs
      omega
    · rw [getElem!_set_other _ _ _ _ e]; exact h.up x hx
  · by_cases e : x = i ∧ y = j
    · rw [e.1, e.2, getElem!_set_same _ _ _ hjs]
      have h2 := h.low i hi
      omega
    · exact Nat.le_trans (h.prog x y hs2 (by omega)) (hge y)
theorem RX.row (h : RX n l t i (pts n) d) : RX n l t (i + 1) 0 d :=
  ⟨h.size, h.up, h.low, fun x y hs hxy => h.prog x y hs (by have := (stp_lt hs).2; omega)⟩
theorem RX.round (h : RX n l t (pts n) 0 d) (ho : ordR n l = true) : RX n l (t + 1) 0 0 d :=
  ⟨h.size, h.up, fun y hy => by
    by_cases e : hgt n l y = 0
    · rw [e]; omega
    · obtain ⟨x, h1, h2⟩ := hgt_from ho (j := y) (m := hgt n l y - 1) (by omega)
      have h3 := h.prog x y h1 (.inl (stp_lt h1).1)
      omega, fun x y _ h => by omega⟩
theorem RX.end_ (h : RX n l (pts n) 0 0 d) (x : Nat) (hx : x < pts n) : d[x]! = hgt n l x := by
  have h1 := h.up x hx
  have h2 := h.low x hx
  have h3 := hgt_le (n := n) (l := l) x
  omega
end
set_option maxHeartbeats 4000000 in
theorem qlong_yes (n : Int) (l : List Nat) (hl : RW l) (ho : ordR n l = true) (w : World) :
    Calls Tryd.prog 8 #[.agg (rv n l)] w fun e w' => e = .returned (.tuple #[.int .i64 (top n l : Int), .bool true]) ∧ Below w.heap.size w w' := by
  have hor := qorder_any n l hl
  rw [ho] at hor
  have HOR := Lib.hid hor; clear hor
  go_enter Tryd.func8, Tryd.ntmps8
  go_wp2_with (refine wpList_loadRel rfl _ rfl w.heap.size rfl n l hl (RelAt.new _ _ _) ?_)
  refine (HOR.out _).mono ?_
  rintro e w1 ⟨rfl, hb1⟩
  have r1 := (RelAt.new w n l).below hb1 (by simp)
  have hb : Below w.heap.size w w1 := ((Below.refl _ _).alloc (Nat.le_refl _) _).trans (hb1.mono (by simp))
  have HB1 := Lib.hid hb; clear hb hb1
  go_wp2_with fail
  rw [far_eq]
  have r2 := r1.alloc (.cells (Array.replicate 64 (.int .i64 0)) 48)
  have HF := Lib.hid (far_zero w1)
  have hgs : w.heap.size < w1.heap.size := r1.lt
  have HB2 := Lib.hid (HB1.out.alloc (Nat.le_of_lt hgs) (.cells (Array.replicate 64 (.int .i64 0)) 48))
  have hgl : w1.heap.size < (w1.alloc (.cells (Array.replicate 64 (.int .i64 0)) 48)).heap.size := by simp
  have HRX : Hid (RX n l 0 0 0 (Array.replicate 64 0)) := RX.begin
  have HPT : Hid (∀ w, Calls Tryd.prog 13 #[.agg (rv n l)] w fun e w' => e = .returned (.int .i64 ((pts n : Nat) : Int)) ∧ Below w.heap.size w w') := fun w => qpoints_any n l w
  have HHAS : Hid (∀ a b : Nat, a < pts n → b < pts n → ∀ w, Calls Tryd.prog 22 #[.agg (rv n l), .int .i64 (a : Int), .int .i64 (b : Int)] w fun e w' => e = .returned (.bool (bt l a b)) ∧ Below w.heap.size w w') := fun a b h1 h2 w => qhas_in n l hl a b h1 h2 w
  have hp := pts_le n
  have HST : Hid (∀ i j, i < pts n → j < pts n → stp n l i j = (bt l i j && decide (i ≠ j))) := fun i j h1 h2 => by rw [stp_eq, decide_eq_true h1, decide_eq_true h2]; simp
  have HO := Lib.hid ho; clear ho
  clear r1 HB1 HOR
  generalize w1.heap.size = g at *
  generalize w1.alloc (.cells (Array.replicate 64 (.int .i64 0)) 48) = W0 at *
  generalize (Array.replicate 64 0 : Array Nat) = d0 at *
  go_loopw [6, 7, 8] (fun tv _ _ wr => ∃ (t : Nat) (d : Array Nat), t ≤ pts n ∧ tv = .int .i64 t ∧ Hid (RX n l t 0 0 d) ∧ RelAt wr w.heap.size n l ∧ Hid (Holds eI wr g 0 d) ∧ g < wr.heap.size ∧ Hid (Below w.heap.size w wr)) (fun tv _ _ _ => pts n - (intOf tv).toNat)
  case atStart => exact ⟨0, d0, by omega, rfl, HRX, r2, HF, hgl, HB2⟩
  case round =>
    clear HRX r2 HF hgl HB2
    obtain ⟨t, d, ht, rfl, HX, r1, HF, hgl, HB⟩ := hrel
    go_wp2_with (refine wpList_loadRel rfl _ rfl w.heap.size rfl n l hl r1 ?_)
    refine (HPT.out _).mono ?_
    rintro e w1 ⟨rfl, hb1⟩
    have s1 := r1.below hb1 r1.lt
    have HF1 := Lib.hid (hI_below HF.out hb1 hgl)
    have hgl1 : g < w1.heap.size := Nat.lt_of_lt_of_le hgl hb1.size
    have HB1 := Lib.hid (HB.out.trans (hb1.mono HB.out.size))
    clear r1 HF hgl hb1 HB
    by_cases htp : t < pts n
    · go_wp2_with fail
      obtain ⟨wo, rfl⟩ : ∃ wo : World, wo = w1 := ⟨_, rfl⟩
      go_loopw [7, 8] (fun iv _ wr => ∃ (i : Nat) (d : Array Nat), i ≤ pts n ∧ iv = .int .i64 i ∧ Hid (RX n l t i 0 d) ∧ RelAt wr w.heap.size n l ∧ Hid (Holds eI wr g 0 d) ∧ g < wr.heap.size ∧ Hid (Below w.heap.size w wr)) (fun iv _ _ => pts n - (intOf iv).toNat)
      case atStart => exact ⟨0, d, by omega, rfl, HX, s1, HF1, hgl1, HB1⟩
      case round =>
        clear HX s1 HF1 hgl1 HB1
        obtain ⟨i, d, hi, rfl, HX, r1, HF, hgl, HB⟩ := hrel
        go_wp2_with (refine wpList_loadRel rfl _ rfl w.heap.size rfl n l hl r1 ?_)
        refine (HPT.out _).mono ?_
        rintro e w1 ⟨rfl, hb1⟩
        have s1 := r1.below hb1 r1.lt
        have HF1 := Lib.hid (hI_below HF.out hb1 hgl)
        have hgl1 : g < w1.heap.size := Nat.lt_of_lt_of_le hgl hb1.size
        have HB1 := Lib.hid (HB.out.trans (hb1.mono HB.out.size))
        clear r1 HF hgl hb1 HB
        by_cases hlt : i < pts n
        · go_wp2_with fail
          obtain ⟨wo, rfl⟩ : ∃ wo : World, wo = w1 := ⟨_, rfl⟩
          go_loopw [8] (fun jv wr => ∃ (j : Nat) (d : Array Nat), j ≤ pts n ∧ jv = .int .i64 j ∧ Hid (RX n l t i j d) ∧ RelAt wr w.heap.size n l ∧ Hid (Holds eI wr g 0 d) ∧ g < wr.heap.size ∧ Hid (Below w.heap.size w wr)) (fun jv _ => pts n - (intOf jv).toNat)
          case atStart => exact ⟨0, d, by omega, rfl, HX, s1, HF1, hgl1, HB1⟩
          case round =>
            clear HX s1 HF1 hgl1 HB1
            obtain ⟨j, d, hj, rfl, HX, r1, HF, hgl, HB⟩ := hrel
            go_wp2_with (refine wpList_loadRel rfl _ rfl w.heap.size rfl n l hl r1 ?_)
            refine (HPT.out _).mono ?_
            rintro e w1 ⟨rfl, hb1⟩
            have s1 := r1.below hb1 r1.lt
            have HF1 := Lib.hid (hI_below HF.out hb1 hgl)
            have hgl1 : g < w1.heap.size := Nat.lt_of_lt_of_le hgl hb1.size
            have HB1 := Lib.hid (HB.out.trans (hb1.mono HB.out.size))
            clear r1 HF hgl hb1 HB
            by_cases hlt2 : j < pts n
            · have hds : d.size = 64 := HX.out.size
              obtain ⟨ci, fi⟩ := far_at HF1.out i (by omega)
              obtain ⟨cj, fj⟩ := far_at HF1.out j (by omega)
              obtain ⟨x, hx⟩ : ∃ x, x = d[i]! := ⟨_, rfl⟩
              obtain ⟨y, hy⟩ : ∃ y, y = d[j]! := ⟨_, rfl⟩
              rw [← hx] at ci
              rw [← hy] at cj
              have HXX := Lib.hid hx; clear hx
              have HYY := Lib.hid hy; clear hy
              have HDS := Lib.hid hds; clear hds
              have hx64 : x ≤ 64 := by
                have h1 := HX.out.up i hlt
                have h2 := hgt_le (n := n) (l := l) i
                rw [← HXX.out] at h1
                omega
              have hi64 : (i : Int) < 64 := by omega
              have hj64 : (j : Int) < 64 := by omega
              have w9 := wr_in ((x : Int) + 1) (by omega) (by omega)
              go_wp2_with fail
              obtain ⟨S, HS, pW, keepS⟩ := ex_gen w1
              have pa := fun w' h => s1.below (pW w' h) s1.lt
              have c1 := fun w' h => (((pW w' h).cell (p := ⟨g, i, none⟩) hgl1).trans ci)
              have c2 := fun w' h => (((pW w' h).cell (p := ⟨g, j, none⟩) hgl1).trans cj)
              have PW := Lib.hid pW; clear pW
              have hca : i = j ∨ (i ≠ j ∧ bt l i j = false) ∨ (i ≠ j ∧ bt l i j = true ∧ x < y) ∨ (i ≠ j ∧ bt l i j = true ∧ y ≤ x) := by
                by_cases h1 : i = j
                · exact .inl h1
                · cases h2 : bt l i j with
                  | false => exact .inr (.inl ⟨h1, rfl⟩)
                  | true =>
                    by_cases h3 : y ≤ x
                    · exact .inr (.inr (.inr ⟨h1, rfl, h3⟩))
                    · exact .inr (.inr (.inl ⟨h1, rfl, by omega⟩))
              rcases hca with h1 | ⟨h1, h2⟩ | ⟨h1, h2, h3⟩ | ⟨h1, h2, h3⟩
              · have hg : ((i : Int) != (j : Int)) = false := by simp [h1]
                have HX2 : Hid (RX n l t i (j + 1) d) := HX.out.skip (fun h => by rw [HST.out i j hlt hlt2, h1] at h; simp at h)
                clear h1
                refine wp_region_ord S [(0, true), (1, true), (2, true), (3, true), (4, true), (5, true), (6, true), (7, false), (8, true), (9, true), (10, true), (11, true), (12, true), (13, true), (14, true), (15, true), (16, true), (17, true)] (by kernel_rfl) (by kernel_rfl) rfl (by kernel_rfl) HS.out ?_
                iterate 7
                  (refine wpOrd_step (o := ?_) ?_ ?_; rotate_left 1; (simp only [List.getElem?_toArray, List.getElem?_cons_succ, List.getElem?_cons_zero]; with_reducible rfl))
                  (first
                      | (refine wpOrd_skip (by rfl) ?_)
                      | (refine wpOrd_take (by rfl) (take_loadRel _ rfl _ rfl _ _ hl pa) ?_)
                      | (refine wpOrd_take (v := ?_) (by rfl) ?_ ?_; rotate_left 1; (intro wx hSx; have hc_0 := c1 wx hSx; have hc_1 := c2 wx hSx; go_simp; try with_reducible rfl)))
                  (try simp only [Act.put, List.setIfInBounds_toArray, List.set_cons_zero, List.set_cons_succ])
                (refine wpOrd_solo (o := ?_) ?_ ?_; rotate_left 1; (simp only [List.getElem?_toArray, List.getElem?_cons_succ, List.getElem?_cons_zero]; with_reducible rfl))
                intro K hK
                go_simp
                refine hK.out _ _ HS.out ?_
                clear hK K
                (try simp only [Act.put, List.setIfInBounds_toArray, List.set_cons_zero, List.set_cons_succ])
                iterate 10
                  (refine wpOrd_step (o := ?_) ?_ ?_; rotate_left 1; (simp only [List.getElem?_toArray, List.getElem?_cons_succ, List.getElem?_cons_zero]; with_reducible rfl))
                  (first
                      | (refine wpOrd_skip (by rfl) ?_)
                      | (refine wpOrd_take (by rfl) (take_loadRel _ rfl _ rfl _ _ hl pa) ?_)
                      | (refine wpOrd_take (v := ?_) (by rfl) ?_ ?_; rotate_left 1; (intro wx hSx; have hc_0 := c1 wx hSx; have hc_1 := c2 wx hSx; go_simp; try with_reducible rfl)))
                  (try simp only [Act.put, List.setIfInBounds_toArray, List.set_cons_zero, List.set_cons_succ])
                refine wpOrd_done ?_
                have hb4 := PW.out _ HS.out
                have t1 := s1.below hb4 s1.lt
                have HF2 := Lib.hid (hI_below HF1.out hb4 hgl1)
                have HB2 := Lib.hid (HB1.out.trans (hb4.mono HB1.out.size))
                have hgl2 := Nat.lt_of_lt_of_le hgl1 hb4.size
                clear hb4 PW HS keepS c1 c2 pa S
                go_wp2_with fail
                go_roundw
                case rel => exact ⟨j + 1, d, by omega, by go_num, HX2, t1, HF2, hgl2, HB2⟩
                case measure => simp [intOf]; omega
              · have hg : ((i : Int) != (j : Int)) = true := by simp; omega
                have HX2 : Hid (RX n l t i (j + 1) d) := HX.out.skip (fun h => by rw [HST.out i j hlt hlt2, h2] at h; simp at h)
                have hhas := HHAS.out i j hlt hlt2
                rw [h2] at hhas
                have HHA := Lib.hid hhas; clear hhas h1 h2
                refine wp_region_ord S [(0, true), (1, true), (2, true), (3, true), (4, true), (5, true), (6, true), (7, false), (8, true), (9, true), (10, true), (11, true), (12, true), (13, true), (14, true), (15, true), (16, true), (17, true)] (by kernel_rfl) (by kernel_rfl) rfl (by kernel_rfl) HS.out ?_
                iterate 7
                  (refine wpOrd_step (o := ?_) ?_ ?_; rotate_left 1; (simp only [List.getElem?_toArray, List.getElem?_cons_succ, List.getElem?_cons_zero]; with_reducible rfl))
                  (first
                      | (refine wpOrd_skip (by rfl) ?_)
                      | (refine wpOrd_take (by rfl) (take_loadRel _ rfl _ rfl _ _ hl pa) ?_)
                      | (refine wpOrd_take (v := ?_) (by rfl) ?_ ?_; rotate_left 1; (intro wx hSx; have hc_0 := c1 wx hSx; have hc_1 := c2 wx hSx; go_simp; try with_reducible rfl)))
                  (try simp only [Act.put, List.setIfInBounds_toArray, List.set_cons_zero, List.set_cons_succ])
                (refine wpOrd_solo (o := ?_) ?_ ?_; rotate_left 1; (simp only [List.getElem?_toArray, List.getElem?_cons_succ, List.getElem?_cons_zero]; with_reducible rfl))
                intro K hK
                go_simp
                go_at_call 22
                refine (HHA.out _).mono ?_
                rintro e w4 ⟨rfl, hb⟩
                have hS := keepS _ _ HS.out hb
                clear HS
                have HS := Lib.hid hS; clear hS hb
                refine hK.out _ _ HS.out ?_
                clear hK K
                (try simp only [Act.put, List.setIfInBounds_toArray, List.set_cons_zero, List.set_cons_succ])
                iterate 10
                  (refine wpOrd_step (o := ?_) ?_ ?_; rotate_left 1; (simp only [List.getElem?_toArray, List.getElem?_cons_succ, List.getElem?_cons_zero]; with_reducible rfl))
                  (first
                      | (refine wpOrd_skip (by rfl) ?_)
                      | (refine wpOrd_take (by rfl) (take_loadRel _ rfl _ rfl _ _ hl pa) ?_)
                      | (refine wpOrd_take (v := ?_) (by rfl) ?_ ?_; rotate_left 1; (intro wx hSx; have hc_0 := c1 wx hSx; have hc_1 := c2 wx hSx; go_simp; try with_reducible rfl)))
                  (try simp only [Act.put, List.setIfInBounds_toArray, List.set_cons_zero, List.set_cons_succ])
                refine wpOrd_done ?_
                have hb4 := PW.out _ HS.out
                have t1 := s1.below hb4 s1.lt
                have HF2 := Lib.hid (hI_below HF1.out hb4 hgl1)
                have HB2 := Lib.hid (HB1.out.trans (hb4.mono HB1.out.size))
                have hgl2 := Nat.lt_of_lt_of_le hgl1 hb4.size
                clear hb4 PW HS keepS c1 c2 pa S
                go_wp2_with fail
                go_roundw
                case rel => exact ⟨j + 1, d, by omega, by go_num, HX2, t1, HF2, hgl2, HB2⟩
                case measure => simp [intOf]; omega
              · have hg : ((i : Int) != (j : Int)) = true := by simp; omega
                have HX2 : Hid (RX n l t i (j + 1) d) := HX.out.skip (fun _ => by rw [← HXX.out, ← HYY.out]; exact h3)
                have hhas := HHAS.out i j hlt hlt2
                rw [h2] at hhas
                have HHA := Lib.hid hhas; clear hhas h1 h2
                have hg3 : ¬ (y : Int) ≤ (x : Int) := by omega
                refine wp_region_ord S [(0, true), (1, true), (2, true), (3, true), (4, true), (5, true), (6, true), (7, false), (8, true), (9, true), (10, true), (11, true), (12, true), (13, true), (14, true), (15, true), (16, true), (17, true)] (by kernel_rfl) (by kernel_rfl) rfl (by kernel_rfl) HS.out ?_
                iterate 7
                  (refine wpOrd_step (o := ?_) ?_ ?_; rotate_left 1; (simp only [List.getElem?_toArray, List.getElem?_cons_succ, List.getElem?_cons_zero]; with_reducible rfl))
                  (first
                      | (refine wpOrd_skip (by rfl) ?_)
                      | (refine wpOrd_take (by rfl) (take_loadRel _ rfl _ rfl _ _ hl pa) ?_)
                      | (refine wpOrd_take (v := ?_) (by rfl) ?_ ?_; rotate_left 1; (intro wx hSx; have hc_0 := c1 wx hSx; have hc_1 := c2 wx hSx; go_simp; try with_reducible rfl)))
                  (try simp only [Act.put, List.setIfInBounds_toArray, List.set_cons_zero, List.set_cons_succ])
                (refine wpOrd_solo (o := ?_) ?_ ?_; rotate_left 1; (simp only [List.getElem?_toArray, List.getElem?_cons_succ, List.getElem?_cons_zero]; with_reducible rfl))
                intro K hK
                go_simp
                go_at_call 22
                refine (HHA.out _).mono ?_
                rintro e w4 ⟨rfl, hb⟩
                have hS := keepS _ _ HS.out hb
                clear HS
                have HS := Lib.hid hS; clear hS hb
                refine hK.out _ _ HS.out ?_
                clear hK K
                (try simp only [Act.put, List.setIfInBounds_toArray, List.set_cons_zero, List.set_cons_succ])
                iterate 10
                  (refine wpOrd_step (o := ?_) ?_ ?_; rotate_left 1; (simp only [List.getElem?_toArray, List.getElem?_cons_succ, List.getElem?_cons_zero]; with_reducible rfl))
                  (first
                      | (refine wpOrd_skip (by rfl) ?_)
                      | (refine wpOrd_take (by rfl) (take_loadRel _ rfl _ rfl _ _ hl pa) ?_)
                      | (refine wpOrd_take (v := ?_) (by rfl) ?_ ?_; rotate_left 1; (intro wx hSx; have hc_0 := c1 wx hSx; have hc_1 := c2 wx hSx; go_simp; try with_reducible rfl)))
                  (try simp only [Act.put, List.setIfInBounds_toArray, List.set_cons_zero, List.set_cons_succ])
                refine wpOrd_done ?_
                have hb4 := PW.out _ HS.out
                have t1 := s1.below hb4 s1.lt
                have HF2 := Lib.hid (hI_below HF1.out hb4 hgl1)
                have HB2 := Lib.hid (HB1.out.trans (hb4.mono HB1.out.size))
                have hgl2 := Nat.lt_of_lt_of_le hgl1 hb4.size
                clear hb4 PW HS keepS c1 c2 pa S
                go_wp2_with fail
                go_roundw
                case rel => exact ⟨j + 1, d, by omega, by go_num, HX2, t1, HF2, hgl2, HB2⟩
                case measure => simp [intOf]; omega
              · have hg : ((i : Int) != (j : Int)) = true := by simp; omega
                have HX2 : Hid (RX n l t i (j + 1) (d.setIfInBounds j (x + 1))) := by
                  rw [HXX.out]
                  exact HX.out.better HO.out (by rw [HST.out i j hlt hlt2, h2]; simp [h1]) (by rw [← HXX.out, ← HYY.out]; exact h3)
                have hhas := HHAS.out i j hlt hlt2
                rw [h2] at hhas
                have HHA := Lib.hid hhas; clear hhas h1 h2
                have hg3 : (y : Int) ≤ (x : Int) := by omega
                refine wp_region_ord S [(0, true), (1, true), (2, true), (3, true), (4, true), (5, true), (6, true), (7, false), (8, true), (9, true), (10, true), (11, true), (12, true), (13, true), (14, true), (15, true), (16, true), (17, true)] (by kernel_rfl) (by kernel_rfl) rfl (by kernel_rfl) HS.out ?_
                iterate 7
                  (refine wpOrd_step (o := ?_) ?_ ?_; rotate_left 1; (simp only [List.getElem?_toArray, List.getElem?_cons_succ, List.getElem?_cons_zero]; with_reducible rfl))
                  (first
                      | (refine wpOrd_skip (by rfl) ?_)
                      | (refine wpOrd_take (by rfl) (take_loadRel _ rfl _ rfl _ _ hl pa) ?_)
                      | (refine wpOrd_take (v := ?_) (by rfl) ?_ ?_; rotate_left 1; (intro wx hSx; have hc_0 := c1 wx hSx; have hc_1 := c2 wx hSx; go_simp; try with_reducible rfl)))
                  (try simp only [Act.put, List.setIfInBounds_toArray, List.set_cons_zero, List.set_cons_succ])
                (refine wpOrd_solo (o := ?_) ?_ ?_; rotate_left 1; (simp only [List.getElem?_toArray, List.getElem?_cons_succ, List.getElem?_cons_zero]; with_reducible rfl))
                intro K hK
                go_simp
                go_at_call 22
                refine (HHA.out _).mono ?_
                rintro e w4 ⟨rfl, hb⟩
                have hS := keepS _ _ HS.out hb
                clear HS
                have HS := Lib.hid hS; clear hS hb
                refine hK.out _ _ HS.out ?_
                clear hK K
                (try simp only [Act.put, List.setIfInBounds_toArray, List.set_cons_zero, List.set_cons_succ])
                iterate 10
                  (refine wpOrd_step (o := ?_) ?_ ?_; rotate_left 1; (simp only [List.getElem?_toArray, List.getElem?_cons_succ, List.getElem?_cons_zero]; with_reducible rfl))
                  (first
                      | (refine wpOrd_skip (by rfl) ?_)
                      | (refine wpOrd_take (by rfl) (take_loadRel _ rfl _ rfl _ _ hl pa) ?_)
                      | (refine wpOrd_take (v := ?_) (by rfl) ?_ ?_; rotate_left 1; (intro wx hSx; have hc_0 := c1 wx hSx; have hc_1 := c2 wx hSx; go_simp; try with_reducible rfl)))
                  (try simp only [Act.put, List.setIfInBounds_toArray, List.set_cons_zero, List.set_cons_succ])
                refine wpOrd_done ?_
                have hb4 := PW.out _ HS.out
                have t1 := s1.below hb4 s1.lt
                have HF2 := Lib.hid (hI_below HF1.out hb4 hgl1)
                have HB2 := Lib.hid (HB1.out.trans (hb4.mono HB1.out.size))
                have hgl2 := Nat.lt_of_lt_of_le hgl1 hb4.size
                have ck1 := c1 _ HS.out
                have ck2 := c2 _ HS.out
                have fk2 := (hb4.frozen (p := ⟨g, j, none⟩) hgl1).trans fj
                clear hb4 PW HS keepS c1 c2 pa S
                go_wp2_with fail
                go_roundw
                case rel =>
                  refine ⟨j + 1, _, by omega, by go_num, HX2, t1.far (p := ⟨g, j, none⟩) (by show g ≠ _; omega) _, ?_, by simpa using hgl2, ?_⟩
                  · have h := hI_set HF2.out j (x + 1) (by rw [HDS.out]; omega)
                    rw [Nat.zero_add] at h
                    exact h
                  · exact HB2.out.setCell (p := ⟨g, j, none⟩) (by show w.heap.size ≤ g; omega) _
                case measure => simp [intOf]; omega
            · have hjp : j = pts n := by omega
              have HX2 : Hid (RX n l t (i + 1) 0 d) := by have h := HX.out; rw [hjp] at h; exact h.row
              have hgj : ¬ (j : Int) < ((pts n : Nat) : Int) := by omega
              clear hjp
              go_wp2_with fail
              go_roundw
              case rel => exact ⟨i + 1, d, by omega, by go_num, HX2, s1, HF1, hgl1, HB1⟩
              case measure => simp [intOf]; omega
        · have hip : i = pts n := by omega
          have HX2 : Hid (RX n l (t + 1) 0 0 d) := by have h := HX.out; rw [hip] at h; exact h.round HO.out
          have hgi : ¬ (i : Int) < ((pts n : Nat) : Int) := by omega
          clear hip
          go_wp2_with fail
          go_roundw
          case rel => exact ⟨t + 1, d, by omega, by go_num, HX2, s1, HF1, hgl1, HB1⟩
          case measure => simp [intOf]; omega
    · have htp2 : t = pts n := by omega
      have HE : Hid (∀ x, x < pts n → d[x]! = hgt n l x) := by
        have h := HX.out
        rw [htp2] at h
        exact fun x hx => h.end_ x hx
      have HDS : Hid (d.size = 64) := HX.out.size
      have hgt0 : ¬ (t : Int) < ((pts n : Nat) : Int) := by omega
      clear htp2 HX
      have HTOP : Hid (∀ b, (∀ x, x < pts n → hgt n l x ≤ b) → (b = 0 ∨ ∃ x, x < pts n ∧ hgt n l x = b) → b = top n l) := fun b h1 h2 => by
        have h3 : b ≤ top n l := by
          rcases h2 with h2 | ⟨x, _, h2⟩
          · omega
          · rw [← h2]; exact top_ge HO.out x
        have h4 : top n l ≤ b := by
          cases ht : top n l with
          | zero => omega
          | succ k =>
            obtain ⟨x, hx, h5⟩ := top_at HO.out ht
            rw [← h5]; exact h1 x hx
        omega
      have HL64 : Hid (∀ x, hgt n l x ≤ 64) := fun x => by have := hgt_le (n := n) (l := l) x; omega
      go_wp2_with fail
      go_loopw [5, 9] (fun bv iv wr => ∃ (i b : Nat), i ≤ pts n ∧ iv = .int .i64 i ∧ bv = .int .i64 b ∧ Hid (∀ x, x < i → hgt n l x ≤ b) ∧ Hid (b = 0 ∨ ∃ x, x < pts n ∧ hgt n l x = b) ∧ RelAt wr w.heap.size n l ∧ Hid (Holds eI wr g 0 d) ∧ g < wr.heap.size ∧ Hid (Below w.heap.size w wr)) (fun _ iv _ => pts n - (intOf iv).toNat)
      case atStart => exact ⟨0, 0, by omega, rfl, rfl, fun x hx => by omega, .inl rfl, s1, HF1, hgl1, HB1⟩
      case round =>
        clear s1 HF1 hgl1 HB1
        obtain ⟨i, b, hi, rfl, rfl, HU, HV, r1, HF, hgl, HB⟩ := hrel
        go_wp2_with (refine wpList_loadRel rfl _ rfl w.heap.size rfl n l hl r1 ?_)
        refine (HPT.out _).mono ?_
        rintro e w1 ⟨rfl, hb1⟩
        have s1 := r1.below hb1 r1.lt
        have HF1 := Lib.hid (hI_below HF.out hb1 hgl)
        have hgl1 : g < w1.heap.size := Nat.lt_of_lt_of_le hgl hb1.size
        have HB1 := Lib.hid (HB.out.trans (hb1.mono HB.out.size))
        clear r1 HF hgl hb1 HB
        by_cases hlt : i < pts n
        · have hds := HDS.out
          obtain ⟨ci, fi⟩ := far_at HF1.out i (by omega)
          rw [HE.out i hlt] at ci
          have HHX : Hid (∃ x, x = hgt n l i) := ⟨_, rfl⟩
          obtain ⟨x, hx⟩ := HHX.out
          rw [← hx] at ci
          have HX := Lib.hid hx; clear hx HHX hds
          have hi64 : (i : Int) < 64 := by omega
          by_cases hbx : b < x
          · have hg : (b : Int) < (x : Int) := by omega
            have HU2 : Hid (∀ y, y < i + 1 → hgt n l y ≤ x) := fun y hy => by
              by_cases e : y = i
              · rw [e, ← HX.out]; exact Nat.le_refl _
              · have := HU.out y (by omega); omega
            have HV2 : Hid (x = 0 ∨ ∃ y, y < pts n ∧ hgt n l y = x) := .inr ⟨i, hlt, HX.out.symm⟩
            clear hbx
            go_wp2_with fail
            go_roundw
            case rel => exact ⟨i + 1, x, by omega, by go_num, rfl, HU2, HV2, s1, HF1, hgl1, HB1⟩
            case measure => simp [intOf]; omega
          · have hg : ¬ (b : Int) < (x : Int) := by omega
            have HU2 : Hid (∀ y, y < i + 1 → hgt n l y ≤ b) := fun y hy => by
              by_cases e : y = i
              · rw [e, ← HX.out]; omega
              · exact HU.out y (by omega)
            clear hbx
            go_wp2_with fail
            go_roundw
            case rel => exact ⟨i + 1, b, by omega, by go_num, rfl, HU2, HV, s1, HF1, hgl1, HB1⟩
            case measure => simp [intOf]; omega
        · have hip : i = pts n := by omega
          have hbt : b = top n l := HTOP.out b (by rw [← hip]; exact HU.out) HV.out
          have HBT := Lib.hid hbt; clear hbt
          have hgi : ¬ (i : Int) < ((pts n : Nat) : Int) := by omega
          clear hip
          go_wp2_with fail
          go_ret2
          rw [← HBT.out]
          exact ⟨rfl, HB1.out⟩
theorem qlong_no (n : Int) (l : List Nat) (hl : RW l) (ho : ordR n l = false) (w : World) :
    Calls Tryd.prog 8 #[.agg (rv n l)] w fun e w' => e = .returned (.tuple #[.int .i64 0, .bool false]) ∧ Below w.heap.size w w' := by
  have hor := qorder_any n l hl
  rw [ho] at hor
  have HOR := Lib.hid hor; clear hor
  go_enter Tryd.func8, Tryd.ntmps8
  go_wp2_with (refine wpList_loadRel rfl _ rfl w.heap.size rfl n l hl (RelAt.new _ _ _) ?_)
  refine (HOR.out _).mono ?_
  rintro e w1 ⟨rfl, hb1⟩
  have hb : Below w.heap.size w w1 := ((Below.refl _ _).alloc (Nat.le_refl _) _).trans (hb1.mono (by simp))
  have HB := Lib.hid hb; clear hb hb1
  go_wp2_with fail
  go_ret2
  exact ⟨rfl, HB.out⟩
end Go.Proofs.YtojbmahapomoeaaDoor
