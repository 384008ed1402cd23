/- Texts that all the claims need. Conditions: those that each states. -/
import Derived.IntWalk
import Derived.RegionTactic
import Derived.Sort.Row
import Derived.Test.YtnfndapgcpdcpaaGreatDoorFa3
import Derived.Test.YtnfndapgcpdcpaaGreatDoorFa4
set_option linter.unusedSimpArgs false
set_option linter.unusedVariables false
set_option maxRecDepth 100000
set_option maxHeartbeats 40000000
namespace Go.Proofs.YtnfndapgcpdcpaaGreatDoor
section
open Go.RowKit RM
open Go.Sort hiding Below ahead
def eu (x : Nat) : Value := .int .u64 (x : Int)
def ltN (x y : Nat) : Bool := decide (x < y)
theorem isNaN_any (x : Nat) (w : World) : Calls Tryz.prog 213 #[.int .u64 (x : Int)] w fun e w' => e = .returned (.bool false) ∧ w = w' := by
 go_enter Tryz.func213, Tryz.ntmps213
 go_wp2
 go_ret
 exact ⟨ret_eq (bool_eq (by simp)), rfl⟩
theorem less_any (x y : Nat) (w : World) : Calls Tryz.prog 203 #[.int .u64 (x : Int), .int .u64 (y : Int)] w fun e w' => e = .returned (.bool (ltN x y)) ∧ w = w' := by
 go_enter Tryz.func203, Tryz.ntmps203
 go_wp2_with (go_at_call 213; refine (isNaN_any _ _).mono ?_; rintro e w' ⟨rfl, rfl⟩)
 go_ret
 exact ⟨ret_eq (bool_eq (by unfold ltN; simp)), rfl⟩
theorem holds_set {w : World} {blk off : Nat} {d : Array Nat} (h : Holds eu w blk off d) (i x : Nat) (hi : i < d.size) : Holds eu (w.setCell ⟨blk, off + i, none⟩ (.int .u64 (x : Int))) blk off (d.setIfInBounds i x) := by
 intro j hj
 have hj2 : j < d.size := by simpa using hj
 obtain ⟨h1, h2⟩ := h j hj2
 obtain ⟨h3, _⟩ := h i hi
 constructor
 ·by_cases e : j = i
  ·subst e
   rw [World.cell?_setCell_same' _ _ _ (by rw [h1]; rfl), getElem!_set_same d j x hi]; rfl
  ·rw [World.cell?_setCell_other (h := show (⟨blk, off + i, none⟩ : Addr) ≠ ⟨blk, off + j, none⟩ from fun h => e (by injection h with _ h _; omega)), getElem!_set_other d i j x e, h1]
 ·rw [World.frozen?_setCell]; exact h2
theorem holds_swp {w : World} {blk off : Nat} {d : Array Nat} (h : Holds eu w blk off d) (i j x y : Nat) (hi : i < d.size) (hj : j < d.size) (hx : x = d[j]!) (hy : y = d[i]!) :
 Holds eu ((w.setCell ⟨blk, off + i, none⟩ (.int .u64 (x : Int))).setCell ⟨blk, off + j, none⟩ (.int .u64 (y : Int))) blk off (swp d i j) := by
 subst hx; subst hy
 exact holds_set (holds_set h i _ hi) j _ (by simpa using hj)
theorem swp_size (d : Array Nat) (i j : Nat) : (swp d i j).size = d.size := by simp [swp]
theorem mut_set2 (w : World) (g a b : Nat) (u v : Value) : Mut g w ((w.setCell ⟨g, a, none⟩ u).setCell ⟨g, b, none⟩ v) := (Mut.of_set w g a u).trans (Mut.of_set _ g b v)
theorem ex_cells2 {wr w : World} {blk off : Nat} {d : Array Nat} {p q : Addr} {u v : Value} (h1 : wr.cell? p = some u) (h2 : wr.cell? q = some v) (hH : Hid (Holds eu wr blk off d)) (hM : Hid (Mut blk w wr)) :
 ∃ S : World → Prop, Hid (S wr.drew) ∧ (∀ w', S w' → w'.cell? p = some u) ∧ (∀ w', S w' → w'.cell? q = some v) ∧ Hid (∀ w', S w' → Holds eu w' blk off d ∧ Mut blk w w') :=
 ⟨fun w' => w'.cell? p = some u ∧ w'.cell? q = some v ∧ Holds eu w' blk off d ∧ Mut blk w w', ⟨h1, h2, hH.out, hM.out.drew⟩, fun _ h => h.1, fun _ h => h.2.1, fun _ h => h.2.2⟩
theorem insInner_yes {a j : Nat} {d : Array Nat} (h : a < j + 1) (h2 : ltN d[j + 1]! d[j]! = true) : insInner ltN a (j + 1) d = insInner ltN a j (swp d (j + 1) j) := by
 rw [insInner, if_pos (by simp [h2]; omega)]
theorem insInner_no {a j : Nat} {d : Array Nat} (h : ¬ a < j ∨ ltN d[j]! d[j - 1]! = false) : insInner ltN a j d = d := by
 cases j with
 | zero => rfl
 | succ j =>
   rw [insInner, if_neg]
   simp only [Bool.and_eq_true, decide_eq_true_eq, not_and]
   rcases h with h | h
   ·intro h2; omega
   ·intro _; simp at h; simp [h]
theorem insertion_any (blk off cap a b : Nat) (d : Array Nat) (w : World) (hH : Holds eu w blk off d) (hab : a ≤ b) (hb : b ≤ d.size) (hs : d.size ≤ 64) :
 Calls Tryz.prog 197 #[.slice (some ⟨blk, off, none⟩) d.size cap, .int .i64 (a : Int), .int .i64 (b : Int)] w fun e w' => e = .returned (.tuple #[]) ∧ Holds eu w' blk off (insertionSort ltN d a b) ∧ Mut blk w w' := by
 have HH := zh hH; clear hH
 generalize hn : d.size = n at *
 have HN := zh hn; clear hn
 go_enter Tryz.func197, Tryz.ntmps197
 go_wp2_with fail
 go_loopw [6, 7] (fun iv _ wr => ∃ (i : Nat) (dk : Array Nat), iv = .int .i64 i ∧ a + 1 ≤ i ∧ i ≤ max b (a + 1) ∧ Hid (dk.size = n) ∧ Hid (Holds eu wr blk off dk) ∧ Hid (Mut blk w wr) ∧ Hid (insOuter ltN a b i dk = insertionSort ltN d a b)) (fun iv _ _ => b - (intOf iv).toNat)
 case atStart => exact ⟨a + 1, d, by go_num, by omega, by omega, HN, HH, Mut.refl _ _, rfl⟩
 case round =>
  clear HH HN
  obtain ⟨i, dk, rfl, hi1, hi2, HN, HH, HM, HT⟩ := hrel
  by_cases hlt : i < b
  ·have HT2 : Hid (insOuter ltN a b (i + 1) (insInner ltN a i dk) = insertionSort ltN d a b) := by
        have := HT.out
        rw [insOuter, if_pos hlt] at this
        exact this
   clear HT
   go_wp2_with fail
   obtain ⟨wo, rfl⟩ : ∃ wo : World, wo = wr := ⟨_, rfl⟩
   go_loopw [7] (fun jv wr => ∃ (j : Nat) (dk : Array Nat), jv = .int .i64 j ∧ j ≤ i ∧ Hid (dk.size = n) ∧ Hid (Holds eu wr blk off dk) ∧ Hid (Mut blk w wr) ∧ Hid (insOuter ltN a b (i + 1) (insInner ltN a j dk) = insertionSort ltN d a b)) (fun jv _ => (intOf jv).toNat)
   case atStart => exact ⟨i, dk, rfl, by omega, HN, HH, HM, HT2⟩
   case round =>
        clear HH HN HM HT2
        obtain ⟨j, dk, rfl, hj, HN, HH, HM, HT⟩ := hrel
        by_cases hja : a < j
        ·obtain ⟨k, rfl⟩ : ∃ k, j = k + 1 := ⟨j - 1, by omega⟩
         obtain ⟨hc1, hf1⟩ := HH.out (k + 1) (by rw [HN.out]; omega)
         obtain ⟨hc2, hf2⟩ := HH.out k (by rw [HN.out]; omega)
         have hxe : ∃ x, x = dk[k + 1]! := ⟨_, rfl⟩
         have hye : ∃ y, y = dk[k]! := ⟨_, rfl⟩
         obtain ⟨x, hx⟩ := hxe
         obtain ⟨y, hy⟩ := hye
         rw [← hx] at hc1
         rw [← hy] at hc2
         have HX := zh hx; clear hx
         have HY := zh hy; clear hy
         change wr.cell? _ = some (.int .u64 (x : Int)) at hc1
         change wr.cell? _ = some (.int .u64 (y : Int)) at hc2
         have hgt : (a : Int) < (k : Int) + 1 := by omega
         have hr0 : (0 : Int) ≤ (k : Int) + 1 := by omega
         have hr1 : (k : Int) + 1 < (n : Int) := by omega
         have hr2 : (k : Int) < (n : Int) := by omega
         have w1 : IntKind.i64.wrap (k : Int) = (k : Int) := IntWalk.i64_in _ ⟨by omega, by omega⟩
         cases hl : ltN x y with
         | true =>
           have HL := zh hl; clear hl
           go_wp2_with fail
           obtain ⟨S, HS, c1, c2, PS⟩ := ex_cells2 hc1 hc2 HH HM
           refine wp_region_ord S [(0, true), (1, true), (2, true), (3, true), (4, true), (5, true), (6, true), (7, true), (8, true), (9, true), (10, true), (11, true), (12, true), (13, false), (14, true)] (by kernel_rfl) (by kernel_rfl) rfl (by kernel_rfl) HS.out ?_
           iterate 13
            (refine wpOrd_step (zO rfl) ?_)
            (first
                 | (refine wpOrd_skip (by rfl) ?_)
                 | (refine wpOrd_take (v := ?_) (by rfl) ?_ ?_; rotate_left 1; (intro wx hSx; have hc_0 := c1 wx hSx; have hc_1 := c2 wx hSx; go_simp; try with_reducible rfl)))
            (try simp only [Act.put, zA4, zA5, zA6])
           (refine wpOrd_solo (zO rfl) ?_)
           intro K hK
           go_simp
           go_at_call 203
           refine (less_any _ _ _).mono ?_
           rintro e w' ⟨rfl, rfl⟩
           refine hK.out _ _ HS.out ?_
           clear hK K
           (try simp only [Act.put, zA4, zA5, zA6])
           rw [HL.out]
           iterate 1
            (refine wpOrd_step (zO rfl) ?_)
            (first
                 | (refine wpOrd_skip (by rfl) ?_)
                 | (refine wpOrd_take (v := ?_) (by rfl) ?_ ?_; rotate_left 1; (intro wx hSx; go_simp; try with_reducible rfl)))
            (try simp only [Act.put, zA4, zA5, zA6])
           refine wpOrd_done ?_
           go_wp2_with fail
           go_region
           obtain ⟨hH2, hM2⟩ := PS.out _ HS.out
           have HH2 : Hid (Holds eu ((wr.setCell ⟨blk, off + (k + 1), none⟩ (.int .u64 (y : Int))).setCell ⟨blk, off + k, none⟩ (.int .u64 (x : Int))) blk off (swp dk (k + 1) k)) :=
            holds_swp HH.out (k + 1) k y x (by rw [HN.out]; omega) (by rw [HN.out]; omega) HY.out HX.out
           have HM2 : Hid (Mut blk w ((wr.setCell ⟨blk, off + (k + 1), none⟩ (.int .u64 (y : Int))).setCell ⟨blk, off + k, none⟩ (.int .u64 (x : Int)))) := HM.out.trans (mut_set2 _ _ _ _ _ _)
           have HT2 : Hid (insOuter ltN a b (i + 1) (insInner ltN a k (swp dk (k + 1) k)) = insertionSort ltN d a b) := by
            rw [← insInner_yes hja (by rw [← HX.out, ← HY.out]; exact HL.out)]; exact HT
           clear hH2 hM2 hc1 hc2 hf1 hf2 c1 c2 PS HS w1
           go_wp2_with fail
           go_roundw
           case rel => exact ⟨k, _, by go_num, by omega, by rw [swp_size]; exact HN, HH2, HM2.out.drew.drew, HT2⟩
           case measure => simp [intOf]
         | false =>
           have HL := zh hl; clear hl
           have HT2 : Hid (insOuter ltN a b (i + 1) dk = insertionSort ltN d a b) := by
            have := HT.out
            rw [insInner_no (.inr (by rw [Nat.add_sub_cancel, ← HX.out, ← HY.out]; exact HL.out))] at this
            exact this
           go_wp2_with fail
           obtain ⟨S, HS, c1, c2, PS⟩ := ex_cells2 hc1 hc2 HH HM
           refine wp_region_ord S [(0, true), (1, true), (2, true), (3, true), (4, true), (5, true), (6, true), (7, true), (8, true), (9, true), (10, true), (11, true), (12, true), (13, false), (14, true)] (by kernel_rfl) (by kernel_rfl) rfl (by kernel_rfl) HS.out ?_
           iterate 13
            (refine wpOrd_step (zO rfl) ?_)
            (first
                 | (refine wpOrd_skip (by rfl) ?_)
                 | (refine wpOrd_take (v := ?_) (by rfl) ?_ ?_; rotate_left 1; (intro wx hSx; have hc_0 := c1 wx hSx; have hc_1 := c2 wx hSx; go_simp; try with_reducible rfl)))
            (try simp only [Act.put, zA4, zA5, zA6])
           (refine wpOrd_solo (zO rfl) ?_)
           intro K hK
           go_simp
           go_at_call 203
           refine (less_any _ _ _).mono ?_
           rintro e w' ⟨rfl, rfl⟩
           refine hK.out _ _ HS.out ?_
           clear hK K
           (try simp only [Act.put, zA4, zA5, zA6])
           rw [HL.out]
           iterate 1
            (refine wpOrd_step (zO rfl) ?_)
            (first
                 | (refine wpOrd_skip (by rfl) ?_)
                 | (refine wpOrd_take (v := ?_) (by rfl) ?_ ?_; rotate_left 1; (intro wx hSx; go_simp; try with_reducible rfl)))
            (try simp only [Act.put, zA4, zA5, zA6])
           refine wpOrd_done ?_
           clear hc1 hc2 hf1 hf2 c1 c2 PS HS w1
           go_wp2_with fail
           go_roundw
           case rel => exact ⟨i + 1, dk, by go_num, by omega, by omega, HN, HH, HM.out.drew, HT2⟩
           case measure => simp [intOf]; omega
        ·have HT2 : Hid (insOuter ltN a b (i + 1) dk = insertionSort ltN d a b) := by
          have := HT.out
          rw [insInner_no (.inl hja)] at this
          exact this
         have hgt : decide ((j : Int) > (a : Int)) = false := zF (by omega)
         have hgt2 : decide ((a : Int) < (j : Int)) = false := zF (by omega)
         go_wp2_with fail
         obtain ⟨S, HS, PS⟩ : ∃ S : World → Prop, Hid (S wr.drew) ∧ Hid (∀ w', S w' → w' = wr.drew) := ⟨fun w' => w' = wr.drew, rfl, fun _ h => h⟩
         refine wp_region_ord S [(0, true), (1, true), (2, true), (3, true), (4, true), (5, true), (6, true), (7, true), (8, true), (9, true), (10, true), (11, true), (12, true), (13, false), (14, true)] (by kernel_rfl) (by kernel_rfl) rfl (by kernel_rfl) HS.out ?_
         iterate 13
          (refine wpOrd_step (zO rfl) ?_)
          (first
           | (refine wpOrd_skip (by rfl) ?_)
           | (refine wpOrd_take (v := ?_) (by rfl) ?_ ?_; rotate_left 1; (intro wx hSx; go_simp; try with_reducible rfl)))
          (try simp only [Act.put, zA4, zA5, zA6])
         (refine wpOrd_solo (zO rfl) ?_)
         intro K hK
         go_simp
         refine hK.out _ _ HS.out ?_
         clear hK K
         (try simp only [Act.put, zA4, zA5, zA6])
         iterate 1
          (refine wpOrd_step (zO rfl) ?_)
          (first
           | (refine wpOrd_skip (by rfl) ?_)
           | (refine wpOrd_take (v := ?_) (by rfl) ?_ ?_; rotate_left 1; (intro wx hSx; go_simp; try with_reducible rfl)))
          (try simp only [Act.put, zA4, zA5, zA6])
         refine wpOrd_done ?_
         clear PS HS hgt hgt2
         go_wp2_with fail
         go_roundw
         case rel => exact ⟨i + 1, dk, by go_num, by omega, by omega, HN, HH, HM.out.drew, HT2⟩
         case measure => simp [intOf]; omega
  ·have HT2 : Hid (dk = insertionSort ltN d a b) := by
        have := HT.out
        rw [insOuter, if_neg hlt] at this
        exact this
   go_wp2_with fail
   go_end0
   rw [← HT2.out]
   exact ⟨rfl, HH.out, HM.out⟩
end
section
open Go.RowKit RM
open Go.Sort hiding Below ahead
theorem swo_ltN : SWO ltN := ⟨fun x => by simp [ltN], fun x y z h1 h2 => by simp [ltN] at *; omega, fun x y z h1 h2 => by simp [ltN] at *; omega⟩
def SortTo (k : Nat) : Prop := ∀ (blk off cap : Nat) (d : Array Nat) (w : World), d.size ≤ k → Holds eu w blk off d →
 Calls Tryz.prog 191 #[.slice (some ⟨blk, off, none⟩) d.size cap] w fun e w' => e = .returned (.tuple #[]) ∧ ∃ d', PermIn 0 d.size d d' ∧ SortedIn ltN 0 d.size d' ∧ Holds eu w' blk off d' ∧ Mut blk w w'
def PdqTo (k : Nat) : Prop := ∀ (blk off cap l : Nat) (d : Array Nat) (w : World), d.size ≤ k → l ≤ 64 → Holds eu w blk off d →
 Calls Tryz.prog 195 #[.slice (some ⟨blk, off, none⟩) d.size cap, .int .i64 0, .int .i64 (d.size : Int), .int .i64 (l : Int)] w fun e w' => e = .returned (.tuple #[]) ∧ ∃ d', PermIn 0 d.size d d' ∧ SortedIn ltN 0 d.size d' ∧ Holds eu w' blk off d' ∧ Mut blk w w'
theorem sort_of_pdq (k : Nat) (hk : k ≤ 64) (hp : PdqTo k) : SortTo k := by
 intro blk off cap d w hd hH
 have hl := fun w => Tryz.bits_Len (d.size : Int) w (by omega) (by omega)
 have hlim : Lib.bitLen d.size ≤ 64 := Lib.bitLen_le d.size 64 (by omega) (by omega)
 have hc := hp blk off cap (Lib.bitLen d.size) d w hd hlim hH
 have wr : IntKind.u64.wrap (d.size : Int) = d.size := by rw [IntKind.wrap_u64]; omega
 rw [Int.toNat_natCast] at hl
 have HC := zh hc; clear hc hp
 have HL := zh hl; clear hl hlim
 generalize Lib.bitLen d.size = b at *
 have hn : d.size ≤ 64 := by omega
 clear hd hH
 generalize hdn : d.size = n at *
 clear hdn
 go_enter Tryz.func191, Tryz.ntmps191
 go_wp2_with fail
 refine (HL.out _).mono ?_
 rintro e w1 ⟨rfl, rfl⟩
 go_wp2_with fail
 refine HC.out.mono ?_
 rintro e w1 ⟨rfl, h⟩
 have H := zh h; clear h
 go_wp2_with fail
 go_end0
 exact ⟨rfl, H.out⟩
end
end Go.Proofs.YtnfndapgcpdcpaaGreatDoor
