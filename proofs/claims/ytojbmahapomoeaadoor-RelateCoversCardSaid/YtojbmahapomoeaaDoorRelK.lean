/-
  What Long of package relate returns. Conditions: 64 words below 2^64; the sort sorts rows of that length; the table of math/bits in memory; the ends of ever longer ways run out.
-/
import Derived.Test.YtojbmahapomoeaaDoorRelJ
namespace Go.Proofs.YtojbmahapomoeaaDoor
open Go.RowKit RM

/-- Where ways of k + 1 steps end. -/
def ends (L : List Nat) (s : Nat) : Nat → Nat
  | 0 => abv L s
  | k + 1 => abv L (ends L s k)
theorem ends_lt {L : List Nat} (h : RW L) (s : Nat) : ∀ k, ends L s k < 18446744073709551616
  | 0 => abv_lt h _
  | _ + 1 => abv_lt h _
theorem ex_rows (B gr g : Nat) (L : List Nat) (n : Int) (l : List Nat) (w0 w : World) (h1 : RowsAt w gr L) (h2 : RelAt w g n l) (hb : Below B w0 w) :
    ∃ S : World → Prop, Hid (S w.drew) ∧ (∀ w', S w' → RowsAt w' gr L) ∧ (∀ w', S w' → RelAt w' g n l) ∧ Hid (∀ w', S w' → Below B w0 w') ∧ Hid (B ≤ w.heap.size → ∀ wa wb, S wa → Below wa.heap.size wa wb → S wb) :=
  ⟨fun w' => RowsAt w' gr L ∧ RelAt w' g n l ∧ Below B w0 w' ∧ w.heap.size ≤ w'.heap.size, ⟨h1, h2, hb.drew, Nat.le_refl _⟩, fun _ h => h.1, fun _ h => h.2.1, fun _ h => h.2.2.1,
    fun hB _ _ h hb => ⟨h.1.below hb h.1.lt, h.2.1.below hb h.2.1.lt, h.2.2.1.trans (hb.mono (Nat.le_trans hB h.2.2.2)), Nat.le_trans h.2.2.2 hb.size⟩⟩
set_option maxHeartbeats 400000 in
theorem rlong_no (k : Nat) (hS : SortTo k) (n : Int) (l : List Nat) (hl : RW l) (hk : pts n ≤ k) (ho : ordR n l = false) (w : World) :
    Calls Tryd.prog 7 #[.agg (rv n l)] w fun e w' => e = .returned (.tuple #[.int .i64 0, .bool false]) ∧ Below w.heap.size w w' := by
  have hor := rorder_any k hS n l hl hk
  rw [ho] at hor
  have HOR := Lib.hid hor; clear hor
  go_enter Tryd.func7, Tryd.ntmps7
  go_wp2_with (refine wpList_loadRel rfl _ rfl w.heap.size rfl n l hl (RelAt.new _ _ _) ?_)
  refine (HOR.out _).mono ?_
  rintro e w1 ⟨rfl, hb1⟩
  have hb : Below w.heap.size w w1 := ((Below.refl _ _).alloc (Nat.le_refl _) _).trans (hb1.mono (by simp))
  have HB := Lib.hid hb; clear hb hb1
  go_wp2_with fail
  go_ret2
  exact ⟨rfl, HB.out⟩
set_option maxHeartbeats 1000000 in
theorem rlong_yes (k : Nat) (hS : SortTo k) (n : Int) (l : List Nat) (hl : RW l) (hk : pts n ≤ k) (ho : ordR n l = true) (K : Nat) (hKb : K ≤ 4294967296) (hK0 : ends (strL (cl n l)) (MM.belowN n) K = 0)
    (hK : ∀ j, j < K → ends (strL (cl n l)) (MM.belowN n) j ≠ 0) (w : World) (hT : Tab w) :
    Calls Tryd.prog 7 #[.agg (rv n l)] w fun e w' => e = .returned (.tuple #[.int .i64 (K : Int), .bool true]) ∧ Below w.heap.size w w' := by
  have hL : RW (strL (cl n l)) := RW.strL (RW.mk _ _)
  have hor := rorder_any k hS n l hl hk
  rw [ho] at hor
  have HOR := Lib.hid hor; clear hor
  have hst := rstrict_any n l hl
  have HST := Lib.hid hst; clear hst
  have HT := Lib.hid hT; clear hT
  generalize strL (cl n l) = L at *
  have HE0 : Hid (abv L (MM.belowN n) = ends L (MM.belowN n) 0) := rfl
  have HES : Hid (∀ j, abv L (ends L (MM.belowN n) j) = ends L (MM.belowN n) (j + 1)) := fun _ => rfl
  have hel := fun j => ends_lt hL (MM.belowN n) j
  have HEL := Lib.hid hel; clear hel
  have hbel := fun w => below_any n w
  have HBEL := Lib.hid hbel; clear hbel
  have HK0 := Lib.hid hK0; clear hK0
  have HK := Lib.hid hK; clear hK
  have hslt := belowN_lt n
  generalize MM.belowN n = s at *
  go_enter Tryd.func7, Tryd.ntmps7
  go_wp2_with (refine wpList_loadRel rfl _ rfl w.heap.size rfl n l hl (RelAt.new _ _ _) ?_)
  refine (HOR.out _).mono ?_
  rintro e w1 ⟨rfl, hb1⟩
  have r1 := (RelAt.new w n l).below hb1 (by simp)
  have hb : Below w.heap.size w w1 := ((Below.refl _ _).alloc (Nat.le_refl _) _).trans (hb1.mono (by simp))
  have HB1 := Lib.hid hb; clear hb hb1
  go_wp2_with (refine wpList_loadRel rfl _ rfl w.heap.size rfl n l hl r1 ?_)
  refine (HST.out _).mono ?_
  rintro e w2 ⟨rfl, hb2⟩
  have r2 := r1.below hb2 r1.lt
  have hs2 : w.heap.size < w2.heap.size := r2.lt
  have HB2 := Lib.hid (HB1.out.trans (hb2.mono HB1.out.size)); clear hb2 HB1 r1
  go_wp2_with (refine wpList_storeRows rfl _ _ rfl w2.heap.size rfl L rfl zs RW.zs hL ?c2 ?_; (case c2 => exact heap_alloc_new w2 _); intro w3 hr3 he; have r3 : RelAt w3 w.heap.size n l := (r2.alloc _).other he (Nat.ne_of_lt hs2); have hb3 := ((HB2.out.alloc (Nat.le_of_lt hs2) (.cells (uv zs) 23)).trans (he.below (Nat.le_of_lt hs2))); clear he)
  obtain ⟨S, HS, p1, p2, PB, keep⟩ := ex_rows _ _ _ _ _ _ _ _ hr3 r3 hb3
  have keepS := keep.out (by have := r3.lt; omega)
  clear keep hr3 r3 hb3 r2
  have c0 := fun w' h => (p2 w' h).cell0
  generalize w2.heap.size = gr at *
  refine wp_region_ord S [(0, true), (1, true), (2, true), (3, false), (4, false), (5, true)] (by kernel_rfl) (by kernel_rfl) rfl (by kernel_rfl) HS.out ?_
  iterate 3
    (refine wpOrd_step (o := ?_) ?_ ?_; rotate_left 1; (simp only [List.getElem?_toArray, List.getElem?_cons_succ, List.getElem?_cons_zero]; with_reducible rfl))
    (first
        | (refine wpOrd_skip (by rfl) ?_)
        | (refine wpOrd_take (by rfl) (take_loadRows _ rfl _ rfl L hL p1) ?_)
        | (refine wpOrd_take (v := ?_) (by rfl) ?_ ?_; rotate_left 1; (intro wx hSx; have hc_0 := c0 wx hSx; go_simp; try with_reducible rfl)))
    (try simp only [Act.put, List.setIfInBounds_toArray, List.set_cons_zero, List.set_cons_succ])
  (refine wpOrd_solo (o := ?_) ?_ ?_; rotate_left 1; (simp only [List.getElem?_toArray, List.getElem?_cons_succ, List.getElem?_cons_zero]; with_reducible rfl))
  intro K hK
  go_simp
  go_at_call 24
  refine (HBEL.out _).mono ?_
  rintro e w' ⟨rfl, rfl⟩
  refine hK.out _ _ HS.out ?_
  clear hK K
  (try simp only [Act.put, List.setIfInBounds_toArray, List.set_cons_zero, List.set_cons_succ])
  (refine wpOrd_solo (o := ?_) ?_ ?_; rotate_left 1; (simp only [List.getElem?_toArray, List.getElem?_cons_succ, List.getElem?_cons_zero]; with_reducible rfl))
  intro K hK
  go_simp
  go_at_call 19
  refine (rabove_any L hL s hslt _ (HT.out.below (PB.out _ HS.out))).mono ?_
  rintro e w5 ⟨rfl, hb⟩
  have hS := keepS _ _ HS.out hb
  clear HS
  have HS := Lib.hid hS; clear hS hb
  refine hK.out _ _ HS.out ?_
  clear hK K
  (try simp only [Act.put, List.setIfInBounds_toArray, List.set_cons_zero, List.set_cons_succ])
  iterate 1
    (refine wpOrd_step (o := ?_) ?_ ?_; rotate_left 1; (simp only [List.getElem?_toArray, List.getElem?_cons_succ, List.getElem?_cons_zero]; with_reducible rfl))
    (first
        | (refine wpOrd_skip (by rfl) ?_)
        | (refine wpOrd_take (v := ?_) (by rfl) ?_ ?_; rotate_left 1; (intro wx hSx; go_simp; try with_reducible rfl)))
    (try simp only [Act.put, List.setIfInBounds_toArray, List.set_cons_zero, List.set_cons_succ])
  refine wpOrd_done ?_
  rw [HE0.out]
  have rr := p1 _ HS.out
  have HB5 := Lib.hid (PB.out _ HS.out)
  clear p1 p2 c0 keepS PB HS
  go_wp2_with fail
  go_loopw [5, 6] (fun sv ev wr => ∃ j : Nat, j ≤ K ∧ sv = .int .i64 j ∧ ev = .int .u64 ((ends L s j : Nat) : Int) ∧ RowsAt wr gr L ∧ Hid (Below w.heap.size w wr)) (fun sv _ _ => K - (intOf sv).toNat)
  case atStart => exact ⟨0, by omega, rfl, rfl, rr, HB5⟩
  case round =>
    clear rr HB5
    obtain ⟨j, hj, rfl, rfl, rr, HB⟩ := hrel
    by_cases hlt : j < K
    · have hne := HK.out j hlt
      have hq := HEL.out j
      have HQ := Lib.hid (HES.out j)
      generalize ends L s j = q at *
      have hb : ((q : Int) != 0) = true := by rw [bne_iff_ne]; omega
      go_wp2_with (refine wpList_loadRows rfl _ rfl gr rfl L hL rr ?_)
      refine (rabove_any L hL q hq _ (HT.out.below HB.out)).mono ?_
      rintro e w6 ⟨rfl, hb6⟩
      have r6 := rr.below hb6 rr.lt
      have HB6 := Lib.hid (HB.out.trans (hb6.mono HB.out.size)); clear hb6 rr HB
      rw [HQ.out]
      go_wp2_with fail
      go_roundw
      case rel => exact ⟨j + 1, by omega, by go_num, rfl, r6, HB6⟩
      case measure => simp [intOf]; omega
    · have e : j = K := by omega
      subst e
      have hq := HK0.out
      have hb : (((ends L s j : Nat) : Int) != 0) = false := by rw [hq]; rfl
      have HQ := Lib.hid hq; clear hq
      go_wp2_with fail
      go_ret2
      exact ⟨rfl, HB.out⟩
end Go.Proofs.YtojbmahapomoeaaDoor
