/-
  What Fits, Bottom, Top, Height and Join of package shape return. Conditions: a slice of factors in memory, eight words below 2^64; the table of math/bits in memory.
-/
import Derived.Test.YtpgkcddhpeoiiaaDoorShapeB
namespace Go.Proofs.YtpgkcddhpeoiiaaDoor
open Go.RowKit RM

/-! Fits. -/
/-- The element whose first words are zeros. -/
def eZ (e : List Nat) : Nat → List Nat
  | 0 => e
  | k + 1 => (eZ e k).set k 0
theorem eZ_ew {e : List Nat} (h : EW e) : ∀ k, EW (eZ e k)
  | 0 => h
  | k + 1 => (eZ_ew h k).set k 0 (by omega)
theorem ew_set_at {e : List Nat} (h : EW e) (k x : Nat) {i : Nat} (hi : i < 8) : (e.set k x).getD i 0 = if k = i then x else e.getD i 0 := by
  have h1 := h.1
  rw [List.getD_eq_getElem?_getD, List.getElem?_set, List.getD_eq_getElem?_getD]
  by_cases e1 : k = i
  · subst e1
    simp [h1, hi]
  · simp [e1]
theorem eZ_at {e : List Nat} (h : EW e) {i : Nat} (hi : i < 8) : ∀ k, (eZ e k).getD i 0 = if i < k then 0 else e.getD i 0
  | 0 => by simp [eZ]
  | k + 1 => by
    show ((eZ e k).set k 0).getD i 0 = _
    rw [ew_set_at (eZ_ew h k) k 0 hi, eZ_at h hi k]
    by_cases e1 : k = i
    · subst e1; simp
    · rw [if_neg e1]
      by_cases e2 : i < k
      · rw [if_pos e2, if_pos (by omega)]
      · rw [if_neg e2, if_neg (by omega)]
theorem fits_no {t : Bool} {fs : List Fac} {e : List Nat} (h : rightS t fs = false) : fitsE t fs e = false := by unfold fitsE; rw [h]; rfl
theorem fits_bad {t : Bool} {fs : List Fac} {e : List Nat} {k : Nat} (hk : k < fs.length) (hl : fs.length ≤ 8) (h : wordB (fs.getD k f0) (e.getD k 0) = false) : fitsE t fs e = false := by
  unfold fitsE
  rw [show (List.range 8).all (slotB fs e) = false by
    rw [List.all_eq_false]
    exact ⟨k, List.mem_range.2 (by omega), by rw [slot_in hk, h]; simp⟩, Bool.and_false]
theorem fits_fin {t : Bool} {fs : List Fac} {e : List Nat} (he : EW e) (hr : rightS t fs = true) (h : ∀ k, k < fs.length → wordB (fs.getD k f0) (e.getD k 0) = true) :
    fitsE t fs e = decide (eZ e fs.length = List.replicate 8 0) := by
  have hl := right_len hr
  rw [Bool.eq_iff_iff, fits_iff, decide_eq_true_eq]
  constructor
  · rintro ⟨_, h2⟩
    refine EW.ext (eZ_ew he _) EW.zeros fun i hi => ?_
    rw [eZ_at he hi]
    have e1 : (List.replicate 8 0).getD i 0 = 0 := by
      rw [List.getD_eq_getElem?_getD, List.getElem?_replicate]
      simp [hi]
    rw [e1]
    by_cases h3 : i < fs.length
    · rw [if_pos h3]
    · rw [if_neg h3]
      exact (slot_out h3).1 (h2 i hi)
  · intro h2
    refine ⟨hr, fun i hi => ?_⟩
    by_cases h3 : i < fs.length
    · rw [slot_in h3]; exact h i h3
    · rw [slot_out h3]
      have := eZ_at he hi fs.length
      rw [h2, if_neg h3, List.getD_eq_getElem?_getD, List.getElem?_replicate] at this
      simpa [hi] using this.symm

set_option maxRecDepth 8000 in
set_option maxHeartbeats 2000000 in
theorem sfitsE_any (t : Bool) (A : Option Addr) (c : Nat) (fs : List Fac) (e : List Nat) (he : EW e) (w : World) (hT : Tab w) (hF : Facs w A fs) :
    Calls Tryd.prog 12 #[.agg (sv t A fs.length c), .agg (uv e)] w fun x w' => x = .returned (.bool (fitsE t fs e)) ∧ Below w.heap.size w w' := by
  have HT := Lib.hid hT; clear hT
  have r0 : RowAt ((w.alloc (.cells (sv t A fs.length c) 24)).alloc (.cells (uv e) 40)) w.heap.size 24 (sv t A fs.length c) := (RowAt.new w _ _).alloc _
  have q0 : RowAt ((w.alloc (.cells (sv t A fs.length c) 24)).alloc (.cells (uv e) 40)) (w.heap.size + 1) 40 (uv e) := by
    have := RowAt.new (w.alloc (.cells (sv t A fs.length c) 24)) 40 (uv e)
    simpa using this
  have HB0 : Hid (Below w.heap.size w ((w.alloc (.cells (sv t A fs.length c) 24)).alloc (.cells (uv e) 40))) := ((Below.refl _ _).alloc (Nat.le_refl _) _).alloc (by simp) _
  have HRI : Hid (∀ W, Below w.heap.size w W → Calls Tryd.prog 10 #[.agg (sv t A fs.length c)] W fun x w' => x = .returned (.bool (rightS t fs)) ∧ Below W.heap.size W w') := fun W h => sright_any t A c fs W (HT.out.below h) (hF.below h)
  have HS : Hid (∀ W, RowAt W w.heap.size 24 (sv t A fs.length c) → W.cell? ⟨w.heap.size, 0, none⟩ = some (.bool t) ∧ W.cell? ⟨w.heap.size, 1, none⟩ = some (.slice A fs.length c)) := fun W h => shape_cells h
  have HF : Hid (∀ W, Below w.heap.size w W → Facs W A fs) := fun W h => hF.below h
  clear hF
  cases hr : rightS t fs with
  | false =>
    rw [fits_no hr]
    rw [hr] at HRI
    clear hr HF
    generalize fs.length = n at *
    go_enter Tryd.func12, Tryd.ntmps12
    go_upto_region 1 with fail
    generalize (w.alloc (.cells (sv t A n c) 24)).alloc (.cells (uv e) 40) = w0 at *
    go_wp2_with (refine wpList_loadShape (by rfl) _ rfl w.heap.size rfl t A n c r0 ?_)
    refine (HRI.out _ HB0.out).mono ?_
    rintro e w1 ⟨rfl, hb⟩
    have HB1 := Lib.hid (HB0.out.trans (hb.mono HB0.out.size))
    go_wp2_with fail
    go_ret
    exact ⟨rfl, HB1.out⟩
  | true =>
    have hlen := right_len hr
    have HBAD : Hid (∀ k, k < fs.length → wordB (fs.getD k f0) (e.getD k 0) = false → fitsE t fs e = false) := fun k hk h => fits_bad hk hlen.2 h
    have HEND : Hid ((∀ k, k < fs.length → wordB (fs.getD k f0) (e.getD k 0) = true) → fitsE t fs e = decide (eZ e fs.length = List.replicate 8 0)) := fits_fin he hr
    have HEW : Hid (∀ k, EW (eZ e k)) := eZ_ew he
    have HEA : Hid (∀ k, k < 8 → (uv (eZ e k))[k]? = some (.int .u64 ((e.getD k 0 : Nat) : Int))) := fun k hk => by
      rw [ev_at (eZ_ew he k) k hk, eZ_at he hk, if_neg (by omega)]
    have HNX : Hid (∀ k, (uv (eZ e k)).setIfInBounds k (.int .u64 0) = uv (eZ e (k + 1))) := fun k => uv_set (eZ e k) k 0
    have HLT := Lib.hid he.lt
    have h8 := hlen.2
    rw [hr] at HRI
    clear hr hlen
    have HE0 : Hid (eZ e 0 = e) := rfl
    generalize fitsE t fs e = res at *
    generalize hn : fs.length = n at *
    have HN := Lib.hid hn; clear hn
    go_enter Tryd.func12, Tryd.ntmps12
    go_upto_region 1 with fail
    generalize (w.alloc (.cells (sv t A n c) 24)).alloc (.cells (uv e) 40) = w0 at *
    go_wp2_with (refine wpList_loadShape (by rfl) _ rfl w.heap.size rfl t A n c r0 ?_)
    refine (HRI.out _ HB0.out).mono ?_
    rintro e w1 ⟨rfl, hb⟩
    have r1 := r0.below hb r0.lt
    have q1 := q0.below hb q0.lt
    have HB1 := Lib.hid (HB0.out.trans (hb.mono HB0.out.size))
    clear hb r0 q0 HB0
    obtain ⟨c0, c1⟩ := HS.out _ r1
    rw [← HE0.out] at q1
    go_wp2_with fail
    clear c0 c1 r1 HRI HS
    go_loopw [5, 6, 13] (fun _ _ kv wr => ∃ k : Nat, k ≤ n ∧ kv = .int .i64 k ∧ RowAt wr (w.heap.size + 1) 40 (uv (eZ e k)) ∧ Hid (∀ j, j < k → wordB (fs.getD j f0) (e.getD j 0) = true) ∧ Hid (Below w.heap.size w wr)) (fun _ _ kv _ => n - (intOf kv).toNat)
    case atStart => exact ⟨0, by omega, rfl, q1, fun j hj => by omega, HB1⟩
    case round =>
      clear q1 HB1
      obtain ⟨k, hk, rfl, q1, HK, HB1⟩ := hrel
      by_cases hlt : k < n
      · have hFk := HF.out _ HB1.out
        obtain ⟨b, o, rfl, _, hr⟩ := hFk.at (k := k) (by rw [HN.out]; exact hlt)
        have hrg := hr k (by rw [HN.out]; exact hlt)
        have hl := (hFk.okAt (i := k) (by rw [HN.out]; exact hlt)).rows
        have HOK : Hid (∀ W, Below w.heap.size w W → FacOk W (fs.getD k f0)) := fun W h => (HF.out W h).okAt (by rw [HN.out]; exact hlt)
        clear hr hFk
        have HKN : Hid (wordB (fs.getD k f0) (e.getD k 0) = true → ∀ j, j < k + 1 → wordB (fs.getD j f0) (e.getD j 0) = true) := fun h j hj => by
          by_cases e : j = k
          · subst e; exact h
          · exact HK.out j (by omega)
        have HR := Lib.hid (HBAD.out k hlt)
        have hk8 : (k : Int) < 8 := by omega
        have hea := HEA.out k (by omega)
        have hnx := HNX.out k
        have hx := HLT.out k
        have HWF : Hid (∀ W, Below w.heap.size w W → Calls Tryd.prog 22 #[.agg (fv (fs.getD k f0)), .int .u64 ((e.getD k 0 : Nat) : Int)] W fun x w' => x = .returned (.bool (wordB (fs.getD k f0) (e.getD k 0))) ∧ Below W.heap.size W w') := fun W h => sfits_any _ _ hx W (HT.out.below h) (HOK.out W h)
        clear hx HOK
        generalize wordB (fs.getD k f0) (e.getD k 0) = bw at *
        generalize e.getD k 0 = x at *
        generalize fs.getD k f0 = f at *
        have HNX2 := Lib.hid hnx; clear hnx
        have HEA2 := Lib.hid hea; clear hea
        generalize uv (eZ e k) = U at *
        go_wp2_with (first | (refine wpList_loadFacIn (by rfl) _ rfl b (o + k * 67) rfl f hl hrg ?_) | (refine wpList_storeFac (by rfl) _ _ rfl wr.heap.size rfl f hl rfl _ zero_fac_size (RowAt.new _ _ _) ?_; intro w2 r2 he) | (refine wpList_loadFac (by rfl) _ rfl wr.heap.size rfl f hl r2 ?_))
        have hgs : w.heap.size + 1 < wr.heap.size := q1.lt
        have q2 := (q1.alloc (.cells Tryd.zeroCells36 36)).other he (by omega)
        have HB2 := Lib.hid (below_made HB1.out HB1.out.size he); clear he q1 HB1
        obtain ⟨S, HS, pW, keepS⟩ := ex_gen w2
        have pF := fun w' h => r2.below (pW w' h) r2.lt
        have pQ := fun w' h => q2.below (pW w' h) q2.lt
        have cE : ∀ w', S w' → w'.cell? ⟨w.heap.size + 1, k, none⟩ = some (.int .u64 (x : Int)) := fun w' h => ((pQ w' h).cell k).trans HEA2.out
        have PB : Hid (∀ w', S w' → Below w.heap.size w w') := fun w' h => HB2.out.trans ((pW w' h).mono HB2.out.size)
        have PQ := Lib.hid pQ
        clear pW r2 q2 HB2 pQ
        refine wp_region_ord S [(0, true), (1, true), (2, true), (3, true), (4, false), (5, true)] (by kernel_rfl) (by kernel_rfl) rfl (by kernel_rfl) HS.out ?_
        generalize w2.drew = V at HS ⊢
        iterate 4
          (refine wpOrd_step (o := ?_) ?_ ?_; rotate_left 1; (simp only [List.getElem?_toArray, List.getElem?_cons_succ, List.getElem?_cons_zero]; with_reducible rfl))
          (first
              | (refine wpOrd_skip (by rfl) ?_)
              | (refine wpOrd_take (by rfl) (take_loadFac _ rfl _ rfl _ hl pF) ?_)
              | (refine wpOrd_take (v := ?_) (by rfl) ?_ ?_; rotate_left 1; (intro wx hSx; have hc_0 := cE wx hSx; go_simp; try with_reducible rfl)))
          (try simp only [Act.put, List.setIfInBounds_toArray, List.set_cons_zero, List.set_cons_succ])
        (refine wpOrd_solo (o := ?_) ?_ ?_; rotate_left 1; (simp only [List.getElem?_toArray, List.getElem?_cons_succ, List.getElem?_cons_zero]; with_reducible rfl))
        intro K hK
        go_simp
        go_at_call 22
        refine (HWF.out _ (PB.out _ HS.out)).mono ?_
        rintro e w5 ⟨rfl, hb⟩
        have hS := keepS _ _ HS.out hb
        clear HS
        have HS := Lib.hid hS; clear hS hb
        refine hK.out _ _ HS.out ?_
        clear hK K
        (try simp only [Act.put, List.setIfInBounds_toArray, List.set_cons_zero, List.set_cons_succ])
        iterate 1
          (refine wpOrd_step (o := ?_) ?_ ?_; rotate_left 1; (simp only [List.getElem?_toArray, List.getElem?_cons_succ, List.getElem?_cons_zero]; with_reducible rfl))
          (first
              | (refine wpOrd_skip (by rfl) ?_)
              | (refine wpOrd_take (v := ?_) (by rfl) ?_ ?_; rotate_left 1; (intro wx hSx; go_simp; try with_reducible rfl)))
          (try simp only [Act.put, List.setIfInBounds_toArray, List.set_cons_zero, List.set_cons_succ])
        refine wpOrd_done ?_
        have HB5 := Lib.hid (PB.out _ HS.out)
        have q5 := PQ.out _ HS.out
        clear pF cE PB PQ HS keepS
        cases bw with
        | false =>
          have HR2 := Lib.hid (HR.out rfl)
          clear HR HKN
          go_wp2_with fail
          go_ret
          exact ⟨ret_eq (bool_eq HR2.out.symm), HB5.out⟩
        | true =>
          have HKN2 := Lib.hid (HKN.out rfl)
          clear HR HKN
          have hce : w5.cell? ⟨w.heap.size + 1, k, none⟩ = some (.int .u64 (x : Int)) := (q5.cell k).trans HEA2.out
          have hfe := q5.free k
          have q6 := q5.put k (.int .u64 0)
          rw [HNX2.out] at q6
          have HB6 := Lib.hid (HB5.out.trans (((Else.setCell w5 ⟨w.heap.size + 1, k, none⟩ (.int .u64 0)).below (by show w.heap.size ≤ w.heap.size + 1; omega)).mono (Nat.le_refl _)))
          clear HB5 q5
          go_wp2_with fail
          go_roundw
          case rel => exact ⟨k + 1, by omega, by go_num, q6, HKN2, HB6⟩
          case measure => simp [intOf]; omega
      · have e1 : k = n := by omega
        subst e1
        have HE2 := Lib.hid (HEND.out HK.out)
        have hew := HEW.out k
        have heq := fun w => run_eql_elem hew EW.zeros w
        rw [← zero_elem] at heq
        generalize decide (eZ e k = List.replicate 8 0) = bd at *
        go_wp2_with (refine wpList_loadElem (by rfl) _ rfl (w.heap.size + 1) rfl _ hew q1 ?_)
        go_ret
        exact ⟨ret_eq (bool_eq HE2.out.symm), HB1.out⟩
end Go.Proofs.YtpgkcddhpeoiiaaDoor
