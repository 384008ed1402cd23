/-
  What element, Bottom, Top and Height of package shape return. Conditions: a slice of factors in memory, 64 words below 2^64 each; the table of math/bits in memory.
-/
import Derived.Test.YtpgkcddhpeoiiaaDoorShapeC
namespace Go.Proofs.YtpgkcddhpeoiiaaDoor
open Go.RowKit RM

theorem endE_no {t : Bool} {fs : List Fac} {F : Fac → Nat} (h : rightS t fs = false) : endE t fs F = List.replicate 8 0 := by unfold endE; rw [h]; rfl
theorem endE_yes {t : Bool} {fs : List Fac} {F : Fac → Nat} (h : rightS t fs = true) : endE t fs F = sdTo (fun i => F (fs.getD i f0)) 8 fs.length := by
  unfold endE
  rw [h, if_pos rfl]; rfl
theorem sdTo_ew {F : Nat → Nat} (h : ∀ i, F i < 18446744073709551616) (k : Nat) : EW (sdTo F 8 k) := EW.map (F := fun i => if i < k then F i else 0) fun i => by
  show (if i < k then F i else 0) < _
  split
  · exact h i
  · omega

set_option maxRecDepth 8000 in
set_option maxHeartbeats 2000000 in
theorem selement_any (t : Bool) (A : Option Addr) (c : Nat) (fs : List Fac) (f : FuncId) (hf : ∀ args w, (callFunc f args).run Tryd.prog w = .ok (.enter f args) w) (F : Fac → Nat) (hlt : ∀ g, F g < 18446744073709551616)
    (w : World) (hT : Tab w) (hF : Facs w A fs) (H : ∀ g W, facB g = true → Tab W → FacOk W g → Calls Tryd.prog f #[.agg (fv g)] W fun x w' => x = .returned (.int .u64 ((F g : Nat) : Int)) ∧ Below W.heap.size W w') :
    Calls Tryd.prog 20 #[.agg (sv t A fs.length c), .func (.func f) #[] #[]] w fun x w' => x = .returned (.agg (uv (endE t fs F))) ∧ Below w.heap.size w w' := by
  have HT := Lib.hid hT; clear hT
  have z8 := EW.zeros
  have r0 : RowAt ((w.alloc (.cells (sv t A fs.length c) 24)).alloc (.cells (uv (List.replicate 8 0)) 40)) w.heap.size 24 (sv t A fs.length c) := (RowAt.new w _ _).alloc _
  have q0 : RowAt ((w.alloc (.cells (sv t A fs.length c) 24)).alloc (.cells (uv (List.replicate 8 0)) 40)) (w.heap.size + 1) 40 (uv (List.replicate 8 0)) := by
    have := RowAt.new (w.alloc (.cells (sv t A fs.length c) 24)) 40 (uv (List.replicate 8 0))
    simpa using this
  have HB0 : Hid (Below w.heap.size w ((w.alloc (.cells (sv t A fs.length c) 24)).alloc (.cells (uv (List.replicate 8 0)) 40))) := ((Below.refl _ _).alloc (Nat.le_refl _) _).alloc (by simp) _
  have HRI : Hid (∀ W, Below w.heap.size w W → Calls Tryd.prog 10 #[.agg (sv t A fs.length c)] W fun x w' => x = .returned (.bool (rightS t fs)) ∧ Below W.heap.size W w') := fun W h => sright_any t A c fs W (HT.out.below h) (hF.below h)
  have HS : Hid (∀ W, RowAt W w.heap.size 24 (sv t A fs.length c) → W.cell? ⟨w.heap.size, 0, none⟩ = some (.bool t) ∧ W.cell? ⟨w.heap.size, 1, none⟩ = some (.slice A fs.length c)) := fun W h => shape_cells h
  have HF : Hid (∀ W, Below w.heap.size w W → Facs W A fs) := fun W h => hF.below h
  have HH := Lib.hid H; clear H hF
  cases hr : rightS t fs with
  | false =>
    rw [endE_no hr]
    rw [hr] at HRI
    clear hr HF
    generalize fs.length = n at *
    rw [← zero_elem] at r0 q0 HB0
    go_enter Tryd.func20, Tryd.ntmps20
    go_upto_region 1 with fail
    rw [zero_elem] at r0 q0 HB0 ⊢
    generalize (w.alloc (.cells (sv t A n c) 24)).alloc (.cells (uv (List.replicate 8 0)) 40) = w0 at *
    go_wp2_with (refine wpList_loadShape (by rfl) _ rfl w.heap.size rfl t A n c r0 ?_)
    refine (HRI.out _ HB0.out).mono ?_
    rintro e w1 ⟨rfl, hb⟩
    have q1 := q0.below hb q0.lt
    have HB1 := Lib.hid (HB0.out.trans (hb.mono HB0.out.size))
    go_wp2_with (refine wpList_storeElem (by rfl) _ _ rfl (w.heap.size + 1) rfl _ z8 (by rw [← zero_elem]; rfl) _ z8 q1 ?_; intro w2 q2 he)
    exact bodyPost_ret (ret_elem rfl _ _ (w.heap.size + 1) _ z8 rfl q2) rfl ⟨rfl, HB1.out.trans (he.below (by omega))⟩
  | true =>
    rw [endE_yes hr]
    have hlen := right_len hr
    have HV : Hid (∀ k, k < fs.length → facB (fs.getD k f0) = true) := fun k hk => right_fac hr hk
    have HEW : Hid (∀ k, EW (sdTo (fun i => F (fs.getD i f0)) 8 k)) := sdTo_ew fun i => hlt _
    have HZ : Hid (sdTo (fun i => F (fs.getD i f0)) 8 0 = List.replicate 8 0) := sdTo_zero _ 8
    have HNX : Hid (∀ k, (uv (sdTo (fun i => F (fs.getD i f0)) 8 k)).setIfInBounds k (.int .u64 ((F (fs.getD k f0) : Nat) : Int)) = uv (sdTo (fun i => F (fs.getD i f0)) 8 (k + 1))) := fun k => by rw [uv_set, ← sdTo_set]
    rw [hr] at HRI
    clear hr hlt
    generalize sdTo (fun i => F (fs.getD i f0)) 8 = G at *
    generalize hn : fs.length = n at *
    have HN := Lib.hid hn; clear hn
    rw [← zero_elem] at r0 q0 HB0
    go_enter Tryd.func20, Tryd.ntmps20
    go_upto_region 1 with fail
    rw [zero_elem] at r0 q0 HB0 ⊢
    generalize (w.alloc (.cells (sv t A n c) 24)).alloc (.cells (uv (List.replicate 8 0)) 40) = w0 at *
    go_wp2_with (refine wpList_loadShape (by rfl) _ rfl w.heap.size rfl t A n c r0 ?_)
    refine (HRI.out _ HB0.out).mono ?_
    rintro e w1 ⟨rfl, hb⟩
    have r1 := r0.below hb r0.lt
    have q1 := q0.below hb q0.lt
    have HB1 := Lib.hid (HB0.out.trans (hb.mono HB0.out.size))
    clear hb r0 q0 HB0
    have hs1 := q1.lt
    obtain ⟨c0, c1⟩ := HS.out _ r1
    have hlen2 := hlen.2
    go_upto_region 4 with fail
    rw [zero_elem]
    have p1 : RowAt (w1.alloc (.cells (uv (List.replicate 8 0)) 40)) w1.heap.size 40 (uv (List.replicate 8 0)) := RowAt.new _ _ _
    have q2 := q1.alloc (.cells (uv (List.replicate 8 0)) 40)
    have r2 := r1.alloc (.cells (uv (List.replicate 8 0)) 40)
    have HB2 := Lib.hid (HB1.out.alloc HB1.out.size (.cells (uv (List.replicate 8 0)) 40))
    obtain ⟨d0, d1⟩ := HS.out _ r2
    clear c0 c1 r1 r2 q1 HB1 HRI
    generalize w1.alloc (.cells (uv (List.replicate 8 0)) 40) = w9 at *
    rw [← HZ.out] at p1
    have hg1 : w.heap.size ≤ w1.heap.size := by omega
    have hg2 : w.heap.size + 1 ≠ w1.heap.size := by omega
    generalize w1.heap.size = gE at *
    go_wp2_with fail
    clear d0 d1 HS
    go_loopw [6, 7, 15] (fun _ _ kv wr => ∃ k : Nat, k ≤ n ∧ kv = .int .i64 k ∧ RowAt wr gE 40 (uv (G k)) ∧ RowAt wr (w.heap.size + 1) 40 (uv (List.replicate 8 0)) ∧ Hid (Below w.heap.size w wr)) (fun _ _ kv _ => n - (intOf kv).toNat)
    case atStart => exact ⟨0, by omega, rfl, p1, q2, HB2⟩
    case round =>
      clear p1 q2 HB2
      obtain ⟨k, hk, rfl, p1, q1, HB1⟩ := hrel
      by_cases hlt : k < n
      · have hk8 : (k : Int) < 8 := by omega
        have hFk := HF.out _ HB1.out
        obtain ⟨b, o, rfl, _, hr⟩ := hFk.at (k := k) (by rw [HN.out]; exact hlt)
        have hrg := hr k (by rw [HN.out]; exact hlt)
        have hl := (hFk.okAt (i := k) (by rw [HN.out]; exact hlt)).rows
        have HOK : Hid (∀ W, Below w.heap.size w W → FacOk W (fs.getD k f0)) := fun W h => (HF.out W h).okAt (by rw [HN.out]; exact hlt)
        clear hr hFk
        have hnx := HNX.out k
        have hv := HV.out k hlt
        have HWF : Hid (∀ W, Below w.heap.size w W → Calls Tryd.prog f #[.agg (fv (fs.getD k f0))] W fun x w' => x = .returned (.int .u64 ((F (fs.getD k f0) : Nat) : Int)) ∧ Below W.heap.size W w') := fun W h => HH.out _ W hv (HT.out.below h) (HOK.out W h)
        have hcE := ev_at (HEW.out k) k (by omega)
        have HCE := Lib.hid hcE; clear hcE hv HOK
        generalize (G k).getD k 0 = x0 at *
        generalize F (fs.getD k f0) = x at *
        generalize fs.getD k f0 = f at *
        have HNX2 := Lib.hid hnx; clear hnx
        go_wp2_with (first | (refine wpList_loadFacIn (by rfl) _ rfl b (o + k * 67) rfl f hl hrg ?_) | (refine wpList_storeFac (by rfl) _ _ rfl wr.heap.size rfl f hl rfl _ zero_fac_size (RowAt.new _ _ _) ?_; intro w2 r2 he; have p2 := (p1.alloc (.cells Tryd.zeroCells36 36)).other he (Nat.ne_of_lt p1.lt); have q2 := (q1.alloc (.cells Tryd.zeroCells36 36)).other he (Nat.ne_of_lt q1.lt); have HB2 := Lib.hid (below_made HB1.out HB1.out.size he); clear he q1 p1 HB1) | (refine wpList_loadFac (by rfl) _ rfl wr.heap.size rfl f hl r2 ?_))
        refine (HWF.out _ HB2.out).mono ?_
        rintro e w3 ⟨rfl, hb⟩
        have p3 := p2.below hb p2.lt
        have q3 := q2.below hb q2.lt
        have HB3 := Lib.hid (HB2.out.trans (hb.mono HB2.out.size))
        clear hb r2 p2 q2 HB2
        have hce : w3.cell? ⟨gE, k, none⟩ = some (.int .u64 (x0 : Int)) := (p3.cell k).trans HCE.out
        have hfe := p3.free k
        have p6 := p3.put k (.int .u64 (x : Int))
        have q6 := q3.far (p := ⟨gE, k, none⟩) (fun e => hg2 e.symm) (.int .u64 (x : Int))
        rw [HNX2.out] at p6
        have HB6 := Lib.hid (HB3.out.trans (((Else.setCell w3 ⟨gE, k, none⟩ (.int .u64 (x : Int))).below hg1).mono (Nat.le_refl _)))
        clear HB3 p3 q3
        go_wp2_with fail
        go_roundw
        case rel => exact ⟨k + 1, by omega, by go_num, p6, q6, HB6⟩
        case measure => simp [intOf]; omega
      · have e1 : k = n := by omega
        subst e1
        have hew := HEW.out k
        go_wp2_with (first | (refine wpList_loadElem (by rfl) _ rfl gE rfl _ hew p1 ?_) | (refine wpList_storeElem (by rfl) _ _ rfl (w.heap.size + 1) rfl _ hew rfl _ z8 q1 ?_; intro w7 q7 he))
        exact bodyPost_ret (ret_elem rfl _ _ (w.heap.size + 1) _ hew rfl q7) rfl ⟨rfl, HB1.out.trans (he.below (by omega))⟩
end Go.Proofs.YtpgkcddhpeoiiaaDoor
