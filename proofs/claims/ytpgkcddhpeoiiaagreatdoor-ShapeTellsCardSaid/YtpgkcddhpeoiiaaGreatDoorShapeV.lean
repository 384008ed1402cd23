/-
  Same of package shape. Conditions: two slices of factors in memory, at most 2^32 factors of at most 2^32 names each.
-/
import Derived.Test.YtpgkcddhpeoiiaaGreatDoorShapeU
namespace Go.Proofs.YtpgkcddhpeoiiaaGreatDoor
open Go.RowKit RM

set_option maxRecDepth 8000 in
set_option maxHeartbeats 2000000 in
theorem sameFactor_any (f g : Fac) (w : World) (hf : FacOk w f) (hg : FacOk w g) (hm : f.names.length ≤ 4294967296) :
    Calls Tryz.prog 30 #[.agg (fv f), .agg (fv g)] w fun x w' => x = .returned (.bool (sameF f g)) ∧ Below w.heap.size w w' := by
  have hlf := hf.rows
  have hlg := hg.rows
  have r0 : RowAt ((w.alloc (.cells (fv f) 46)).alloc (.cells (fv g) 46)) w.heap.size 46 (fv f) := (RowAt.new w _ _).alloc _
  have q0 : RowAt ((w.alloc (.cells (fv f) 46)).alloc (.cells (fv g) 46)) (w.heap.size + 1) 46 (fv g) := by
    have := RowAt.new (w.alloc (.cells (fv f) 46)) 46 (fv g)
    simpa using this
  have HB0 : Hid (Below w.heap.size w ((w.alloc (.cells (fv f) 46)).alloc (.cells (fv g) 46))) := ((Below.refl _ _).alloc (Nat.le_refl _) _).alloc (by simp) _
  have HNM : Hid (∀ W, Below w.heap.size w W → Calls Tryz.prog 59 #[.slice f.A f.names.length f.c, .slice g.A g.names.length g.c] W fun x w' => x = .returned (.bool (same f.names g.names)) ∧ Below W.heap.size W w') := fun W h =>
    same_any _ _ _ _ _ _ W hm (hf.below h).strs (hg.below h).strs
  have HSM : Hid (∀ W, Calls Tryz.prog 60 #[.agg (rv f.n f.l), .agg (rv g.n g.l)] W fun x w' => x = .returned (.bool (eqRel (pts f.n : Nat) (pts g.n : Nat) (cl f.n f.l) (cl g.n g.l))) ∧ Below W.heap.size W w') := fun W => rsame_any _ _ _ _ hlf hlg W
  clear hf hg hm
  by_cases hk : f.kind = g.kind
  · rw [sameF_yes hk]
    have hkb : (f.kind == g.kind) = true := by simp [hk]
    have hkd : decide (f.kind = g.kind) = true := by simp [hk]
    clear hk
    generalize same f.names g.names = v1 at *
    generalize eqRel (pts f.n : Nat) (pts g.n : Nat) (cl f.n f.l) (cl g.n g.l) = v2 at *
    go_enter Tryz.func30, Tryz.ntmps30
    go_upto_region 1 with fail
    obtain ⟨a0, a1, _, a3⟩ := fac_cells r0
    obtain ⟨b0, b1, _, b3⟩ := fac_cells q0
    generalize (w.alloc (.cells (fv f) 46)).alloc (.cells (fv g) 46) = w0 at *
    go_wp2_with fail
    refine (HNM.out _ HB0.out).mono ?_
    rintro e w1 ⟨rfl, hb⟩
    have r1 := r0.below hb r0.lt
    have q1 := q0.below hb q0.lt
    have HB1 := Lib.hid (HB0.out.trans (hb.mono HB0.out.size))
    clear hb r0 q0 HB0
    clear a0 a1 a3 b0 b1 b3
    obtain ⟨a0, a1, _, a3⟩ := fac_cells r1
    obtain ⟨b0, b1, _, b3⟩ := fac_cells q1
    cases v1 with
    | false =>
      go_wp2_with fail
      go_ret
      exact ⟨rfl, HB1.out⟩
    | true =>
      go_wp2_with (first | (refine wpList_loadRelIn (by rfl) _ rfl w.heap.size 2 rfl f.n f.l hlf a3 ?_) | (refine wpList_loadRelIn (by rfl) _ rfl (w.heap.size + 1) 2 rfl g.n g.l hlg b3 ?_))
      refine (HSM.out w1).mono ?_
      rintro e w2 ⟨rfl, hb⟩
      have r2 := r1.below hb r1.lt
      have q2 := q1.below hb q1.lt
      have HB2 := Lib.hid (HB1.out.trans (hb.mono HB1.out.size))
      clear hb r1 q1 HB1
      go_wp2_with fail
      go_ret
      exact ⟨rfl, HB2.out⟩
  · rw [sameF_no hk]
    have hkb : (f.kind == g.kind) = false := by simp [hk]
    have hkd : decide (f.kind = g.kind) = false := by simp [hk]
    clear hk
    obtain ⟨a0, a1, _, a3⟩ := fac_cells r0
    obtain ⟨b0, b1, _, b3⟩ := fac_cells q0
    go_enter Tryz.func30, Tryz.ntmps30
    go_wp2_with fail
    go_ret
    exact ⟨rfl, HB0.out⟩

set_option maxRecDepth 8000 in
set_option maxHeartbeats 2000000 in
theorem equalFac_any (A B : Option Addr) (c d : Nat) (fs gs : List Fac) (F : FuncId) (hf : ∀ args w, (callFunc F args).run Tryz.prog w = .ok (.enter F args) w) (w : World) (hF : Facs w A fs) (hG : Facs w B gs) (hlen : fs.length ≤ 4294967296)
    (H : ∀ k, k < fs.length → fs.length = gs.length → ∀ W, Below w.heap.size w W → Calls Tryz.prog F #[.agg (fv (fs.getD k f0)), .agg (fv (gs.getD k f0))] W fun x w' => x = .returned (.bool (sameF (fs.getD k f0) (gs.getD k f0))) ∧ Below W.heap.size W w') :
    Calls Tryz.prog 29 #[.slice A fs.length c, .slice B gs.length d, .func (.func F) #[] #[]] w fun x w' => x = .returned (.bool (decide (fs.length = gs.length) && sameFs fs gs)) ∧ Below w.heap.size w w' := by
  have HB0 : Hid (Below w.heap.size w w) := Below.refl _ _
  by_cases he : fs.length = gs.length
  · rw [decide_eq_true he, Bool.true_and]
    have HBA : Hid (∀ k, k < fs.length → sameF (fs.getD k f0) (gs.getD k f0) = false → sameFs fs gs = false) := fun k => sameFs_bad
    have HEND : Hid ((∀ k, k < fs.length → sameF (fs.getD k f0) (gs.getD k f0) = true) → sameFs fs gs = true) := sameFs_end
    have HF : Hid (∀ W, Below w.heap.size w W → Facs W A fs) := fun W h => hF.below h
    have HG : Hid (∀ W, Below w.heap.size w W → Facs W B gs) := fun W h => hG.below h
    have HH : Hid (∀ k, k < fs.length → ∀ W, Below w.heap.size w W → Calls Tryz.prog F #[.agg (fv (fs.getD k f0)), .agg (fv (gs.getD k f0))] W fun x w' => x = .returned (.bool (sameF (fs.getD k f0) (gs.getD k f0))) ∧ Below W.heap.size W w') := fun k hk => H k hk he
    have HE := Lib.hid he.symm
    rw [← he]
    clear he H hF hG
    generalize sameFs fs gs = res at *
    generalize hn : fs.length = n at *
    have HN := Lib.hid hn; clear hn
    go_enter Tryz.func29, Tryz.ntmps29
    go_wp2_with fail
    go_loopw [7, 8, 9, 17] (fun _ _ _ kv wr => ∃ k : Nat, k ≤ n ∧ kv = .int .i64 k ∧ Hid (∀ j, j < k → sameF (fs.getD j f0) (gs.getD j f0) = true) ∧ Hid (Below w.heap.size w wr)) (fun _ _ _ kv _ => n - (intOf kv).toNat)
    case atStart => exact ⟨0, by omega, rfl, fun j hj => by omega, HB0⟩
    case round =>
      clear HB0
      obtain ⟨k, hk, rfl, HK, HB1⟩ := hrel
      by_cases hlt : k < n
      · have hFk := HF.out _ HB1.out
        have hGk := HG.out _ HB1.out
        obtain ⟨b, o, rfl, _, _⟩ := hFk.at (k := k) (by rw [HN.out]; exact hlt)
        obtain ⟨b2, o2, rfl, _, _⟩ := hGk.at (k := k) (by rw [HE.out]; exact hlt)
        have hlf := (hFk.okAt (i := k) (by rw [HN.out]; exact hlt)).rows
        have hlg := (hGk.okAt (i := k) (by rw [HE.out]; exact hlt)).rows
        have hrf : wr.rangeAt b (o + k * 67) (fcells (fs.getD k f0)) := hFk.rng (by rw [HN.out]; exact hlt)
        have HRG : Hid (∀ W, Below w.heap.size w W → W.rangeAt b2 (o2 + k * 67) (fcells (gs.getD k f0))) := fun W h => (HG.out W h).rng (by rw [HE.out]; exact hlt)
        have HWF := Lib.hid (HH.out k hlt)
        have HBAD := Lib.hid (HBA.out k hlt)
        have HKN : Hid (sameF (fs.getD k f0) (gs.getD k f0) = true → ∀ j, j < k + 1 → sameF (fs.getD j f0) (gs.getD j f0) = true) := fun h j hj => by
          by_cases e : j = k
          · subst e; exact h
          · exact HK.out j (by omega)
        clear hFk hGk
        generalize sameF (fs.getD k f0) (gs.getD k f0) = sm at *
        generalize fs.getD k f0 = f at *
        generalize gs.getD k f0 = g at *
        go_wp2_with (first | (refine wpList_loadFacIn (by rfl) _ rfl b (o + k * 67) rfl f hlf hrf ?_) | (refine wpList_storeFac (by rfl) _ _ rfl wr.heap.size rfl f hlf rfl _ zero_fac_size (RowAt.new _ _ _) ?_; intro w2 r2 he; have HB2 := Lib.hid (below_made HB1.out HB1.out.size he); have hrg := HRG.out _ HB2.out; have hbw : Hid (wr.heap.size < w2.heap.size) := r2.lt; clear he hrf HB1) | (refine wpList_loadFacIn (by rfl) _ rfl b2 (o2 + k * 67) rfl g hlg hrg ?_) | (refine wpList_storeFac (by rfl) _ _ rfl w2.heap.size rfl g hlg rfl _ zero_fac_size (RowAt.new _ _ _) ?_; intro w3 s3 he; have r3 := (r2.alloc (.cells Tryz.zeroCells46 46)).other he (Nat.ne_of_lt r2.lt); have HB3 := Lib.hid (below_made HB2.out HB2.out.size he); clear he r2 HB2 hrg) | (refine wpList_loadFac (by rfl) _ rfl wr.heap.size rfl f hlf r3 ?_) | (refine wpList_loadFac (by rfl) _ rfl w2.heap.size rfl g hlg s3 ?_))
        refine (HWF.out _ HB3.out).mono ?_
        rintro e w4 ⟨rfl, hb⟩
        have HB4 := Lib.hid (HB3.out.trans (hb.mono HB3.out.size))
        clear hb r3 s3 HB3 HWF HRG
        cases sm with
        | false =>
          have HR2 := Lib.hid (HBAD.out rfl)
          clear HBAD HKN
          go_wp2_with fail
          go_ret
          exact ⟨ret_eq (bool_eq HR2.out.symm), HB4.out⟩
        | true =>
          have HKN2 := Lib.hid (HKN.out rfl)
          clear HBAD HKN
          go_wp2_with fail
          go_roundw
          case rel => exact ⟨k + 1, by omega, by go_num, HKN2, HB4⟩
          case measure => simp [intOf]; omega
      · have e : k = n := by omega
        subst e
        have HE2 := Lib.hid (HEND.out HK.out)
        go_wp2_with fail
        go_ret
        exact ⟨ret_eq (bool_eq HE2.out.symm), HB1.out⟩
  · rw [decide_eq_false he, Bool.false_and]
    have hd : ((fs.length : Int) != (gs.length : Int)) = true := by simp; omega
    clear H hF hG he
    generalize fs.length = n at *
    generalize gs.length = m at *
    go_enter Tryz.func29, Tryz.ntmps29
    go_wp2_with fail
    go_ret
    exact ⟨rfl, HB0.out⟩

set_option maxRecDepth 8000 in
set_option maxHeartbeats 2000000 in
theorem ssameS_any (t u : Bool) (A B : Option Addr) (c d : Nat) (fs gs : List Fac) (w : World) (hF : Facs w A fs) (hG : Facs w B gs) (hm : ∀ f ∈ fs, f.names.length ≤ 4294967296) (hlen : fs.length ≤ 4294967296) :
    Calls Tryz.prog 10 #[.agg (sv t A fs.length c), .agg (sv u B gs.length d)] w fun x w' => x = .returned (.bool (sameS t u fs gs)) ∧ Below w.heap.size w w' := by
  have r0 : RowAt ((w.alloc (.cells (sv t A fs.length c) 24)).alloc (.cells (sv u B gs.length d) 24)) w.heap.size 24 (sv t A fs.length c) := (RowAt.new w _ _).alloc _
  have q0 : RowAt ((w.alloc (.cells (sv t A fs.length c) 24)).alloc (.cells (sv u B gs.length d) 24)) (w.heap.size + 1) 24 (sv u B gs.length d) := by
    have := RowAt.new (w.alloc (.cells (sv t A fs.length c) 24)) 24 (sv u B gs.length d)
    simpa using this
  have HB0 : Hid (Below w.heap.size w ((w.alloc (.cells (sv t A fs.length c) 24)).alloc (.cells (sv u B gs.length d) 24))) := ((Below.refl _ _).alloc (Nat.le_refl _) _).alloc (by simp) _
  have HEQ : Hid (∀ W, Below w.heap.size w W → Calls Tryz.prog 29 #[.slice A fs.length c, .slice B gs.length d, .func (.func 30) #[] #[]] W fun x w' => x = .returned (.bool (decide (fs.length = gs.length) && sameFs fs gs)) ∧ Below W.heap.size W w') := fun W h =>
    equalFac_any A B c d fs gs 30 (fun _ _ => by kernel_rfl) W (hF.below h) (hG.below h) hlen fun k hk he W2 h2 =>
      sameFactor_any _ _ W2 (((hF.below h).below h2).okAt hk) (((hG.below h).below h2).okAt (by omega)) (hm _ (getD_mem hk))
  clear hF hG hm hlen
  obtain ⟨c0, c1⟩ := shape_cells r0
  obtain ⟨d0, d1⟩ := shape_cells q0
  unfold sameS
  generalize (decide (fs.length = gs.length) && sameFs fs gs) = v at *
  generalize fs.length = n at *
  generalize gs.length = m at *
  by_cases htu : t = u
  · subst htu
    rw [decide_eq_true rfl, Bool.true_and]
    go_enter Tryz.func10, Tryz.ntmps10
    go_upto_region 1 with fail
    generalize (w.alloc (.cells (sv t A n c) 24)).alloc (.cells (sv t B m d) 24) = w0 at *
    go_wp2_with fail
    refine (HEQ.out _ HB0.out).mono ?_
    rintro e w1 ⟨rfl, hb⟩
    have HB1 := Lib.hid (HB0.out.trans (hb.mono HB0.out.size))
    clear hb  HB0
    go_wp2_with fail
    go_ret
    exact ⟨rfl, HB1.out⟩
  · rw [decide_eq_false htu, Bool.false_and]
    have hd : (t == u) = false := by simp [htu]
    have hd2 : decide (t = u) = false := decide_eq_false htu
    clear HEQ htu
    go_enter Tryz.func10, Tryz.ntmps10
    go_wp2_with fail
    go_ret
    exact ⟨rfl, HB0.out⟩
end Go.Proofs.YtpgkcddhpeoiiaaGreatDoor
