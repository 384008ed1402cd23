/-
  What Join and Height of package shape return. Conditions: a slice of factors in memory, eight words below 2^64; the table of math/bits in memory.
-/
import Derived.Test.YtpgkcddhpeoiiaaDoorShapeE
namespace Go.Proofs.YtpgkcddhpeoiiaaDoor
open Go.RowKit RM

theorem five_rows (w : World) (c1 c2 c3 c4 c5 : Array Value) (t1 t2 t3 t4 t5 : TypeId) :
    RowAt (((((w.alloc (.cells c1 t1)).alloc (.cells c2 t2)).alloc (.cells c3 t3)).alloc (.cells c4 t4)).alloc (.cells c5 t5)) w.heap.size t1 c1 ∧
    RowAt (((((w.alloc (.cells c1 t1)).alloc (.cells c2 t2)).alloc (.cells c3 t3)).alloc (.cells c4 t4)).alloc (.cells c5 t5)) (w.heap.size + 1) t2 c2 ∧
    RowAt (((((w.alloc (.cells c1 t1)).alloc (.cells c2 t2)).alloc (.cells c3 t3)).alloc (.cells c4 t4)).alloc (.cells c5 t5)) (w.heap.size + 2) t3 c3 ∧
    RowAt (((((w.alloc (.cells c1 t1)).alloc (.cells c2 t2)).alloc (.cells c3 t3)).alloc (.cells c4 t4)).alloc (.cells c5 t5)) (w.heap.size + 3) t4 c4 ∧
    RowAt (((((w.alloc (.cells c1 t1)).alloc (.cells c2 t2)).alloc (.cells c3 t3)).alloc (.cells c4 t4)).alloc (.cells c5 t5)) (w.heap.size + 4) t5 c5 ∧
    Below w.heap.size w (((((w.alloc (.cells c1 t1)).alloc (.cells c2 t2)).alloc (.cells c3 t3)).alloc (.cells c4 t4)).alloc (.cells c5 t5)) := by
  obtain ⟨h1, h2, h3, h4, hb⟩ := four_rows w c1 c2 c3 c4 t1 t2 t3 t4
  have h5 := RowAt.new ((((w.alloc (.cells c1 t1)).alloc (.cells c2 t2)).alloc (.cells c3 t3)).alloc (.cells c4 t4)) t5 c5
  simp only [World.size_alloc] at h5
  exact ⟨h1.alloc _, h2.alloc _, h3.alloc _, h4.alloc _, h5, hb.alloc (by simp; omega) _⟩
theorem Facs.rng {w : World} {b o : Nat} {fs : List Fac} (h : Facs w (some ⟨b, o, none⟩) fs) {i : Nat} (hi : i < fs.length) : w.rangeAt b (o + i * 67) (fcells (fs.getD i f0)) := by
  obtain ⟨b2, o2, e, _, hr⟩ := h.at hi
  injection e with e
  injection e with e1 e2
  subst e1 e2
  exact hr i hi
theorem fac_kind {w : World} {b k : Nat} {f : Fac} (h : w.rangeAt b k (fcells f)) : w.cell? ⟨b, k, none⟩ = some (.int .i64 f.kind) := h 0 _ rfl
theorem fac_rel {w : World} {b k : Nat} {f : Fac} (h : w.rangeAt b k (fcells f)) : w.rangeAt b (k + 2) (rvl f.n f.l) := fun j v hv => by
  have := h (2 + j) v (by unfold fcells; rw [Nat.add_comm 2 j]; simpa using hv)
  rw [← Nat.add_assoc] at this
  exact this


set_option maxRecDepth 8000 in
set_option maxHeartbeats 2000000 in
theorem sjoin_any (t : Bool) (A : Option Addr) (c : Nat) (fs : List Fac) (a b : List Nat) (ha : EW a) (hb : EW b) (w : World) (hT : Tab w) (hF : Facs w A fs) :
    Calls Tryd.prog 14 #[.agg (sv t A fs.length c), .agg (uv a), .agg (uv b)] w fun x w' => x = .returned (.agg (uv (joinE fs a b))) ∧ Below w.heap.size w w' := by
  have z8 := EW.zeros
  have HT := Lib.hid hT; clear hT
  obtain ⟨r0, q0, t0, p0, s0, hb0⟩ := five_rows w (sv t A fs.length c) (uv a) (uv b) (uv (List.replicate 8 0)) (uv (List.replicate 8 0)) 24 40 40 40 40
  have HB0 := Lib.hid hb0; clear hb0
  have HA : Hid (∀ k, k < 8 → (uv a)[k]? = some (.int .u64 ((a.getD k 0 : Nat) : Int))) := fun k hk => ev_at ha k hk
  have HC : Hid (∀ k, k < 8 → (uv b)[k]? = some (.int .u64 ((b.getD k 0 : Nat) : Int))) := fun k hk => ev_at hb k hk
  have HLA := Lib.hid ha.lt
  have HLB := Lib.hid hb.lt
  have HS1 : Hid (∀ W, RowAt W w.heap.size 24 (sv t A fs.length c) → W.cell? ⟨w.heap.size, 0, none⟩ = some (.bool t) ∧ W.cell? ⟨w.heap.size, 1, none⟩ = some (.slice A fs.length c)) := fun W h => shape_cells h
  have HF : Hid (∀ W, Below w.heap.size w W → Facs W A fs) := fun W h => hF.below h
  have hG : joinE fs a b = sdTo (fun i => joinS fs i (a.getD i 0) (b.getD i 0)) 8 8 := (sdTo_end (fun i => joinS fs i (a.getD i 0) (b.getD i 0)) 8).symm
  rw [hG]
  have HEW : Hid (∀ k, EW (sdTo (fun i => joinS fs i (a.getD i 0) (b.getD i 0)) 8 k)) := sdTo_ew fun i => joinS_lt fs i (ha.lt i) (hb.lt i)
  have HZ : Hid (sdTo (fun i => joinS fs i (a.getD i 0) (b.getD i 0)) 8 0 = List.replicate 8 0) := sdTo_zero _ 8
  have HNX : Hid (∀ k, (uv (sdTo (fun i => joinS fs i (a.getD i 0) (b.getD i 0)) 8 k)).setIfInBounds k (.int .u64 ((joinS fs k (a.getD k 0) (b.getD k 0) : Nat) : Int)) = uv (sdTo (fun i => joinS fs i (a.getD i 0) (b.getD i 0)) 8 (k + 1))) := fun k => by rw [uv_set, ← sdTo_set]
  clear ha hb hG hF
  generalize sdTo (fun i => joinS fs i (a.getD i 0) (b.getD i 0)) 8 = G at *
  generalize hn : fs.length = n at *
  have HN := Lib.hid hn; clear hn
  generalize uv a = U at *
  generalize uv b = V2 at *
  generalize sv t A n c = V at *
  rw [← zero_elem] at r0 q0 t0 p0 s0 HB0
  go_enter Tryd.func14, Tryd.ntmps14
  go_upto_region 2 with fail
  rw [zero_elem] at r0 q0 t0 p0 s0 HB0 ⊢
  generalize ((((w.alloc (.cells V 24)).alloc (.cells U 40)).alloc (.cells V2 40)).alloc (.cells (uv (List.replicate 8 0)) 40)).alloc (.cells (uv (List.replicate 8 0)) 40) = w0 at *
  have n1 : w.heap.size ≠ w.heap.size + 4 := by omega
  have n2 : w.heap.size + 1 ≠ w.heap.size + 4 := by omega
  have n3 : w.heap.size + 2 ≠ w.heap.size + 4 := by omega
  have n4 : w.heap.size ≤ w.heap.size + 4 := by omega
  have n5 : w.heap.size + 3 ≠ w.heap.size + 4 := by omega
  have n6 : w.heap.size ≤ w.heap.size + 3 := by omega
  generalize hgE : w.heap.size + 4 = gE at *
  generalize hgR : w.heap.size + 3 = gR at *
  rw [← HZ.out] at s0
  go_wp2_with fail
  go_loopw [8, 9] (fun _ kv wr => ∃ k : Nat, k ≤ 8 ∧ kv = .int .i64 k ∧ RowAt wr w.heap.size 24 V ∧ RowAt wr (w.heap.size + 1) 40 U ∧ RowAt wr (w.heap.size + 2) 40 V2 ∧ RowAt wr gR 40 (uv (List.replicate 8 0)) ∧ RowAt wr gE 40 (uv (G k)) ∧ Hid (Below w.heap.size w wr)) (fun _ kv _ => 8 - (intOf kv).toNat)
  case atStart => exact ⟨0, by omega, rfl, r0, q0, t0, p0, s0, HB0⟩
  case round =>
    clear r0 q0 t0 p0 s0 HB0
    obtain ⟨k, hk, rfl, r1, q1, t1, p1, s1, HB1⟩ := hrel
    by_cases h8 : k < 8
    · have hk8 : (k : Int) < 8 := by omega
      have HXA := Lib.hid (HA.out k h8)
      have HXB := Lib.hid (HC.out k h8)
      have hx := HLA.out k
      have hy := HLB.out k
      have hor := u64_or_nat (a.getD k 0) (b.getD k 0) hx hy
      have hce0 := ev_at (HEW.out k) k h8
      have HCE0 := Lib.hid hce0; clear hce0
      have hnx := HNX.out k
      generalize (G k).getD k 0 = x0 at *
      generalize a.getD k 0 = x at *
      generalize b.getD k 0 = y at *
      obtain ⟨c0, c1⟩ := HS1.out _ r1
      by_cases hlt : k < n
      · have hFk := HF.out _ HB1.out
        obtain ⟨b, o, rfl, _, hr⟩ := hFk.at (k := k) (by rw [HN.out]; exact hlt)
        have hrg := hr k (by rw [HN.out]; exact hlt)
        have hck := fac_kind hrg
        have hl := (hFk.okAt (i := k) (by rw [HN.out]; exact hlt)).rows
        have HRG : Hid (∀ W, Below w.heap.size w W → W.rangeAt b (o + k * 67 + 2) (rvl (fs.getD k f0).n (fs.getD k f0).l)) := fun W h => fac_rel ((HF.out W h).rng (by rw [HN.out]; exact hlt))
        rw [joinS_in (by rw [HN.out]; exact hlt)] at hnx
        clear hr hFk hrg
        by_cases e4 : (fs.getD k f0).kind = 4
        · have hJ : joinW (fs.getD k f0) x y = raiseN (fs.getD k f0).n (fs.getD k f0).l x y := by unfold joinW; rw [if_pos e4]
          have HRS : Hid (∀ W, Tab W → Calls Tryd.prog 24 #[.agg (rv (fs.getD k f0).n (fs.getD k f0).l), .int .u64 (x : Int), .int .u64 (y : Int)] W fun e w' => e = .returned (.int .u64 ((raiseN (fs.getD k f0).n (fs.getD k f0).l x y : Nat) : Int)) ∧ Below W.heap.size W w') := fun W h => hraise_any _ _ hl x y hx hy W h
          rw [hJ] at hnx
          clear hJ
          have HNX2 := Lib.hid hnx; clear hnx hx hy
          generalize raiseN (fs.getD k f0).n (fs.getD k f0).l x y = z at *
          generalize (fs.getD k f0).n = nf at *
          generalize (fs.getD k f0).l = lf at *
          generalize (fs.getD k f0).kind = kd at *
          go_wp2_with fail
          obtain ⟨S, HS, pM, keepS, SI⟩ := ex_mut gE wr
          have PM := Lib.hid pM
          have PR : Hid (∀ w', S w' → RowAt w' w.heap.size 24 V) := fun w' h => r1.mut (pM w' h) n1
          have PQ : Hid (∀ w', S w' → RowAt w' (w.heap.size + 1) 40 U) := fun w' h => q1.mut (pM w' h) n2
          have PT : Hid (∀ w', S w' → RowAt w' (w.heap.size + 2) 40 V2) := fun w' h => t1.mut (pM w' h) n3
          have PP : Hid (∀ w', S w' → RowAt w' gR 40 (uv (List.replicate 8 0))) := fun w' h => p1.mut (pM w' h) n5
          have cS : ∀ w', S w' → w'.cell? ⟨w.heap.size, 1, none⟩ = some (.slice (some ⟨b, o, none⟩) n c) := fun w' h => (HS1.out _ (PR.out w' h)).2
          have cA : ∀ w', S w' → w'.cell? ⟨w.heap.size + 1, k, none⟩ = some (.int .u64 (x : Int)) := fun w' h => ((PQ.out w' h).cell k).trans HXA.out
          have cB : ∀ w', S w' → w'.cell? ⟨w.heap.size + 2, k, none⟩ = some (.int .u64 (y : Int)) := fun w' h => ((PT.out w' h).cell k).trans HXB.out
          have PB : Hid (∀ w', S w' → Below w.heap.size w w') := fun w' h => HB1.out.trans ((pM w' h).below n4 HB1.out.size)
          have s2 := s1.drew
          clear pM r1 q1 t1 p1 s1 HB1
          have pR : ∀ w', S w' → w'.rangeAt b (o + k * 67 + 2) (rvl nf lf) := fun w' h => HRG.out w' (PB.out w' h)
          refine wp_region_ord S [(0, true), (1, true), (2, true), (3, true), (4, true), (5, true), (6, true), (7, true), (8, true), (9, true), (10, true), (11, true), (12, true), (13, false), (14, true), (15, false)] (by kernel_rfl) (by kernel_rfl) rfl (by kernel_rfl) HS.out ?_
          generalize wr.drew = VV at HS s2 ⊢
          iterate 13
            (refine wpOrd_step (o := ?_) ?_ ?_; rotate_left 1; (simp only [List.getElem?_toArray, List.getElem?_cons_succ, List.getElem?_cons_zero]; with_reducible rfl))
            (first
                | (refine wpOrd_skip (by rfl) ?_)
                | (refine wpOrd_take (by rfl) (take_loadRelIn _ rfl _ _ rfl _ _ hl pR) ?_)
                | (refine wpOrd_take (v := ?_) (by rfl) ?_ ?_; rotate_left 1; (intro wx hSx; have hc_0 := cS wx hSx; have hc_1 := cA wx hSx; have hc_2 := cB wx hSx; go_simp; try with_reducible rfl)))
            (try simp only [Act.put, List.setIfInBounds_toArray, List.set_cons_zero, List.set_cons_succ])
          (refine wpOrd_solo (o := ?_) ?_ ?_; rotate_left 1; (simp only [List.getElem?_toArray, List.getElem?_cons_succ, List.getElem?_cons_zero]; with_reducible rfl))
          intro K hK
          go_simp
          go_at_call 24
          refine (HRS.out _ (HT.out.below (PB.out _ HS.out))).mono ?_
          rintro e w4 ⟨rfl, hb⟩; have s4 := s2.below hb s2.lt; clear s2
          have hS := keepS _ _ HS.out hb
          clear HS
          have HS := Lib.hid hS; clear hS hb
          refine hK.out _ _ HS.out ?_
          clear hK K
          (try simp only [Act.put, List.setIfInBounds_toArray, List.set_cons_zero, List.set_cons_succ])
          iterate 1
            (refine wpOrd_step (o := ?_) ?_ ?_; rotate_left 1; (simp only [List.getElem?_toArray, List.getElem?_cons_succ, List.getElem?_cons_zero]; with_reducible rfl))
            (first
                | (refine wpOrd_skip (by rfl) ?_)
                | (refine wpOrd_take (v := ?_) (by rfl) ?_ ?_; rotate_left 1; (intro wx hSx; go_simp; try with_reducible rfl)))
            (try simp only [Act.put, List.setIfInBounds_toArray, List.set_cons_zero, List.set_cons_succ])
          have hce := (s4.cell k).trans HCE0.out
          have hfe := s4.free k
          (refine wpOrd_solo (o := ?_) ?_ ?_; rotate_left 1; (simp only [List.getElem?_toArray, List.getElem?_cons_succ, List.getElem?_cons_zero]; with_reducible rfl))
          intro K hK
          go_simp
          have HM5 := Lib.hid ((PM.out _ HS.out).trans (Mut.of_set w4 gE k (.int .u64 ((z : Nat) : Int))))
          have p5 := s4.put k (.int .u64 ((z : Nat) : Int))
          rw [HNX2.out] at p5
          refine hK.out _ _ (SI.out _ HM5.out) ?_
          clear hK K
          (try simp only [Act.put, List.setIfInBounds_toArray, List.set_cons_zero, List.set_cons_succ])
          refine wpOrd_done ?_
          have HB5 := Lib.hid (PB.out _ (SI.out _ HM5.out))
          have r5 := PR.out _ (SI.out _ HM5.out)
          have q5 := PQ.out _ (SI.out _ HM5.out)
          have t5 := PT.out _ (SI.out _ HM5.out)
          have p6 := PP.out _ (SI.out _ HM5.out)
          clear PR PQ PT PP PM cS cA cB PB HS keepS SI HM5 hce hfe
          clear pR s4
          go_wp2_with fail
          go_roundw
          case rel => exact ⟨k + 1, by omega, by go_num, r5, q5, t5, p6, p5, HB5⟩
          case measure => simp [intOf]; omega
        · have hJ : joinW (fs.getD k f0) x y = x ||| y := by unfold joinW; rw [if_neg e4]
          rw [hJ] at hnx
          clear hJ
          have HNX2 := Lib.hid hnx; clear hnx hx hy HRG hl
          generalize x ||| y = zo at *
          generalize (fs.getD k f0).kind = kd at *
          obtain ⟨S, HS, pM, keepS, SI⟩ := ex_mut gE wr
          have PM := Lib.hid pM
          have PR : Hid (∀ w', S w' → RowAt w' w.heap.size 24 V) := fun w' h => r1.mut (pM w' h) n1
          have PQ : Hid (∀ w', S w' → RowAt w' (w.heap.size + 1) 40 U) := fun w' h => q1.mut (pM w' h) n2
          have PT : Hid (∀ w', S w' → RowAt w' (w.heap.size + 2) 40 V2) := fun w' h => t1.mut (pM w' h) n3
          have PP : Hid (∀ w', S w' → RowAt w' gR 40 (uv (List.replicate 8 0))) := fun w' h => p1.mut (pM w' h) n5
          have cS : ∀ w', S w' → w'.cell? ⟨w.heap.size, 1, none⟩ = some (.slice (some ⟨b, o, none⟩) n c) := fun w' h => (HS1.out _ (PR.out w' h)).2
          have cA : ∀ w', S w' → w'.cell? ⟨w.heap.size + 1, k, none⟩ = some (.int .u64 (x : Int)) := fun w' h => ((PQ.out w' h).cell k).trans HXA.out
          have cB : ∀ w', S w' → w'.cell? ⟨w.heap.size + 2, k, none⟩ = some (.int .u64 (y : Int)) := fun w' h => ((PT.out w' h).cell k).trans HXB.out
          have PB : Hid (∀ w', S w' → Below w.heap.size w w') := fun w' h => HB1.out.trans ((pM w' h).below n4 HB1.out.size)
          have s2 := s1.drew
          clear pM r1 q1 t1 p1 s1 HB1
          have hce := (s2.cell k).trans HCE0.out
          have hfe := s2.free k
          have HCF := Lib.hid (And.intro hce hfe)
          clear hce hfe
          go_wp2_with fail
          refine wp_region_ord S [(0, true), (1, true), (2, true), (3, true), (4, true), (5, true), (6, true), (7, true), (8, true), (9, false)] (by kernel_rfl) (by kernel_rfl) rfl (by kernel_rfl) HS.out ?_
          generalize wr.drew = VV at HS s2 HCF ⊢
          iterate 9
            (refine wpOrd_step (o := ?_) ?_ ?_; rotate_left 1; (simp only [List.getElem?_toArray, List.getElem?_cons_succ, List.getElem?_cons_zero]; with_reducible rfl))
            (first
                | (refine wpOrd_skip (by rfl) ?_)
                | (refine wpOrd_take (v := ?_) (by rfl) ?_ ?_; rotate_left 1; (intro wx hSx; have hc_0 := cA wx hSx; have hc_1 := cB wx hSx; go_simp; try with_reducible rfl)))
            (try simp only [Act.put, List.setIfInBounds_toArray, List.set_cons_zero, List.set_cons_succ])
          obtain ⟨hce, hfe⟩ := HCF.out
          (refine wpOrd_solo (o := ?_) ?_ ?_; rotate_left 1; (simp only [List.getElem?_toArray, List.getElem?_cons_succ, List.getElem?_cons_zero]; with_reducible rfl))
          intro K hK
          go_simp
          have HM5 := Lib.hid ((PM.out _ HS.out).trans (Mut.of_set VV gE k (.int .u64 ((zo : Nat) : Int))))
          have p5 := s2.put k (.int .u64 ((zo : Nat) : Int))
          rw [HNX2.out] at p5
          refine hK.out _ _ (SI.out _ HM5.out) ?_
          clear hK K
          (try simp only [Act.put, List.setIfInBounds_toArray, List.set_cons_zero, List.set_cons_succ])
          refine wpOrd_done ?_
          have HB5 := Lib.hid (PB.out _ (SI.out _ HM5.out))
          have r5 := PR.out _ (SI.out _ HM5.out)
          have q5 := PQ.out _ (SI.out _ HM5.out)
          have t5 := PT.out _ (SI.out _ HM5.out)
          have p6 := PP.out _ (SI.out _ HM5.out)
          clear PR PQ PT PP PM cS cA cB PB HS keepS SI HM5 hce hfe
          clear HCF s2
          go_wp2_with fail
          go_roundw
          case rel => exact ⟨k + 1, by omega, by go_num, r5, q5, t5, p6, p5, HB5⟩
          case measure => simp [intOf]; omega
      · rw [joinS_out (by rw [HN.out]; exact hlt)] at hnx
        have HNX2 := Lib.hid hnx; clear hnx hx hy
        generalize x ||| y = zo at *
        obtain ⟨S, HS, pM, keepS, SI⟩ := ex_mut gE wr
        have PM := Lib.hid pM
        have PR : Hid (∀ w', S w' → RowAt w' w.heap.size 24 V) := fun w' h => r1.mut (pM w' h) n1
        have PQ : Hid (∀ w', S w' → RowAt w' (w.heap.size + 1) 40 U) := fun w' h => q1.mut (pM w' h) n2
        have PT : Hid (∀ w', S w' → RowAt w' (w.heap.size + 2) 40 V2) := fun w' h => t1.mut (pM w' h) n3
        have PP : Hid (∀ w', S w' → RowAt w' gR 40 (uv (List.replicate 8 0))) := fun w' h => p1.mut (pM w' h) n5
        have cS : ∀ w', S w' → w'.cell? ⟨w.heap.size, 1, none⟩ = some (.slice A n c) := fun w' h => (HS1.out _ (PR.out w' h)).2
        have cA : ∀ w', S w' → w'.cell? ⟨w.heap.size + 1, k, none⟩ = some (.int .u64 (x : Int)) := fun w' h => ((PQ.out w' h).cell k).trans HXA.out
        have cB : ∀ w', S w' → w'.cell? ⟨w.heap.size + 2, k, none⟩ = some (.int .u64 (y : Int)) := fun w' h => ((PT.out w' h).cell k).trans HXB.out
        have PB : Hid (∀ w', S w' → Below w.heap.size w w') := fun w' h => HB1.out.trans ((pM w' h).below n4 HB1.out.size)
        have s2 := s1.drew
        clear pM r1 q1 t1 p1 s1 HB1
        have hce := (s2.cell k).trans HCE0.out
        have hfe := s2.free k
        have HCF := Lib.hid (And.intro hce hfe)
        clear hce hfe
        go_wp2_with fail
        refine wp_region_ord S [(0, true), (1, true), (2, true), (3, true), (4, true), (5, true), (6, true), (7, true), (8, true), (9, false)] (by kernel_rfl) (by kernel_rfl) rfl (by kernel_rfl) HS.out ?_
        generalize wr.drew = VV at HS s2 HCF ⊢
        iterate 9
          (refine wpOrd_step (o := ?_) ?_ ?_; rotate_left 1; (simp only [List.getElem?_toArray, List.getElem?_cons_succ, List.getElem?_cons_zero]; with_reducible rfl))
          (first
              | (refine wpOrd_skip (by rfl) ?_)
              | (refine wpOrd_take (v := ?_) (by rfl) ?_ ?_; rotate_left 1; (intro wx hSx; have hc_0 := cA wx hSx; have hc_1 := cB wx hSx; go_simp; try with_reducible rfl)))
          (try simp only [Act.put, List.setIfInBounds_toArray, List.set_cons_zero, List.set_cons_succ])
        obtain ⟨hce, hfe⟩ := HCF.out
        (refine wpOrd_solo (o := ?_) ?_ ?_; rotate_left 1; (simp only [List.getElem?_toArray, List.getElem?_cons_succ, List.getElem?_cons_zero]; with_reducible rfl))
        intro K hK
        go_simp
        have HM5 := Lib.hid ((PM.out _ HS.out).trans (Mut.of_set VV gE k (.int .u64 ((zo : Nat) : Int))))
        have p5 := s2.put k (.int .u64 ((zo : Nat) : Int))
        rw [HNX2.out] at p5
        refine hK.out _ _ (SI.out _ HM5.out) ?_
        clear hK K
        (try simp only [Act.put, List.setIfInBounds_toArray, List.set_cons_zero, List.set_cons_succ])
        refine wpOrd_done ?_
        have HB5 := Lib.hid (PB.out _ (SI.out _ HM5.out))
        have r5 := PR.out _ (SI.out _ HM5.out)
        have q5 := PQ.out _ (SI.out _ HM5.out)
        have t5 := PT.out _ (SI.out _ HM5.out)
        have p6 := PP.out _ (SI.out _ HM5.out)
        clear PR PQ PT PP PM cS cA cB PB HS keepS SI HM5 hce hfe
        clear HCF s2
        go_wp2_with fail
        go_roundw
        case rel => exact ⟨k + 1, by omega, by go_num, r5, q5, t5, p6, p5, HB5⟩
        case measure => simp [intOf]; omega
    · have e1 : k = 8 := by omega
      subst e1
      have hew := HEW.out 8
      go_wp2_with (first | (refine wpList_loadElem (by rfl) _ rfl gE rfl _ hew s1 ?_) | (refine wpList_storeElem (by rfl) _ _ rfl gR rfl _ hew rfl _ z8 p1 ?_; intro w7 q7 he))
      exact bodyPost_ret (ret_elem rfl _ _ gR _ hew rfl q7) rfl ⟨rfl, HB1.out.trans (he.below n6)⟩

/-! Height. -/
theorem gHeight_le (n : Int) (l : List Nat) : gHeight n l ≤ 64 := by
  unfold gHeight
  split
  · rename_i h
    obtain ⟨p, h1, h2, _, hp, _⟩ := right_has h
    have h3 := nCls_le (pts n) (clo (pts n) (bt l))
    have h4 : nCls (pts n) (clo (pts n) (bt l)) ≤ 8 := by omega
    exact Nat.mul_le_mul h4 h4
  · omega
theorem htW_le {f : Fac} (h : facB f = true) : htW f ≤ 64 := by
  have := facB_len h
  unfold htW
  split
  · omega
  · split
    · omega
    · split
      · exact gHeight_le _ _
      · exact Nat.le_trans (hg_le _ _) (pts_le _)
theorem heightE_no {t : Bool} {fs : List Fac} (h : rightS t fs = false) : heightE t fs = 0 := by unfold heightE; rw [h]; rfl
/-- The heights so far. -/
def htTo (fs : List Fac) (k : Nat) : Nat := ((List.range k).map fun i => htW (fs.getD i f0)).sum
theorem htTo_succ (fs : List Fac) (k : Nat) : htTo fs (k + 1) = htTo fs k + htW (fs.getD k f0) := by
  unfold htTo
  rw [List.range_succ, List.map_append, List.sum_append]
  simp
theorem htTo_le {fs : List Fac} {n : Nat} (h : ∀ k, k < n → htW (fs.getD k f0) ≤ 64) : ∀ k, k ≤ n → htTo fs k ≤ 64 * k
  | 0, _ => by simp [htTo]
  | k + 1, hk => by
    have h1 := htTo_le h k (by omega)
    have h2 := h k (by omega)
    rw [htTo_succ]
    omega
theorem heightE_yes {t : Bool} {fs : List Fac} (h : rightS t fs = true) : heightE t fs = htTo fs fs.length := by
  unfold heightE
  rw [h, if_pos rfl]; rfl

set_option maxRecDepth 8000 in
set_option maxHeartbeats 2000000 in
theorem sheightE_any (t : Bool) (A : Option Addr) (c : Nat) (fs : List Fac) (w : World) (hT : Tab w) (hF : Facs w A fs) :
    Calls Tryd.prog 15 #[.agg (sv t A fs.length c)] w fun x w' => x = .returned (.int .i64 ((heightE t fs : Nat) : Int)) ∧ Below w.heap.size w w' := by
  have HT := Lib.hid hT; clear hT
  have r0 := RowAt.new w 24 (sv t A fs.length c)
  have HB0 : Hid (Below w.heap.size w (w.alloc (.cells (sv t A fs.length c) 24))) := (Below.refl _ _).alloc (Nat.le_refl _) _
  have HRI : Hid (∀ W, Below w.heap.size w W → Calls Tryd.prog 10 #[.agg (sv t A fs.length c)] W fun x w' => x = .returned (.bool (rightS t fs)) ∧ Below W.heap.size W w') := fun W h => sright_any t A c fs W (HT.out.below h) (hF.below h)
  have HS : Hid (∀ W, RowAt W w.heap.size 24 (sv t A fs.length c) → W.cell? ⟨w.heap.size, 0, none⟩ = some (.bool t) ∧ W.cell? ⟨w.heap.size, 1, none⟩ = some (.slice A fs.length c)) := fun W h => shape_cells h
  have HF : Hid (∀ W, Below w.heap.size w W → Facs W A fs) := fun W h => hF.below h
  clear hF
  cases hr : rightS t fs with
  | false =>
    rw [heightE_no hr]
    rw [hr] at HRI
    clear hr HF
    generalize fs.length = n at *
    go_enter Tryd.func15, Tryd.ntmps15
    go_wp2_with (refine wpList_loadShape (by rfl) _ rfl w.heap.size rfl t A n c r0 ?_)
    refine (HRI.out _ HB0.out).mono ?_
    rintro e w1 ⟨rfl, hb⟩
    have HB1 := Lib.hid (HB0.out.trans (hb.mono HB0.out.size))
    go_wp2_with fail
    go_ret
    exact ⟨rfl, HB1.out⟩
  | true =>
    rw [heightE_yes hr]
    have hlen := right_len hr
    have HV : Hid (∀ k, k < fs.length → facB (fs.getD k f0) = true) := fun k hk => right_fac hr hk
    have HLE : Hid (∀ k, k ≤ fs.length → htTo fs k ≤ 64 * k) := htTo_le fun k hk => htW_le (right_fac hr hk)
    have HSU : Hid (∀ k, htTo fs (k + 1) = htTo fs k + htW (fs.getD k f0)) := htTo_succ fs
    have HZ : Hid (htTo fs 0 = 0) := rfl
    rw [hr] at HRI
    clear hr
    generalize htTo fs = G at *
    generalize hn : fs.length = n at *
    have HN := Lib.hid hn; clear hn
    have hlen2 := hlen.2
    clear hlen
    go_enter Tryd.func15, Tryd.ntmps15
    go_wp2_with (refine wpList_loadShape (by rfl) _ rfl w.heap.size rfl t A n c r0 ?_)
    refine (HRI.out _ HB0.out).mono ?_
    rintro e w1 ⟨rfl, hb⟩
    have r1 := r0.below hb r0.lt
    have HB1 := Lib.hid (HB0.out.trans (hb.mono HB0.out.size))
    clear hb r0 HB0
    obtain ⟨c0, c1⟩ := HS.out _ r1
    go_wp2_with fail
    clear c0 c1 r1 HRI HS
    go_loopw [3, 5, 12] (fun sv _ kv wr => ∃ k : Nat, k ≤ n ∧ kv = .int .i64 k ∧ sv = .int .i64 ((G k : Nat) : Int) ∧ Hid (Below w.heap.size w wr)) (fun _ _ kv _ => n - (intOf kv).toNat)
    case atStart => exact ⟨0, by omega, rfl, by rw [HZ.out]; rfl, HB1⟩
    case round =>
      clear HB1
      obtain ⟨k, hk, rfl, rfl, HB1⟩ := hrel
      by_cases hlt : k < n
      · have hFk := HF.out _ HB1.out
        obtain ⟨b, o, rfl, _, hr⟩ := hFk.at (k := k) (by rw [HN.out]; exact hlt)
        have hrg := hr k (by rw [HN.out]; exact hlt)
        have hl := (hFk.okAt (i := k) (by rw [HN.out]; exact hlt)).rows
        have HOK : Hid (∀ W, Below w.heap.size w W → FacOk W (fs.getD k f0)) := fun W h => (HF.out W h).okAt (by rw [HN.out]; exact hlt)
        clear hr hFk
        have hv := HV.out k hlt
        have h1 := HLE.out (k + 1) (by omega)
        have h2 := HSU.out k
        have HWF : Hid (∀ W, Below w.heap.size w W → Calls Tryd.prog 25 #[.agg (fv (fs.getD k f0))] W fun x w' => x = .returned (.int .i64 ((htW (fs.getD k f0) : Nat) : Int)) ∧ Below W.heap.size W w') := fun W h => sheight_any _ hv W (HT.out.below h) (HOK.out W h)
        clear hv HOK
        generalize htW (fs.getD k f0) = x at *
        generalize fs.getD k f0 = f at *
        have H2 := Lib.hid h2
        have h3 : G k + x ≤ 1024 := by omega
        clear h1 h2
        generalize G k = y at *
        go_wp2_with (first | (refine wpList_loadFacIn (by rfl) _ rfl b (o + k * 67) rfl f hl hrg ?_) | (refine wpList_storeFac (by rfl) _ _ rfl wr.heap.size rfl f hl rfl _ zero_fac_size (RowAt.new _ _ _) ?_; intro w2 r2 he; have HB2 := Lib.hid (below_made HB1.out HB1.out.size he); clear he HB1) | (refine wpList_loadFac (by rfl) _ rfl wr.heap.size rfl f hl r2 ?_))
        refine (HWF.out _ HB2.out).mono ?_
        rintro e w3 ⟨rfl, hb⟩
        have HB3 := Lib.hid (HB2.out.trans (hb.mono HB2.out.size))
        clear hb r2 HB2
        go_wp2_with fail
        go_roundw
        case rel => exact ⟨k + 1, by omega, by go_num, int_eq (by rw [H2.out]; omega), HB3⟩
        case measure => simp [intOf]; omega
      · have e1 : k = n := by omega
        subst e1
        go_wp2_with fail
        go_ret
        exact ⟨rfl, HB1.out⟩
end Go.Proofs.YtpgkcddhpeoiiaaDoor
