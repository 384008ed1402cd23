/-
  The document's Leq, Meet and Join of shapes. Conditions: a slice of factors in memory, eight words below 2^64.
-/
import Derived.Test.YtpgkcddhpeoiiaaGreatDoorShapeF
import Derived.Test.YtpgkcddhpeoiiaaGreatDoorHasseQ
import Derived.Test.YtpgkcddhpeoiiaaGreatDoorGridQ
namespace Go.Proofs.YtpgkcddhpeoiiaaGreatDoor
open Go.RowKit RM

theorem set_at_self {l : List Nat} (h : EW l) (k x : Nat) (hk : k < 8) : (uv (l.set k x))[k]? = some (.int .u64 (x : Int)) := by
  have h1 := h.1
  simp [uv, h1, hk]


set_option maxRecDepth 8000 in
set_option maxHeartbeats 1000000 in
theorem qleq_any (a b : List Nat) (ha : EW a) (hb : EW b) (w : World) :
    Calls Tryz.prog 20 #[.agg (uv a), .agg (uv b)] w fun x w' => x = .returned (.bool (leqE a b)) ∧ Below w.heap.size w w' := by
  have r0 : RowAt ((w.alloc (.cells (uv a) 30)).alloc (.cells (uv b) 30)) w.heap.size 30 (uv a) := (RowAt.new w _ _).alloc _
  have q0 : RowAt ((w.alloc (.cells (uv a) 30)).alloc (.cells (uv b) 30)) (w.heap.size + 1) 30 (uv b) := by
    have := RowAt.new (w.alloc (.cells (uv a) 30)) 30 (uv b)
    simpa using this
  have HB0 : Hid (Below w.heap.size w ((w.alloc (.cells (uv a) 30)).alloc (.cells (uv b) 30))) := ((Below.refl _ _).alloc (Nat.le_refl _) _).alloc (by simp) _
  have HBAD : Hid (∀ k, k < 8 → MM.subN (a.getD k 0) (b.getD k 0) = false → leqE a b = false) := fun k hk h => leq_bad hk h
  have HEND : Hid ((∀ k, k < 8 → MM.subN (a.getD k 0) (b.getD k 0) = true) → leqE a b = true) := fun h => leq_iff.2 h
  have HA : Hid (∀ k, k < 8 → (uv a)[k]? = some (.int .u64 ((a.getD k 0 : Nat) : Int))) := fun k hk => ev_at ha k hk
  have HC : Hid (∀ k, k < 8 → (uv b)[k]? = some (.int .u64 ((b.getD k 0 : Nat) : Int))) := fun k hk => ev_at hb k hk
  have HLA := Lib.hid ha.lt
  have HLB := Lib.hid hb.lt
  clear ha hb
  generalize leqE a b = res at *
  generalize uv a = U at *
  generalize uv b = V2 at *
  go_enter Tryz.func20, Tryz.ntmps20
  go_upto_region 1 with fail
  generalize (w.alloc (.cells U 30)).alloc (.cells V2 30) = w0 at *
  go_wp2_with fail
  go_loopw [5] (fun kv wr => ∃ k : Nat, k ≤ 8 ∧ kv = .int .i64 k ∧ RowAt wr w.heap.size 30 U ∧ RowAt wr (w.heap.size + 1) 30 V2 ∧ Hid (∀ j, j < k → MM.subN (a.getD j 0) (b.getD j 0) = true) ∧ Hid (Below w.heap.size w wr)) (fun kv _ => 8 - (intOf kv).toNat)
  case atStart => exact ⟨0, by omega, rfl, r0, q0, fun j hj => by omega, HB0⟩
  case round =>
    clear r0 q0 HB0
    obtain ⟨k, hk, rfl, r1, q1, HK, HB1⟩ := hrel
    by_cases hlt : k < 8
    · have hk8 : (k : Int) < 8 := by omega
      have HR := Lib.hid (HBAD.out k hlt)
      have HKN : Hid (MM.subN (a.getD k 0) (b.getD k 0) = true → ∀ j, j < k + 1 → MM.subN (a.getD j 0) (b.getD j 0) = true) := fun h j hj => by
        by_cases e : j = k
        · subst e; exact h
        · exact HK.out j (by omega)
      have hxa := HA.out k hlt
      have hxb := HC.out k hlt
      have h1 := HLA.out k
      have h2 := HLB.out k
      have HSB : Hid (∀ W, Calls Tryz.prog 46 #[.int .u64 ((a.getD k 0 : Nat) : Int), .int .u64 ((b.getD k 0 : Nat) : Int)] W fun x w' => x = .returned (.bool (MM.subN (a.getD k 0) (b.getD k 0))) ∧ Below W.heap.size W w') := fun W => refSub_any _ _ h1 h2 W
      clear h1 h2
      generalize MM.subN (a.getD k 0) (b.getD k 0) = bw at *
      generalize a.getD k 0 = x at *
      generalize b.getD k 0 = y at *
      obtain ⟨S, HS, pW, keepS⟩ := ex_gen wr
      have PR : Hid (∀ w', S w' → RowAt w' w.heap.size 30 U) := fun w' h => r1.below (pW w' h) r1.lt
      have PQ : Hid (∀ w', S w' → RowAt w' (w.heap.size + 1) 30 V2) := fun w' h => q1.below (pW w' h) q1.lt
      have cA : ∀ w', S w' → w'.cell? ⟨w.heap.size, k, none⟩ = some (.int .u64 (x : Int)) := fun w' h => ((PR.out w' h).cell k).trans hxa
      have cB : ∀ w', S w' → w'.cell? ⟨w.heap.size + 1, k, none⟩ = some (.int .u64 (y : Int)) := fun w' h => ((PQ.out w' h).cell k).trans hxb
      have PB : Hid (∀ w', S w' → Below w.heap.size w w') := fun w' h => HB1.out.trans ((pW w' h).mono HB1.out.size)
      clear pW r1 q1 HB1 hxa hxb
      go_wp2_with fail
      refine wp_region_ord S [(0, true), (1, true), (2, true), (3, true), (4, true), (5, true), (6, false), (7, true)] (by kernel_rfl) (by kernel_rfl) rfl (by kernel_rfl) HS.out ?_
      generalize wr.drew = V at HS ⊢
      iterate 6
        (refine wpOrd_step (o := ?_) ?_ ?_; rotate_left 1; (simp only [List.getElem?_toArray, List.getElem?_cons_succ, List.getElem?_cons_zero]; with_reducible rfl))
        (first
            | (refine wpOrd_skip (by rfl) ?_)
            | (refine wpOrd_take (v := ?_) (by rfl) ?_ ?_; rotate_left 1; (intro wx hSx; have hc_0 := cA wx hSx; have hc_1 := cB wx hSx; go_simp; try with_reducible rfl)))
        (try simp only [Act.put, List.setIfInBounds_toArray, List.set_cons_zero, List.set_cons_succ])
      (refine wpOrd_solo (o := ?_) ?_ ?_; rotate_left 1; (simp only [List.getElem?_toArray, List.getElem?_cons_succ, List.getElem?_cons_zero]; with_reducible rfl))
      intro K hK
      go_simp
      go_at_call 46
      refine (HSB.out _).mono ?_
      rintro e w5 ⟨rfl, hb⟩
      have hS := keepS _ _ HS.out hb
      clear HS
      have HS := Lib.hid hS; clear hS hb
      refine hK.out _ _ HS.out ?_
      clear hK K
      (try simp only [Act.put, List.setIfInBounds_toArray, List.set_cons_zero, List.set_cons_succ])
      iterate 1
        (refine wpOrd_step (o := ?_) ?_ ?_; rotate_left 1; (simp only [List.getElem?_toArray, List.getElem?_cons_succ, List.getElem?_cons_zero]; with_reducible rfl))
        (first
            | (refine wpOrd_skip (by rfl) ?_)
            | (refine wpOrd_take (v := ?_) (by rfl) ?_ ?_; rotate_left 1; (intro wx hSx; go_simp; try with_reducible rfl)))
        (try simp only [Act.put, List.setIfInBounds_toArray, List.set_cons_zero, List.set_cons_succ])
      refine wpOrd_done ?_
      have HB5 := Lib.hid (PB.out _ HS.out)
      have r5 := PR.out _ HS.out
      have q5 := PQ.out _ HS.out
      clear PR PQ cA cB PB HS keepS
      cases bw with
      | false =>
        have HR2 := Lib.hid (HR.out rfl)
        clear HR HKN
        go_wp2_with fail
        go_ret
        exact ⟨ret_eq (bool_eq HR2.out.symm), HB5.out⟩
      | true =>
        have HKN2 := Lib.hid (HKN.out rfl)
        clear HR HKN
        go_wp2_with fail
        go_roundw
        case rel => exact ⟨k + 1, by omega, by go_num, r5, q5, HKN2, HB5⟩
        case measure => simp [intOf]; omega
    · have e1 : k = 8 := by omega
      subst e1
      have HE2 := Lib.hid (HEND.out HK.out)
      go_wp2_with fail
      go_ret
      exact ⟨ret_eq (bool_eq HE2.out.symm), HB1.out⟩

set_option maxRecDepth 8000 in
set_option maxHeartbeats 1000000 in
theorem qmeet8_any (a b : List Nat) (ha : EW a) (hb : EW b) (w : World) :
    Calls Tryz.prog 24 #[.agg (uv a), .agg (uv b)] w fun x w' => x = .returned (.agg (uv (meetE a b))) ∧ Below w.heap.size w w' := by
  have z8 := EW.zeros
  obtain ⟨r0, q0, p0, s0, hb0⟩ := four_rows w (uv a) (uv b) (uv (List.replicate 8 0)) (uv (List.replicate 8 0)) 30 30 30 30
  have HB0 := Lib.hid hb0; clear hb0
  have HA : Hid (∀ k, k < 8 → (uv a)[k]? = some (.int .u64 ((a.getD k 0 : Nat) : Int))) := fun k hk => ev_at ha k hk
  have HC : Hid (∀ k, k < 8 → (uv b)[k]? = some (.int .u64 ((b.getD k 0 : Nat) : Int))) := fun k hk => ev_at hb k hk
  have HLA := Lib.hid ha.lt
  have HLB := Lib.hid hb.lt
  have hG : meetE a b = sdTo (fun i => a.getD i 0 &&& b.getD i 0) 8 8 := (sdTo_end (fun i => a.getD i 0 &&& b.getD i 0) 8).symm
  rw [hG]
  have HEW : Hid (∀ k, EW (sdTo (fun i => a.getD i 0 &&& b.getD i 0) 8 k)) := sdTo_ew fun i => and_lt _ (ha.lt i)
  have HZ : Hid (sdTo (fun i => a.getD i 0 &&& b.getD i 0) 8 0 = List.replicate 8 0) := sdTo_zero _ 8
  have HNX : Hid (∀ k, (uv (sdTo (fun i => a.getD i 0 &&& b.getD i 0) 8 k)).setIfInBounds k (.int .u64 ((a.getD k 0 &&& b.getD k 0 : Nat) : Int)) = uv (sdTo (fun i => a.getD i 0 &&& b.getD i 0) 8 (k + 1))) := fun k => by rw [uv_set, ← sdTo_set]
  clear ha hb hG
  generalize sdTo (fun i => a.getD i 0 &&& b.getD i 0) 8 = G at *
  generalize uv a = U at *
  generalize uv b = V2 at *
  rw [← zero_elem] at r0 q0 p0 s0 HB0
  go_enter Tryz.func24, Tryz.ntmps24
  go_upto_region 2 with fail
  rw [zero_elem] at r0 q0 p0 s0 HB0 ⊢
  generalize (((w.alloc (.cells U 30)).alloc (.cells V2 30)).alloc (.cells (uv (List.replicate 8 0)) 30)).alloc (.cells (uv (List.replicate 8 0)) 30) = w0 at *
  have n1 : w.heap.size ≠ w.heap.size + 3 := by omega
  have n2 : w.heap.size + 1 ≠ w.heap.size + 3 := by omega
  have n3 : w.heap.size + 2 ≠ w.heap.size + 3 := by omega
  have n4 : w.heap.size ≤ w.heap.size + 3 := by omega
  have n5 : w.heap.size ≤ w.heap.size + 2 := by omega
  rw [← HZ.out] at s0
  generalize hgE : w.heap.size + 3 = gE at *
  generalize hgR : w.heap.size + 2 = gR at *
  rw [← HZ.out] at p0
  rw [HZ.out] at p0
  go_wp2_with fail
  go_loopw [6] (fun kv wr => ∃ k : Nat, k ≤ 8 ∧ kv = .int .i64 k ∧ RowAt wr w.heap.size 30 U ∧ RowAt wr (w.heap.size + 1) 30 V2 ∧ RowAt wr gR 30 (uv (List.replicate 8 0)) ∧ RowAt wr gE 30 (uv (G k)) ∧ Hid (Below w.heap.size w wr)) (fun kv _ => 8 - (intOf kv).toNat)
  case atStart => exact ⟨0, by omega, rfl, r0, q0, p0, s0, HB0⟩
  case round =>
    clear r0 q0 p0 s0 HB0
    obtain ⟨k, hk, rfl, r1, q1, p1, s1, HB1⟩ := hrel
    by_cases hlt : k < 8
    · have hk8 : (k : Int) < 8 := by omega
      have hxa := HA.out k hlt
      have hxb := HC.out k hlt
      have hor := u64_and_nat (a.getD k 0) (b.getD k 0) (HLA.out k) (HLB.out k)
      have hce0 := ev_at (HEW.out k) k hlt
      have hnx := HNX.out k
      generalize (G k).getD k 0 = x0 at *
      generalize a.getD k 0 &&& b.getD k 0 = z at *
      generalize a.getD k 0 = x at *
      generalize b.getD k 0 = y at *
      have HNX2 := Lib.hid hnx; clear hnx
      obtain ⟨S, HS, pM, keepS, SI⟩ := ex_mut gE wr
      have PM := Lib.hid pM
      have PR : Hid (∀ w', S w' → RowAt w' w.heap.size 30 U) := fun w' h => r1.mut (pM w' h) n1
      have PQ : Hid (∀ w', S w' → RowAt w' (w.heap.size + 1) 30 V2) := fun w' h => q1.mut (pM w' h) n2
      have PP : Hid (∀ w', S w' → RowAt w' gR 30 (uv (List.replicate 8 0))) := fun w' h => p1.mut (pM w' h) n3
      have cA : ∀ w', S w' → w'.cell? ⟨w.heap.size, k, none⟩ = some (.int .u64 (x : Int)) := fun w' h => ((PR.out w' h).cell k).trans hxa
      have cB : ∀ w', S w' → w'.cell? ⟨w.heap.size + 1, k, none⟩ = some (.int .u64 (y : Int)) := fun w' h => ((PQ.out w' h).cell k).trans hxb
      have PB : Hid (∀ w', S w' → Below w.heap.size w w') := fun w' h => HB1.out.trans ((pM w' h).below n4 HB1.out.size)
      have s2 := s1.drew
      have hce := (s2.cell k).trans hce0
      have hfe := s2.free k
      have HCF := Lib.hid (And.intro hce hfe)
      clear pM r1 q1 p1 s1 HB1 hxa hxb hce0 hce hfe
      go_wp2_with fail
      refine wp_region_ord S [(0, true), (1, true), (2, true), (3, true), (4, true), (5, true), (6, true), (7, true), (8, true), (9, false)] (by kernel_rfl) (by kernel_rfl) rfl (by kernel_rfl) HS.out ?_
      generalize wr.drew = V at HS s2 HCF ⊢
      iterate 9
        (refine wpOrd_step (o := ?_) ?_ ?_; rotate_left 1; (simp only [List.getElem?_toArray, List.getElem?_cons_succ, List.getElem?_cons_zero]; with_reducible rfl))
        (first
            | (refine wpOrd_skip (by rfl) ?_)
            | (refine wpOrd_take (v := ?_) (by rfl) ?_ ?_; rotate_left 1; (intro wx hSx; have hc_0 := cA wx hSx; have hc_1 := cB wx hSx; go_simp; try with_reducible rfl)))
        (try simp only [Act.put, List.setIfInBounds_toArray, List.set_cons_zero, List.set_cons_succ])
      obtain ⟨hce, hfe⟩ := HCF.out
      (refine wpOrd_solo (o := ?_) ?_ ?_; rotate_left 1; (simp only [List.getElem?_toArray, List.getElem?_cons_succ, List.getElem?_cons_zero]; with_reducible rfl))
      intro K hK
      go_simp
      have HM5 := Lib.hid ((PM.out _ HS.out).trans (Mut.of_set V gE k (.int .u64 ((z : Nat) : Int))))
      have p5 := s2.put k (.int .u64 ((z : Nat) : Int))
      rw [HNX2.out] at p5
      refine hK.out _ _ (SI.out _ HM5.out) ?_
      clear hK K
      (try simp only [Act.put, List.setIfInBounds_toArray, List.set_cons_zero, List.set_cons_succ])
      refine wpOrd_done ?_
      have HB5 := Lib.hid (PB.out _ (SI.out _ HM5.out))
      have r5 := PR.out _ (SI.out _ HM5.out)
      have q5 := PQ.out _ (SI.out _ HM5.out)
      have p6 := PP.out _ (SI.out _ HM5.out)
      clear PR PQ PP PM cA cB PB HS keepS SI HM5 hce hfe HCF hor s2
      go_wp2_with fail
      go_roundw
      case rel => exact ⟨k + 1, by omega, by go_num, r5, q5, p6, p5, HB5⟩
      case measure => simp [intOf]; omega
    · have e1 : k = 8 := by omega
      subst e1
      have hew := HEW.out 8
      go_wp2_with (first | (refine wpList_loadElem (by rfl) _ rfl gE rfl _ hew s1 ?_) | (refine wpList_storeElem (by rfl) _ _ rfl gR rfl _ hew rfl _ z8 p1 ?_; intro w7 q7 he))
      exact bodyPost_ret (ret_elem rfl _ _ gR _ hew rfl q7) rfl ⟨rfl, HB1.out.trans (he.below n5)⟩

set_option maxRecDepth 8000 in
set_option maxHeartbeats 2000000 in
theorem qjoin8_any (t : Bool) (A : Option Addr) (c : Nat) (fs : List Fac) (a b : List Nat) (ha : EW a) (hb : EW b) (w : World) (hF : Facs w A fs) :
    Calls Tryz.prog 22 #[.agg (sv t A fs.length c), .agg (uv a), .agg (uv b)] w fun x w' => x = .returned (.agg (uv (joinE fs a b))) ∧ Below w.heap.size w w' := by
  have z8 := EW.zeros
  have HT : Hid True := trivial
  obtain ⟨r0, q0, t0, p0, s0, hb0⟩ := five_rows w (sv t A fs.length c) (uv a) (uv b) (uv (List.replicate 8 0)) (uv (List.replicate 8 0)) 24 30 30 30 30
  have HB0 := Lib.hid hb0; clear hb0
  have HA : Hid (∀ k, k < 8 → (uv a)[k]? = some (.int .u64 ((a.getD k 0 : Nat) : Int))) := fun k hk => ev_at ha k hk
  have HC : Hid (∀ k, k < 8 → (uv b)[k]? = some (.int .u64 ((b.getD k 0 : Nat) : Int))) := fun k hk => ev_at hb k hk
  have HLA := Lib.hid ha.lt
  have HLB := Lib.hid hb.lt
  have HS1 : Hid (∀ W, RowAt W w.heap.size 24 (sv t A fs.length c) → W.cell? ⟨w.heap.size, 0, none⟩ = some (.bool t) ∧ W.cell? ⟨w.heap.size, 1, none⟩ = some (.slice A fs.length c)) := fun W h => shape_cells h
  have HF : Hid (∀ W, Below w.heap.size w W → Facs W A fs) := fun W h => hF.below h
  have hG : joinE fs a b = sdTo (fun i => joinS fs i (a.getD i 0) (b.getD i 0)) 8 8 := (sdTo_end (fun i => joinS fs i (a.getD i 0) (b.getD i 0)) 8).symm
  rw [hG]
  have HEW : Hid (∀ k, EW (sdTo (fun i => joinS fs i (a.getD i 0) (b.getD i 0)) 8 k)) := sdTo_ew fun i => joinS_lt fs i (ha.lt i) (hb.lt i)
  have HZ : Hid (sdTo (fun i => joinS fs i (a.getD i 0) (b.getD i 0)) 8 0 = List.replicate 8 0) := sdTo_zero _ 8
  have HNX : Hid (∀ k, (uv (sdTo (fun i => joinS fs i (a.getD i 0) (b.getD i 0)) 8 k)).setIfInBounds k (.int .u64 ((joinS fs k (a.getD k 0) (b.getD k 0) : Nat) : Int)) = uv (sdTo (fun i => joinS fs i (a.getD i 0) (b.getD i 0)) 8 (k + 1))) := fun k => by rw [uv_set, ← sdTo_set]
  clear ha hb hG hF
  generalize sdTo (fun i => joinS fs i (a.getD i 0) (b.getD i 0)) 8 = G at *
  generalize hn : fs.length = n at *
  have HN := Lib.hid hn; clear hn
  generalize uv a = U at *
  generalize uv b = V2 at *
  generalize sv t A n c = V at *
  rw [← zero_elem] at r0 q0 t0 p0 s0 HB0
  go_enter Tryz.func22, Tryz.ntmps22
  go_upto_region 2 with fail
  rw [zero_elem] at r0 q0 t0 p0 s0 HB0 ⊢
  generalize ((((w.alloc (.cells V 24)).alloc (.cells U 30)).alloc (.cells V2 30)).alloc (.cells (uv (List.replicate 8 0)) 30)).alloc (.cells (uv (List.replicate 8 0)) 30) = w0 at *
  have n1 : w.heap.size ≠ w.heap.size + 4 := by omega
  have n2 : w.heap.size + 1 ≠ w.heap.size + 4 := by omega
  have n3 : w.heap.size + 2 ≠ w.heap.size + 4 := by omega
  have n4 : w.heap.size ≤ w.heap.size + 4 := by omega
  have n5 : w.heap.size + 3 ≠ w.heap.size + 4 := by omega
  have n6 : w.heap.size ≤ w.heap.size + 3 := by omega
  generalize hgE : w.heap.size + 4 = gE at *
  generalize hgR : w.heap.size + 3 = gR at *
  rw [← HZ.out] at s0
  go_wp2_with fail
  go_loopw [8] (fun kv wr => ∃ k : Nat, k ≤ 8 ∧ kv = .int .i64 k ∧ RowAt wr w.heap.size 24 V ∧ RowAt wr (w.heap.size + 1) 30 U ∧ RowAt wr (w.heap.size + 2) 30 V2 ∧ RowAt wr gR 30 (uv (List.replicate 8 0)) ∧ RowAt wr gE 30 (uv (G k)) ∧ Hid (Below w.heap.size w wr)) (fun kv _ => 8 - (intOf kv).toNat)
  case atStart => exact ⟨0, by omega, rfl, r0, q0, t0, p0, s0, HB0⟩
  case round =>
    clear r0 q0 t0 p0 s0 HB0
    obtain ⟨k, hk, rfl, r1, q1, t1, p1, s1, HB1⟩ := hrel
    by_cases h8 : k < 8
    · have hk8 : (k : Int) < 8 := by omega
      have HXA := Lib.hid (HA.out k h8)
      have HXB := Lib.hid (HC.out k h8)
      have hx := HLA.out k
      have hy := HLB.out k
      have hor := u64_or_nat (a.getD k 0) (b.getD k 0) hx hy
      have hce0 := ev_at (HEW.out k) k h8
      have HCE0 := Lib.hid hce0; clear hce0
      have hnx := HNX.out k
      generalize (G k).getD k 0 = x0 at *
      generalize a.getD k 0 = x at *
      generalize b.getD k 0 = y at *
      obtain ⟨c0, c1⟩ := HS1.out _ r1
      by_cases hlt : k < n
      · have hFk := HF.out _ HB1.out
        obtain ⟨b, o, rfl, _, hr⟩ := hFk.at (k := k) (by rw [HN.out]; exact hlt)
        have hrg := hr k (by rw [HN.out]; exact hlt)
        have hck := fac_kind hrg
        have hl := (hFk.okAt (i := k) (by rw [HN.out]; exact hlt)).rows
        have HRG : Hid (∀ W, Below w.heap.size w W → W.rangeAt b (o + k * 67 + 2) (rvl (fs.getD k f0).n (fs.getD k f0).l)) := fun W h => fac_rel ((HF.out W h).rng (by rw [HN.out]; exact hlt))
        rw [joinS_in (by rw [HN.out]; exact hlt)] at hnx
        have HRK : Hid (∀ W, Below w.heap.size w W → W.cell? ⟨b, o + k * 67, none⟩ = some (.int .i64 (fs.getD k f0).kind)) := fun W h => fac_kind ((HF.out W h).rng (by rw [HN.out]; exact hlt))
        clear hr hFk hrg hck c0 c1
        by_cases e4 : (fs.getD k f0).kind = 4
        · have hJ : joinW (fs.getD k f0) x y = raiseN (fs.getD k f0).n (fs.getD k f0).l x y := by unfold joinW; rw [if_pos e4]
          have HRS : Hid (∀ W, Calls Tryz.prog 48 #[.agg (rv (fs.getD k f0).n (fs.getD k f0).l), .int .u64 (x : Int), .int .u64 (y : Int)] W fun e w' => e = .returned (.int .u64 ((raiseN (fs.getD k f0).n (fs.getD k f0).l x y : Nat) : Int)) ∧ Below W.heap.size W w') := fun W => qraise_any _ _ hl x y hx hy W
          rw [hJ] at hnx
          clear hJ
          have HNX2 := Lib.hid hnx; clear hnx hx hy
          generalize raiseN (fs.getD k f0).n (fs.getD k f0).l x y = z at *
          generalize (fs.getD k f0).n = nf at *
          generalize (fs.getD k f0).l = lf at *
          generalize (fs.getD k f0).kind = kd at *
          have HNX3 : Hid ((uv ((G k).set k (x ||| y))).setIfInBounds k (.int .u64 (z : Int)) = uv (G (k + 1))) := by
            show (uv ((G k).set k (x ||| y))).setIfInBounds k (.int .u64 (z : Int)) = uv (G (k + 1))
            rw [uv_set, List.set_set, ← uv_set]
            exact HNX2.out
          have hce1 := set_at_self (HEW.out k) k (x ||| y) h8
          have HCE1 := Lib.hid hce1; clear hce1 HNX2
          have HNX2 : Hid ((uv (G k)).setIfInBounds k (.int .u64 ((x ||| y : Nat) : Int)) = uv ((G k).set k (x ||| y))) := uv_set _ _ _
          generalize (G k).set k (x ||| y) = L1 at *
          generalize x ||| y = zo at *
          obtain ⟨S, HS, pM, keepS, SI⟩ := ex_mut gE wr
          have PM := Lib.hid pM
          have PR : Hid (∀ w', S w' → RowAt w' w.heap.size 24 V) := fun w' h => r1.mut (pM w' h) n1
          have PQ : Hid (∀ w', S w' → RowAt w' (w.heap.size + 1) 30 U) := fun w' h => q1.mut (pM w' h) n2
          have PT : Hid (∀ w', S w' → RowAt w' (w.heap.size + 2) 30 V2) := fun w' h => t1.mut (pM w' h) n3
          have PP : Hid (∀ w', S w' → RowAt w' gR 30 (uv (List.replicate 8 0))) := fun w' h => p1.mut (pM w' h) n5
          have cS : ∀ w', S w' → w'.cell? ⟨w.heap.size, 1, none⟩ = some (.slice (some ⟨b, o, none⟩) n c) := fun w' h => (HS1.out _ (PR.out w' h)).2
          have cA : ∀ w', S w' → w'.cell? ⟨w.heap.size + 1, k, none⟩ = some (.int .u64 (x : Int)) := fun w' h => ((PQ.out w' h).cell k).trans HXA.out
          have cB : ∀ w', S w' → w'.cell? ⟨w.heap.size + 2, k, none⟩ = some (.int .u64 (y : Int)) := fun w' h => ((PT.out w' h).cell k).trans HXB.out
          have PB : Hid (∀ w', S w' → Below w.heap.size w w') := fun w' h => HB1.out.trans ((pM w' h).below n4 HB1.out.size)
          have s2 := s1.drew
          clear pM r1 q1 t1 p1 s1 HB1
          have hce := (s2.cell k).trans HCE0.out
          have hfe := s2.free k
          have HCF := Lib.hid (And.intro hce hfe)
          clear hce hfe
          go_wp2_with fail
          refine wp_region_ord S [(0, true), (1, true), (2, true), (3, true), (4, true), (5, true), (6, true), (7, true), (8, true), (9, false)] (by kernel_rfl) (by kernel_rfl) rfl (by kernel_rfl) HS.out ?_
          generalize wr.drew = VV at HS s2 HCF ⊢
          iterate 9
            (refine wpOrd_step (o := ?_) ?_ ?_; rotate_left 1; (simp only [List.getElem?_toArray, List.getElem?_cons_succ, List.getElem?_cons_zero]; with_reducible rfl))
            (first
                | (refine wpOrd_skip (by rfl) ?_)
                | (refine wpOrd_take (v := ?_) (by rfl) ?_ ?_; rotate_left 1; (intro wx hSx; have hc_0 := cA wx hSx; have hc_1 := cB wx hSx; go_simp; try with_reducible rfl)))
            (try simp only [Act.put, List.setIfInBounds_toArray, List.set_cons_zero, List.set_cons_succ])
          obtain ⟨hce, hfe⟩ := HCF.out
          (refine wpOrd_solo (o := ?_) ?_ ?_; rotate_left 1; (simp only [List.getElem?_toArray, List.getElem?_cons_succ, List.getElem?_cons_zero]; with_reducible rfl))
          intro K hK
          go_simp
          have HM5 := Lib.hid ((PM.out _ HS.out).trans (Mut.of_set VV gE k (.int .u64 ((zo : Nat) : Int))))
          have p5 := s2.put k (.int .u64 ((zo : Nat) : Int))
          rw [HNX2.out] at p5
          refine hK.out _ _ (SI.out _ HM5.out) ?_
          clear hK K
          (try simp only [Act.put, List.setIfInBounds_toArray, List.set_cons_zero, List.set_cons_succ])
          refine wpOrd_done ?_
          have HB5 := Lib.hid (PB.out _ (SI.out _ HM5.out))
          have r5 := PR.out _ (SI.out _ HM5.out)
          have q5 := PQ.out _ (SI.out _ HM5.out)
          have t5 := PT.out _ (SI.out _ HM5.out)
          have p6 := PP.out _ (SI.out _ HM5.out)
          clear PR PQ PT PP PM cS cA cB PB HS keepS SI HM5 hce hfe
          clear HCF s2
          generalize VV.setCell ⟨gE, k, none⟩ (.int .u64 ((zo : Nat) : Int)) = wq at *
          clear HNX2 HCE0
          have HNX2 := HNX3
          clear HNX3
          have hck5 := HRK.out _ HB5.out
          obtain ⟨d0, d1⟩ := HS1.out _ r5
          go_wp2_with fail
          clear d0 d1 hck5
          have r1 := r5; have q1 := q5; have t1 := t5; have p1 := p6; have s1 := p5; have HB1 := HB5
          clear r5 q5 t5 p6 p5 HB5
          obtain ⟨S, HS, pM, keepS, SI⟩ := ex_mut gE wq
          have PM := Lib.hid pM
          have PR : Hid (∀ w', S w' → RowAt w' w.heap.size 24 V) := fun w' h => r1.mut (pM w' h) n1
          have PQ : Hid (∀ w', S w' → RowAt w' (w.heap.size + 1) 30 U) := fun w' h => q1.mut (pM w' h) n2
          have PT : Hid (∀ w', S w' → RowAt w' (w.heap.size + 2) 30 V2) := fun w' h => t1.mut (pM w' h) n3
          have PP : Hid (∀ w', S w' → RowAt w' gR 30 (uv (List.replicate 8 0))) := fun w' h => p1.mut (pM w' h) n5
          have cS : ∀ w', S w' → w'.cell? ⟨w.heap.size, 1, none⟩ = some (.slice (some ⟨b, o, none⟩) n c) := fun w' h => (HS1.out _ (PR.out w' h)).2
          have cA : ∀ w', S w' → w'.cell? ⟨w.heap.size + 1, k, none⟩ = some (.int .u64 (x : Int)) := fun w' h => ((PQ.out w' h).cell k).trans HXA.out
          have cB : ∀ w', S w' → w'.cell? ⟨w.heap.size + 2, k, none⟩ = some (.int .u64 (y : Int)) := fun w' h => ((PT.out w' h).cell k).trans HXB.out
          have PB : Hid (∀ w', S w' → Below w.heap.size w w') := fun w' h => HB1.out.trans ((pM w' h).below n4 HB1.out.size)
          have s2 := s1.drew
          clear pM r1 q1 t1 p1 s1 HB1
          have pR : ∀ w', S w' → w'.rangeAt b (o + k * 67 + 2) (rvl nf lf) := fun w' h => HRG.out w' (PB.out w' h)
          refine wp_region_ord S [(0, true), (1, true), (2, true), (3, true), (4, true), (5, true), (6, true), (7, true), (8, true), (9, true), (10, true), (11, true), (12, true), (13, false), (14, true), (15, false)] (by kernel_rfl) (by kernel_rfl) rfl (by kernel_rfl) HS.out ?_
          generalize wq.drew = VV at HS s2 ⊢
          iterate 13
            (refine wpOrd_step (o := ?_) ?_ ?_; rotate_left 1; (simp only [List.getElem?_toArray, List.getElem?_cons_succ, List.getElem?_cons_zero]; with_reducible rfl))
            (first
                | (refine wpOrd_skip (by rfl) ?_)
                | (refine wpOrd_take (by rfl) (take_loadRelIn _ rfl _ _ rfl _ _ hl pR) ?_)
                | (refine wpOrd_take (v := ?_) (by rfl) ?_ ?_; rotate_left 1; (intro wx hSx; have hc_0 := cS wx hSx; have hc_1 := cA wx hSx; have hc_2 := cB wx hSx; go_simp; try with_reducible rfl)))
            (try simp only [Act.put, List.setIfInBounds_toArray, List.set_cons_zero, List.set_cons_succ])
          (refine wpOrd_solo (o := ?_) ?_ ?_; rotate_left 1; (simp only [List.getElem?_toArray, List.getElem?_cons_succ, List.getElem?_cons_zero]; with_reducible rfl))
          intro K hK
          go_simp
          go_at_call 48
          refine (HRS.out _).mono ?_
          rintro e w4 ⟨rfl, hb⟩; have s4 := s2.below hb s2.lt; clear s2
          have hS := keepS _ _ HS.out hb
          clear HS
          have HS := Lib.hid hS; clear hS hb
          refine hK.out _ _ HS.out ?_
          clear hK K
          (try simp only [Act.put, List.setIfInBounds_toArray, List.set_cons_zero, List.set_cons_succ])
          iterate 1
            (refine wpOrd_step (o := ?_) ?_ ?_; rotate_left 1; (simp only [List.getElem?_toArray, List.getElem?_cons_succ, List.getElem?_cons_zero]; with_reducible rfl))
            (first
                | (refine wpOrd_skip (by rfl) ?_)
                | (refine wpOrd_take (v := ?_) (by rfl) ?_ ?_; rotate_left 1; (intro wx hSx; go_simp; try with_reducible rfl)))
            (try simp only [Act.put, List.setIfInBounds_toArray, List.set_cons_zero, List.set_cons_succ])
          have hce := (s4.cell k).trans HCE1.out
          have hfe := s4.free k
          (refine wpOrd_solo (o := ?_) ?_ ?_; rotate_left 1; (simp only [List.getElem?_toArray, List.getElem?_cons_succ, List.getElem?_cons_zero]; with_reducible rfl))
          intro K hK
          go_simp
          have HM5 := Lib.hid ((PM.out _ HS.out).trans (Mut.of_set w4 gE k (.int .u64 ((z : Nat) : Int))))
          have p5 := s4.put k (.int .u64 ((z : Nat) : Int))
          rw [HNX2.out] at p5
          refine hK.out _ _ (SI.out _ HM5.out) ?_
          clear hK K
          (try simp only [Act.put, List.setIfInBounds_toArray, List.set_cons_zero, List.set_cons_succ])
          refine wpOrd_done ?_
          have HB5 := Lib.hid (PB.out _ (SI.out _ HM5.out))
          have r5 := PR.out _ (SI.out _ HM5.out)
          have q5 := PQ.out _ (SI.out _ HM5.out)
          have t5 := PT.out _ (SI.out _ HM5.out)
          have p6 := PP.out _ (SI.out _ HM5.out)
          clear PR PQ PT PP PM cS cA cB PB HS keepS SI HM5 hce hfe
          clear pR s4
          go_wp2_with fail
          go_roundw
          case rel => exact ⟨k + 1, by omega, by go_num, r5, q5, t5, p6, p5, HB5⟩
          case measure => simp [intOf]; omega
        · have hJ : joinW (fs.getD k f0) x y = x ||| y := by unfold joinW; rw [if_neg e4]
          rw [hJ] at hnx
          clear hJ
          have HNX2 := Lib.hid hnx; clear hnx hx hy HRG hl
          generalize x ||| y = zo at *
          generalize (fs.getD k f0).kind = kd at *
          obtain ⟨S, HS, pM, keepS, SI⟩ := ex_mut gE wr
          have PM := Lib.hid pM
          have PR : Hid (∀ w', S w' → RowAt w' w.heap.size 24 V) := fun w' h => r1.mut (pM w' h) n1
          have PQ : Hid (∀ w', S w' → RowAt w' (w.heap.size + 1) 30 U) := fun w' h => q1.mut (pM w' h) n2
          have PT : Hid (∀ w', S w' → RowAt w' (w.heap.size + 2) 30 V2) := fun w' h => t1.mut (pM w' h) n3
          have PP : Hid (∀ w', S w' → RowAt w' gR 30 (uv (List.replicate 8 0))) := fun w' h => p1.mut (pM w' h) n5
          have cS : ∀ w', S w' → w'.cell? ⟨w.heap.size, 1, none⟩ = some (.slice (some ⟨b, o, none⟩) n c) := fun w' h => (HS1.out _ (PR.out w' h)).2
          have cA : ∀ w', S w' → w'.cell? ⟨w.heap.size + 1, k, none⟩ = some (.int .u64 (x : Int)) := fun w' h => ((PQ.out w' h).cell k).trans HXA.out
          have cB : ∀ w', S w' → w'.cell? ⟨w.heap.size + 2, k, none⟩ = some (.int .u64 (y : Int)) := fun w' h => ((PT.out w' h).cell k).trans HXB.out
          have PB : Hid (∀ w', S w' → Below w.heap.size w w') := fun w' h => HB1.out.trans ((pM w' h).below n4 HB1.out.size)
          have s2 := s1.drew
          clear pM r1 q1 t1 p1 s1 HB1
          have hce := (s2.cell k).trans HCE0.out
          have hfe := s2.free k
          have HCF := Lib.hid (And.intro hce hfe)
          clear hce hfe
          go_wp2_with fail
          refine wp_region_ord S [(0, true), (1, true), (2, true), (3, true), (4, true), (5, true), (6, true), (7, true), (8, true), (9, false)] (by kernel_rfl) (by kernel_rfl) rfl (by kernel_rfl) HS.out ?_
          generalize wr.drew = VV at HS s2 HCF ⊢
          iterate 9
            (refine wpOrd_step (o := ?_) ?_ ?_; rotate_left 1; (simp only [List.getElem?_toArray, List.getElem?_cons_succ, List.getElem?_cons_zero]; with_reducible rfl))
            (first
                | (refine wpOrd_skip (by rfl) ?_)
                | (refine wpOrd_take (v := ?_) (by rfl) ?_ ?_; rotate_left 1; (intro wx hSx; have hc_0 := cA wx hSx; have hc_1 := cB wx hSx; go_simp; try with_reducible rfl)))
            (try simp only [Act.put, List.setIfInBounds_toArray, List.set_cons_zero, List.set_cons_succ])
          obtain ⟨hce, hfe⟩ := HCF.out
          (refine wpOrd_solo (o := ?_) ?_ ?_; rotate_left 1; (simp only [List.getElem?_toArray, List.getElem?_cons_succ, List.getElem?_cons_zero]; with_reducible rfl))
          intro K hK
          go_simp
          have HM5 := Lib.hid ((PM.out _ HS.out).trans (Mut.of_set VV gE k (.int .u64 ((zo : Nat) : Int))))
          have p5 := s2.put k (.int .u64 ((zo : Nat) : Int))
          rw [HNX2.out] at p5
          refine hK.out _ _ (SI.out _ HM5.out) ?_
          clear hK K
          (try simp only [Act.put, List.setIfInBounds_toArray, List.set_cons_zero, List.set_cons_succ])
          refine wpOrd_done ?_
          have HB5 := Lib.hid (PB.out _ (SI.out _ HM5.out))
          have r5 := PR.out _ (SI.out _ HM5.out)
          have q5 := PQ.out _ (SI.out _ HM5.out)
          have t5 := PT.out _ (SI.out _ HM5.out)
          have p6 := PP.out _ (SI.out _ HM5.out)
          clear PR PQ PT PP PM cS cA cB PB HS keepS SI HM5 hce hfe
          clear HCF s2
          generalize VV.setCell ⟨gE, k, none⟩ (.int .u64 ((zo : Nat) : Int)) = wq at *
          have hck5 := HRK.out _ HB5.out
          obtain ⟨d0, d1⟩ := HS1.out _ r5
          go_wp2_with fail
          go_roundw
          case rel => exact ⟨k + 1, by omega, by go_num, r5, q5, t5, p6, p5, HB5⟩
          case measure => simp [intOf]; omega
      · rw [joinS_out (by rw [HN.out]; exact hlt)] at hnx
        have HNX2 := Lib.hid hnx; clear hnx hx hy c0 c1
        generalize x ||| y = zo at *
        obtain ⟨S, HS, pM, keepS, SI⟩ := ex_mut gE wr
        have PM := Lib.hid pM
        have PR : Hid (∀ w', S w' → RowAt w' w.heap.size 24 V) := fun w' h => r1.mut (pM w' h) n1
        have PQ : Hid (∀ w', S w' → RowAt w' (w.heap.size + 1) 30 U) := fun w' h => q1.mut (pM w' h) n2
        have PT : Hid (∀ w', S w' → RowAt w' (w.heap.size + 2) 30 V2) := fun w' h => t1.mut (pM w' h) n3
        have PP : Hid (∀ w', S w' → RowAt w' gR 30 (uv (List.replicate 8 0))) := fun w' h => p1.mut (pM w' h) n5
        have cS : ∀ w', S w' → w'.cell? ⟨w.heap.size, 1, none⟩ = some (.slice A n c) := fun w' h => (HS1.out _ (PR.out w' h)).2
        have cA : ∀ w', S w' → w'.cell? ⟨w.heap.size + 1, k, none⟩ = some (.int .u64 (x : Int)) := fun w' h => ((PQ.out w' h).cell k).trans HXA.out
        have cB : ∀ w', S w' → w'.cell? ⟨w.heap.size + 2, k, none⟩ = some (.int .u64 (y : Int)) := fun w' h => ((PT.out w' h).cell k).trans HXB.out
        have PB : Hid (∀ w', S w' → Below w.heap.size w w') := fun w' h => HB1.out.trans ((pM w' h).below n4 HB1.out.size)
        have s2 := s1.drew
        clear pM r1 q1 t1 p1 s1 HB1
        have hce := (s2.cell k).trans HCE0.out
        have hfe := s2.free k
        have HCF := Lib.hid (And.intro hce hfe)
        clear hce hfe
        go_wp2_with fail
        refine wp_region_ord S [(0, true), (1, true), (2, true), (3, true), (4, true), (5, true), (6, true), (7, true), (8, true), (9, false)] (by kernel_rfl) (by kernel_rfl) rfl (by kernel_rfl) HS.out ?_
        generalize wr.drew = VV at HS s2 HCF ⊢
        iterate 9
          (refine wpOrd_step (o := ?_) ?_ ?_; rotate_left 1; (simp only [List.getElem?_toArray, List.getElem?_cons_succ, List.getElem?_cons_zero]; with_reducible rfl))
          (first
              | (refine wpOrd_skip (by rfl) ?_)
              | (refine wpOrd_take (v := ?_) (by rfl) ?_ ?_; rotate_left 1; (intro wx hSx; have hc_0 := cA wx hSx; have hc_1 := cB wx hSx; go_simp; try with_reducible rfl)))
          (try simp only [Act.put, List.setIfInBounds_toArray, List.set_cons_zero, List.set_cons_succ])
        obtain ⟨hce, hfe⟩ := HCF.out
        (refine wpOrd_solo (o := ?_) ?_ ?_; rotate_left 1; (simp only [List.getElem?_toArray, List.getElem?_cons_succ, List.getElem?_cons_zero]; with_reducible rfl))
        intro K hK
        go_simp
        have HM5 := Lib.hid ((PM.out _ HS.out).trans (Mut.of_set VV gE k (.int .u64 ((zo : Nat) : Int))))
        have p5 := s2.put k (.int .u64 ((zo : Nat) : Int))
        rw [HNX2.out] at p5
        refine hK.out _ _ (SI.out _ HM5.out) ?_
        clear hK K
        (try simp only [Act.put, List.setIfInBounds_toArray, List.set_cons_zero, List.set_cons_succ])
        refine wpOrd_done ?_
        have HB5 := Lib.hid (PB.out _ (SI.out _ HM5.out))
        have r5 := PR.out _ (SI.out _ HM5.out)
        have q5 := PQ.out _ (SI.out _ HM5.out)
        have t5 := PT.out _ (SI.out _ HM5.out)
        have p6 := PP.out _ (SI.out _ HM5.out)
        clear PR PQ PT PP PM cS cA cB PB HS keepS SI HM5 hce hfe
        clear HCF s2
        generalize VV.setCell ⟨gE, k, none⟩ (.int .u64 ((zo : Nat) : Int)) = wq at *
        obtain ⟨d0, d1⟩ := HS1.out _ r5
        go_wp2_with fail
        go_roundw
        case rel => exact ⟨k + 1, by omega, by go_num, r5, q5, t5, p6, p5, HB5⟩
        case measure => simp [intOf]; omega
    · have e1 : k = 8 := by omega
      subst e1
      have hew := HEW.out 8
      go_wp2_with (first | (refine wpList_loadElem (by rfl) _ rfl gE rfl _ hew s1 ?_) | (refine wpList_storeElem (by rfl) _ _ rfl gR rfl _ hew rfl _ z8 p1 ?_; intro w7 q7 he))
      exact bodyPost_ret (ret_elem rfl _ _ gR _ hew rfl q7) rfl ⟨rfl, HB1.out.trans (he.below n6)⟩
end Go.Proofs.YtpgkcddhpeoiiaaGreatDoor
