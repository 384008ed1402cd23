/-
  What Bottom, Top, Height, Leq and Meet of package shape return, and the document's Leq and Meet. Conditions: a slice of factors in memory, eight words below 2^64; the table of math/bits in memory.
-/
import Derived.Test.YtpgkcddhpeoiiaaGreatDoorShapeD
namespace Go.Proofs.YtpgkcddhpeoiiaaGreatDoor
open Go.RowKit RM


set_option maxRecDepth 8000 in
set_option maxHeartbeats 1000000 in
theorem sbottomE_any (t : Bool) (A : Option Addr) (c : Nat) (fs : List Fac) (w : World) (hT : Tab w) (hF : Facs w A fs) :
    Calls Tryz.prog 12 #[.agg (sv t A fs.length c)] w fun x w' => x = .returned (.agg (uv (endE t fs botW))) ∧ Below w.heap.size w w' := by
  have z8 := EW.zeros
  have he8 := endE_ew t fs botW_lt
  have r0 : RowAt ((w.alloc (.cells (sv t A fs.length c) 24)).alloc (.cells (uv (List.replicate 8 0)) 30)) w.heap.size 24 (sv t A fs.length c) := (RowAt.new w _ _).alloc _
  have q0 : RowAt ((w.alloc (.cells (sv t A fs.length c) 24)).alloc (.cells (uv (List.replicate 8 0)) 30)) (w.heap.size + 1) 30 (uv (List.replicate 8 0)) := by
    have := RowAt.new (w.alloc (.cells (sv t A fs.length c) 24)) 30 (uv (List.replicate 8 0))
    simpa using this
  have HB0 : Hid (Below w.heap.size w ((w.alloc (.cells (sv t A fs.length c) 24)).alloc (.cells (uv (List.replicate 8 0)) 30))) := ((Below.refl _ _).alloc (Nat.le_refl _) _).alloc (by simp) _
  have HEL : Hid (∀ W, Below w.heap.size w W → Calls Tryz.prog 33 #[.agg (sv t A fs.length c), .func (.func 34) #[] #[]] W fun x w' => x = .returned (.agg (uv (endE t fs botW))) ∧ Below W.heap.size W w') := fun W h =>
    selement_any t A c fs 34 (fun _ _ => by kernel_rfl) botW botW_lt W (hT.below h) (hF.below h) fun g W _ h1 h2 => sbottom_any g W h1 h2
  clear hF hT
  generalize endE t fs botW = res at *
  generalize fs.length = n at *
  rw [← zero_elem] at r0 q0 HB0
  go_enter Tryz.func12, Tryz.ntmps12
  go_upto_region 1 with fail
  rw [zero_elem] at r0 q0 HB0 ⊢
  generalize (w.alloc (.cells (sv t A n c) 24)).alloc (.cells (uv (List.replicate 8 0)) 30) = w0 at *
  go_wp2_with (refine wpList_loadShape (by rfl) _ rfl w.heap.size rfl t A n c r0 ?_)
  refine (HEL.out _ HB0.out).mono ?_
  rintro e w1 ⟨rfl, hb⟩
  have q1 := q0.below hb q0.lt
  have HB1 := Lib.hid (HB0.out.trans (hb.mono HB0.out.size))
  clear hb q0 r0 HB0
  go_wp2_with (refine wpList_storeElem (by rfl) _ _ rfl (w.heap.size + 1) rfl _ he8 rfl _ z8 q1 ?_; intro w2 q2 he)
  exact bodyPost_ret (ret_elem rfl _ _ (w.heap.size + 1) _ he8 rfl q2) rfl ⟨rfl, HB1.out.trans (he.below (by omega))⟩

set_option maxRecDepth 8000 in
set_option maxHeartbeats 1000000 in
theorem stopE_any (t : Bool) (A : Option Addr) (c : Nat) (fs : List Fac) (w : World) (hT : Tab w) (hF : Facs w A fs) :
    Calls Tryz.prog 14 #[.agg (sv t A fs.length c)] w fun x w' => x = .returned (.agg (uv (endE t fs topW))) ∧ Below w.heap.size w w' := by
  have z8 := EW.zeros
  have he8 := endE_ew t fs topW_lt
  have r0 : RowAt ((w.alloc (.cells (sv t A fs.length c) 24)).alloc (.cells (uv (List.replicate 8 0)) 30)) w.heap.size 24 (sv t A fs.length c) := (RowAt.new w _ _).alloc _
  have q0 : RowAt ((w.alloc (.cells (sv t A fs.length c) 24)).alloc (.cells (uv (List.replicate 8 0)) 30)) (w.heap.size + 1) 30 (uv (List.replicate 8 0)) := by
    have := RowAt.new (w.alloc (.cells (sv t A fs.length c) 24)) 30 (uv (List.replicate 8 0))
    simpa using this
  have HB0 : Hid (Below w.heap.size w ((w.alloc (.cells (sv t A fs.length c) 24)).alloc (.cells (uv (List.replicate 8 0)) 30))) := ((Below.refl _ _).alloc (Nat.le_refl _) _).alloc (by simp) _
  have HEL : Hid (∀ W, Below w.heap.size w W → Calls Tryz.prog 33 #[.agg (sv t A fs.length c), .func (.func 39) #[] #[]] W fun x w' => x = .returned (.agg (uv (endE t fs topW))) ∧ Below W.heap.size W w') := fun W h =>
    selement_any t A c fs 39 (fun _ _ => by kernel_rfl) topW topW_lt W (hT.below h) (hF.below h) fun g W hv _ h2 => stop_any g hv W h2
  clear hF hT
  generalize endE t fs topW = res at *
  generalize fs.length = n at *
  rw [← zero_elem] at r0 q0 HB0
  go_enter Tryz.func14, Tryz.ntmps14
  go_upto_region 1 with fail
  rw [zero_elem] at r0 q0 HB0 ⊢
  generalize (w.alloc (.cells (sv t A n c) 24)).alloc (.cells (uv (List.replicate 8 0)) 30) = w0 at *
  go_wp2_with (refine wpList_loadShape (by rfl) _ rfl w.heap.size rfl t A n c r0 ?_)
  refine (HEL.out _ HB0.out).mono ?_
  rintro e w1 ⟨rfl, hb⟩
  have q1 := q0.below hb q0.lt
  have HB1 := Lib.hid (HB0.out.trans (hb.mono HB0.out.size))
  clear hb q0 r0 HB0
  go_wp2_with (refine wpList_storeElem (by rfl) _ _ rfl (w.heap.size + 1) rfl _ he8 rfl _ z8 q1 ?_; intro w2 q2 he)
  exact bodyPost_ret (ret_elem rfl _ _ (w.heap.size + 1) _ he8 rfl q2) rfl ⟨rfl, HB1.out.trans (he.below (by omega))⟩

theorem leq_bad {a b : List Nat} {k : Nat} (hk : k < 8) (h : MM.subN (a.getD k 0) (b.getD k 0) = false) : leqE a b = false := by
  unfold leqE
  rw [List.all_eq_false]
  exact ⟨k, List.mem_range.2 hk, by rw [h]; simp⟩
theorem four_rows (w : World) (c1 c2 c3 c4 : Array Value) (t1 t2 t3 t4 : TypeId) :
    RowAt ((((w.alloc (.cells c1 t1)).alloc (.cells c2 t2)).alloc (.cells c3 t3)).alloc (.cells c4 t4)) w.heap.size t1 c1 ∧
    RowAt ((((w.alloc (.cells c1 t1)).alloc (.cells c2 t2)).alloc (.cells c3 t3)).alloc (.cells c4 t4)) (w.heap.size + 1) t2 c2 ∧
    RowAt ((((w.alloc (.cells c1 t1)).alloc (.cells c2 t2)).alloc (.cells c3 t3)).alloc (.cells c4 t4)) (w.heap.size + 2) t3 c3 ∧
    RowAt ((((w.alloc (.cells c1 t1)).alloc (.cells c2 t2)).alloc (.cells c3 t3)).alloc (.cells c4 t4)) (w.heap.size + 3) t4 c4 ∧
    Below w.heap.size w ((((w.alloc (.cells c1 t1)).alloc (.cells c2 t2)).alloc (.cells c3 t3)).alloc (.cells c4 t4)) := by
  have h1 := RowAt.new w t1 c1
  have h2 := RowAt.new (w.alloc (.cells c1 t1)) t2 c2
  have h3 := RowAt.new ((w.alloc (.cells c1 t1)).alloc (.cells c2 t2)) t3 c3
  have h4 := RowAt.new (((w.alloc (.cells c1 t1)).alloc (.cells c2 t2)).alloc (.cells c3 t3)) t4 c4
  simp only [World.size_alloc] at h2 h3 h4
  exact ⟨((h1.alloc _).alloc _).alloc _, (h2.alloc _).alloc _, h3.alloc _, h4, ((((Below.refl _ w).alloc (Nat.le_refl _) _).alloc (by simp) _).alloc (by simp; omega) _).alloc (by simp; omega) _⟩

set_option maxRecDepth 8000 in
set_option maxHeartbeats 1000000 in
theorem sleq_any (a b : List Nat) (ha : EW a) (hb : EW b) (w : World) :
    Calls Tryz.prog 19 #[.agg (uv a), .agg (uv b)] w fun x w' => x = .returned (.bool (leqE a b)) ∧ Below w.heap.size w w' := by
  have r0 : RowAt ((w.alloc (.cells (uv a) 30)).alloc (.cells (uv b) 30)) w.heap.size 30 (uv a) := (RowAt.new w _ _).alloc _
  have q0 : RowAt ((w.alloc (.cells (uv a) 30)).alloc (.cells (uv b) 30)) (w.heap.size + 1) 30 (uv b) := by
    have := RowAt.new (w.alloc (.cells (uv a) 30)) 30 (uv b)
    simpa using this
  have HB0 : Hid (Below w.heap.size w ((w.alloc (.cells (uv a) 30)).alloc (.cells (uv b) 30))) := ((Below.refl _ _).alloc (Nat.le_refl _) _).alloc (by simp) _
  have HBAD : Hid (∀ k, k < 8 → MM.subN (a.getD k 0) (b.getD k 0) = false → leqE a b = false) := fun k hk h => leq_bad hk h
  have HEND : Hid ((∀ k, k < 8 → MM.subN (a.getD k 0) (b.getD k 0) = true) → leqE a b = true) := fun h => leq_iff.2 h
  have HA : Hid (∀ k, k < 8 → (uv a)[k]? = some (.int .u64 ((a.getD k 0 : Nat) : Int))) := fun k hk => ev_at ha k hk
  have HC : Hid (∀ k, k < 8 → (uv b)[k]? = some (.int .u64 ((b.getD k 0 : Nat) : Int))) := fun k hk => ev_at hb k hk
  have HLA := Lib.hid ha.lt
  have HLB := Lib.hid hb.lt
  clear ha hb
  generalize leqE a b = res at *
  generalize uv a = U at *
  generalize uv b = V2 at *
  go_enter Tryz.func19, Tryz.ntmps19
  go_upto_region 1 with fail
  generalize (w.alloc (.cells U 30)).alloc (.cells V2 30) = w0 at *
  go_wp2_with fail
  go_loopw [5, 6] (fun _ kv wr => ∃ k : Nat, k ≤ 8 ∧ kv = .int .i64 k ∧ RowAt wr w.heap.size 30 U ∧ RowAt wr (w.heap.size + 1) 30 V2 ∧ Hid (∀ j, j < k → MM.subN (a.getD j 0) (b.getD j 0) = true) ∧ Hid (Below w.heap.size w wr)) (fun _ kv _ => 8 - (intOf kv).toNat)
  case atStart => exact ⟨0, by omega, rfl, r0, q0, fun j hj => by omega, HB0⟩
  case round =>
    clear r0 q0 HB0
    obtain ⟨k, hk, rfl, r1, q1, HK, HB1⟩ := hrel
    by_cases hlt : k < 8
    · have hk8 : (k : Int) < 8 := by omega
      have HR := Lib.hid (HBAD.out k hlt)
      have HKN : Hid (MM.subN (a.getD k 0) (b.getD k 0) = true → ∀ j, j < k + 1 → MM.subN (a.getD j 0) (b.getD j 0) = true) := fun h j hj => by
        by_cases e : j = k
        · subst e; exact h
        · exact HK.out j (by omega)
      have hxa := HA.out k hlt
      have hxb := HC.out k hlt
      have h1 := HLA.out k
      have h2 := HLB.out k
      have HSB : Hid (∀ W, Calls Tryz.prog 45 #[.int .u64 ((a.getD k 0 : Nat) : Int), .int .u64 ((b.getD k 0 : Nat) : Int)] W fun x w' => x = .returned (.bool (MM.subN (a.getD k 0) (b.getD k 0))) ∧ W = w') := fun W => sub_any _ _ h1 h2 W
      clear h1 h2
      generalize MM.subN (a.getD k 0) (b.getD k 0) = bw at *
      generalize a.getD k 0 = x at *
      generalize b.getD k 0 = y at *
      obtain ⟨S, HS, pW, keepS⟩ := ex_gen wr
      have PR : Hid (∀ w', S w' → RowAt w' w.heap.size 30 U) := fun w' h => r1.below (pW w' h) r1.lt
      have PQ : Hid (∀ w', S w' → RowAt w' (w.heap.size + 1) 30 V2) := fun w' h => q1.below (pW w' h) q1.lt
      have cA : ∀ w', S w' → w'.cell? ⟨w.heap.size, k, none⟩ = some (.int .u64 (x : Int)) := fun w' h => ((PR.out w' h).cell k).trans hxa
      have cB : ∀ w', S w' → w'.cell? ⟨w.heap.size + 1, k, none⟩ = some (.int .u64 (y : Int)) := fun w' h => ((PQ.out w' h).cell k).trans hxb
      have PB : Hid (∀ w', S w' → Below w.heap.size w w') := fun w' h => HB1.out.trans ((pW w' h).mono HB1.out.size)
      clear pW r1 q1 HB1 hxa hxb
      go_wp2_with fail
      refine wp_region_ord S [(0, true), (1, true), (2, true), (3, true), (4, true), (5, true), (6, false), (7, true)] (by kernel_rfl) (by kernel_rfl) rfl (by kernel_rfl) HS.out ?_
      generalize wr.drew = V at HS ⊢
      iterate 6
        (refine wpOrd_step (o := ?_) ?_ ?_; rotate_left 1; (simp only [List.getElem?_toArray, List.getElem?_cons_succ, List.getElem?_cons_zero]; with_reducible rfl))
        (first
            | (refine wpOrd_skip (by rfl) ?_)
            | (refine wpOrd_take (v := ?_) (by rfl) ?_ ?_; rotate_left 1; (intro wx hSx; have hc_0 := cA wx hSx; have hc_1 := cB wx hSx; go_simp; try with_reducible rfl)))
        (try simp only [Act.put, List.setIfInBounds_toArray, List.set_cons_zero, List.set_cons_succ])
      (refine wpOrd_solo (o := ?_) ?_ ?_; rotate_left 1; (simp only [List.getElem?_toArray, List.getElem?_cons_succ, List.getElem?_cons_zero]; with_reducible rfl))
      intro K hK
      go_simp
      go_at_call 45
      refine (HSB.out _).mono ?_
      rintro e w' ⟨rfl, rfl⟩
      refine hK.out _ _ HS.out ?_
      clear hK K
      (try simp only [Act.put, List.setIfInBounds_toArray, List.set_cons_zero, List.set_cons_succ])
      iterate 1
        (refine wpOrd_step (o := ?_) ?_ ?_; rotate_left 1; (simp only [List.getElem?_toArray, List.getElem?_cons_succ, List.getElem?_cons_zero]; with_reducible rfl))
        (first
            | (refine wpOrd_skip (by rfl) ?_)
            | (refine wpOrd_take (v := ?_) (by rfl) ?_ ?_; rotate_left 1; (intro wx hSx; go_simp; try with_reducible rfl)))
        (try simp only [Act.put, List.setIfInBounds_toArray, List.set_cons_zero, List.set_cons_succ])
      refine wpOrd_done ?_
      have HB5 := Lib.hid (PB.out _ HS.out)
      have r5 := PR.out _ HS.out
      have q5 := PQ.out _ HS.out
      clear PR PQ cA cB PB HS keepS
      cases bw with
      | false =>
        have HR2 := Lib.hid (HR.out rfl)
        clear HR HKN
        go_wp2_with fail
        go_ret
        exact ⟨ret_eq (bool_eq HR2.out.symm), HB5.out⟩
      | true =>
        have HKN2 := Lib.hid (HKN.out rfl)
        clear HR HKN
        go_wp2_with fail
        go_roundw
        case rel => exact ⟨k + 1, by omega, by go_num, r5, q5, HKN2, HB5⟩
        case measure => simp [intOf]; omega
    · have e1 : k = 8 := by omega
      subst e1
      have HE2 := Lib.hid (HEND.out HK.out)
      go_wp2_with fail
      go_ret
      exact ⟨ret_eq (bool_eq HE2.out.symm), HB1.out⟩

set_option maxRecDepth 8000 in
set_option maxHeartbeats 1000000 in
theorem smeet_any (a b : List Nat) (ha : EW a) (hb : EW b) (w : World) :
    Calls Tryz.prog 23 #[.agg (uv a), .agg (uv b)] w fun x w' => x = .returned (.agg (uv (meetE a b))) ∧ Below w.heap.size w w' := by
  have z8 := EW.zeros
  obtain ⟨r0, q0, p0, s0, hb0⟩ := four_rows w (uv a) (uv b) (uv (List.replicate 8 0)) (uv (List.replicate 8 0)) 30 30 30 30
  have HB0 := Lib.hid hb0; clear hb0
  have HA : Hid (∀ k, k < 8 → (uv a)[k]? = some (.int .u64 ((a.getD k 0 : Nat) : Int))) := fun k hk => ev_at ha k hk
  have HC : Hid (∀ k, k < 8 → (uv b)[k]? = some (.int .u64 ((b.getD k 0 : Nat) : Int))) := fun k hk => ev_at hb k hk
  have HLA := Lib.hid ha.lt
  have HLB := Lib.hid hb.lt
  have hG : meetE a b = sdTo (fun i => a.getD i 0 &&& b.getD i 0) 8 8 := (sdTo_end (fun i => a.getD i 0 &&& b.getD i 0) 8).symm
  rw [hG]
  have HEW : Hid (∀ k, EW (sdTo (fun i => a.getD i 0 &&& b.getD i 0) 8 k)) := sdTo_ew fun i => and_lt _ (ha.lt i)
  have HZ : Hid (sdTo (fun i => a.getD i 0 &&& b.getD i 0) 8 0 = List.replicate 8 0) := sdTo_zero _ 8
  have HNX : Hid (∀ k, (uv (sdTo (fun i => a.getD i 0 &&& b.getD i 0) 8 k)).setIfInBounds k (.int .u64 ((a.getD k 0 &&& b.getD k 0 : Nat) : Int)) = uv (sdTo (fun i => a.getD i 0 &&& b.getD i 0) 8 (k + 1))) := fun k => by rw [uv_set, ← sdTo_set]
  clear ha hb hG
  generalize sdTo (fun i => a.getD i 0 &&& b.getD i 0) 8 = G at *
  generalize uv a = U at *
  generalize uv b = V2 at *
  rw [← zero_elem] at r0 q0 p0 s0 HB0
  go_enter Tryz.func23, Tryz.ntmps23
  go_upto_region 2 with fail
  rw [zero_elem] at r0 q0 p0 s0 HB0 ⊢
  generalize (((w.alloc (.cells U 30)).alloc (.cells V2 30)).alloc (.cells (uv (List.replicate 8 0)) 30)).alloc (.cells (uv (List.replicate 8 0)) 30) = w0 at *
  have n1 : w.heap.size ≠ w.heap.size + 3 := by omega
  have n2 : w.heap.size + 1 ≠ w.heap.size + 3 := by omega
  have n3 : w.heap.size + 2 ≠ w.heap.size + 3 := by omega
  have n4 : w.heap.size ≤ w.heap.size + 3 := by omega
  have n5 : w.heap.size ≤ w.heap.size + 2 := by omega
  rw [← HZ.out] at s0
  generalize hgE : w.heap.size + 3 = gE at *
  generalize hgR : w.heap.size + 2 = gR at *
  rw [← HZ.out] at p0
  rw [HZ.out] at p0
  go_wp2_with fail
  go_loopw [6, 7] (fun _ kv wr => ∃ k : Nat, k ≤ 8 ∧ kv = .int .i64 k ∧ RowAt wr w.heap.size 30 U ∧ RowAt wr (w.heap.size + 1) 30 V2 ∧ RowAt wr gR 30 (uv (List.replicate 8 0)) ∧ RowAt wr gE 30 (uv (G k)) ∧ Hid (Below w.heap.size w wr)) (fun _ kv _ => 8 - (intOf kv).toNat)
  case atStart => exact ⟨0, by omega, rfl, r0, q0, p0, s0, HB0⟩
  case round =>
    clear r0 q0 p0 s0 HB0
    obtain ⟨k, hk, rfl, r1, q1, p1, s1, HB1⟩ := hrel
    by_cases hlt : k < 8
    · have hk8 : (k : Int) < 8 := by omega
      have hxa := HA.out k hlt
      have hxb := HC.out k hlt
      have hor := u64_and_nat (a.getD k 0) (b.getD k 0) (HLA.out k) (HLB.out k)
      have hce0 := ev_at (HEW.out k) k hlt
      have hnx := HNX.out k
      generalize (G k).getD k 0 = x0 at *
      generalize a.getD k 0 &&& b.getD k 0 = z at *
      generalize a.getD k 0 = x at *
      generalize b.getD k 0 = y at *
      have HNX2 := Lib.hid hnx; clear hnx
      obtain ⟨S, HS, pM, keepS, SI⟩ := ex_mut gE wr
      have PM := Lib.hid pM
      have PR : Hid (∀ w', S w' → RowAt w' w.heap.size 30 U) := fun w' h => r1.mut (pM w' h) n1
      have PQ : Hid (∀ w', S w' → RowAt w' (w.heap.size + 1) 30 V2) := fun w' h => q1.mut (pM w' h) n2
      have PP : Hid (∀ w', S w' → RowAt w' gR 30 (uv (List.replicate 8 0))) := fun w' h => p1.mut (pM w' h) n3
      have cA : ∀ w', S w' → w'.cell? ⟨w.heap.size, k, none⟩ = some (.int .u64 (x : Int)) := fun w' h => ((PR.out w' h).cell k).trans hxa
      have cB : ∀ w', S w' → w'.cell? ⟨w.heap.size + 1, k, none⟩ = some (.int .u64 (y : Int)) := fun w' h => ((PQ.out w' h).cell k).trans hxb
      have PB : Hid (∀ w', S w' → Below w.heap.size w w') := fun w' h => HB1.out.trans ((pM w' h).below n4 HB1.out.size)
      have s2 := s1.drew
      have hce := (s2.cell k).trans hce0
      have hfe := s2.free k
      have HCF := Lib.hid (And.intro hce hfe)
      clear pM r1 q1 p1 s1 HB1 hxa hxb hce0 hce hfe
      go_wp2_with fail
      refine wp_region_ord S [(0, true), (1, true), (2, true), (3, true), (4, true), (5, true), (6, true), (7, true), (8, true), (9, false)] (by kernel_rfl) (by kernel_rfl) rfl (by kernel_rfl) HS.out ?_
      generalize wr.drew = V at HS s2 HCF ⊢
      iterate 9
        (refine wpOrd_step (o := ?_) ?_ ?_; rotate_left 1; (simp only [List.getElem?_toArray, List.getElem?_cons_succ, List.getElem?_cons_zero]; with_reducible rfl))
        (first
            | (refine wpOrd_skip (by rfl) ?_)
            | (refine wpOrd_take (v := ?_) (by rfl) ?_ ?_; rotate_left 1; (intro wx hSx; have hc_0 := cA wx hSx; have hc_1 := cB wx hSx; go_simp; try with_reducible rfl)))
        (try simp only [Act.put, List.setIfInBounds_toArray, List.set_cons_zero, List.set_cons_succ])
      obtain ⟨hce, hfe⟩ := HCF.out
      (refine wpOrd_solo (o := ?_) ?_ ?_; rotate_left 1; (simp only [List.getElem?_toArray, List.getElem?_cons_succ, List.getElem?_cons_zero]; with_reducible rfl))
      intro K hK
      go_simp
      have HM5 := Lib.hid ((PM.out _ HS.out).trans (Mut.of_set V gE k (.int .u64 ((z : Nat) : Int))))
      have p5 := s2.put k (.int .u64 ((z : Nat) : Int))
      rw [HNX2.out] at p5
      refine hK.out _ _ (SI.out _ HM5.out) ?_
      clear hK K
      (try simp only [Act.put, List.setIfInBounds_toArray, List.set_cons_zero, List.set_cons_succ])
      refine wpOrd_done ?_
      have HB5 := Lib.hid (PB.out _ (SI.out _ HM5.out))
      have r5 := PR.out _ (SI.out _ HM5.out)
      have q5 := PQ.out _ (SI.out _ HM5.out)
      have p6 := PP.out _ (SI.out _ HM5.out)
      clear PR PQ PP PM cA cB PB HS keepS SI HM5 hce hfe HCF hor s2
      go_wp2_with fail
      go_roundw
      case rel => exact ⟨k + 1, by omega, by go_num, r5, q5, p6, p5, HB5⟩
      case measure => simp [intOf]; omega
    · have e1 : k = 8 := by omega
      subst e1
      have hew := HEW.out 8
      go_wp2_with (first | (refine wpList_loadElem (by rfl) _ rfl gE rfl _ hew s1 ?_) | (refine wpList_storeElem (by rfl) _ _ rfl gR rfl _ hew rfl _ z8 p1 ?_; intro w7 q7 he))
      exact bodyPost_ret (ret_elem rfl _ _ gR _ hew rfl q7) rfl ⟨rfl, HB1.out.trans (he.below n5)⟩
end Go.Proofs.YtpgkcddhpeoiiaaGreatDoor
