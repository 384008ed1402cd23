/-
  The document's Height and End of shapes. Conditions: a slice of factors in memory, 64 words below 2^64 each.
-/
import Derived.Test.YtpgkcddhpeoiiaaGreatDoorShapeM
import Derived.Test.YtpgkcddhpeoiiaaGreatDoorShapeF
namespace Go.Proofs.YtpgkcddhpeoiiaaGreatDoor
open Go.RowKit RM

theorem fac_height {f : Fac} (h : facB f = true) : (f.kind = 1 ∧ htW f = f.names.length - 1) ∨ (f.kind = 2 ∧ htW f = f.names.length) ∨ (f.kind = 3 ∧ htW f = gHeight f.n f.l) ∨ (f.kind = 4 ∧ htW f = top f.n f.l) := by
  rcases facB_kind h with e | e | ⟨e, _⟩ | ⟨e, _⟩
  · exact .inl ⟨e, by unfold htW; rw [if_pos e]⟩
  · exact .inr (.inl ⟨e, by unfold htW; rw [if_neg (by rw [e]; decide), if_pos e]⟩)
  · exact .inr (.inr (.inl ⟨e, by unfold htW; rw [if_neg (by rw [e]; decide), if_neg (by rw [e]; decide), if_pos e]⟩))
  · exact .inr (.inr (.inr ⟨e, by unfold htW; rw [if_neg (by rw [e]; decide), if_neg (by rw [e]; decide), if_neg (by rw [e]; decide)]⟩))
theorem fac_top {f : Fac} (h : facB f = true) : (f.kind = 1 ∧ topW f = MM.belowN ((f.names.length : Int) - 1)) ∨ (f.kind = 2 ∧ topW f = MM.belowN f.names.length) ∨ (f.kind = 3 ∧ topW f = gTop f.n f.l) ∨ (f.kind = 4 ∧ topW f = wordN f.n f.l (((topR f.n f.l).getD 0 : Nat) : Int)) := by
  rcases facB_kind h with e | e | ⟨e, _⟩ | ⟨e, _⟩
  · exact .inl ⟨e, by unfold topW; rw [if_pos e]⟩
  · exact .inr (.inl ⟨e, by unfold topW; rw [if_neg (by rw [e]; decide), if_pos e]⟩)
  · exact .inr (.inr (.inl ⟨e, by unfold topW; rw [if_neg (by rw [e]; decide), if_neg (by rw [e]; decide), if_pos e]⟩))
  · exact .inr (.inr (.inr ⟨e, by unfold topW; rw [if_neg (by rw [e]; decide), if_neg (by rw [e]; decide), if_neg (by rw [e]; decide)]⟩))
theorem fac_bot {f : Fac} (h : facB f = true) : (f.kind = 1 ∧ botW f = 0) ∨ (f.kind = 2 ∧ botW f = 0) ∨ (f.kind = 3 ∧ botW f = 0) ∨ (f.kind = 4 ∧ botW f = wordN f.n f.l (((bottomR f.n f.l).getD 0 : Nat) : Int)) := by
  rcases facB_kind h with e | e | ⟨e, _⟩ | ⟨e, _⟩
  · exact .inl ⟨e, by unfold botW; rw [if_neg (by rw [e]; decide)]⟩
  · exact .inr (.inl ⟨e, by unfold botW; rw [if_neg (by rw [e]; decide)]⟩)
  · exact .inr (.inr (.inl ⟨e, by unfold botW; rw [if_neg (by rw [e]; decide)]⟩))
  · exact .inr (.inr (.inr ⟨e, by unfold botW; rw [if_pos e]⟩))
theorem fac_ord {f : Fac} (h : facB f = true) (e : f.kind = 4) : ordR f.n f.l = true := by
  rcases facB_kind h with e1 | e1 | ⟨e1, _⟩ | ⟨_, h5⟩
  · rw [e] at e1; exact absurd e1 (by decide)
  · rw [e] at e1; exact absurd e1 (by decide)
  · rw [e] at e1; exact absurd e1 (by decide)
  · exact lat_ord h5
theorem sdTo_skip {F : Nat → Nat} {p k : Nat} (h : F k = 0) : sdTo F p (k + 1) = sdTo F p k := by
  unfold sdTo
  refine List.map_congr_left fun i _ => ?_
  by_cases h1 : i < k
  · rw [if_pos h1, if_pos (by omega)]
  · rw [if_neg h1]
    by_cases h2 : i = k
    · subst h2; rw [if_pos (by omega), h]
    · rw [if_neg (by omega)]
theorem rows3b (w : World) (a b c : Array Value) (ta tb tc : TypeId) :
    RowAt (((w.alloc (.cells a ta)).alloc (.cells b tb)).alloc (.cells c tc)) w.heap.size ta a ∧ RowAt (((w.alloc (.cells a ta)).alloc (.cells b tb)).alloc (.cells c tc)) (w.heap.size + 1) tb b ∧
    RowAt (((w.alloc (.cells a ta)).alloc (.cells b tb)).alloc (.cells c tc)) (w.heap.size + 2) tc c ∧ Below w.heap.size w (((w.alloc (.cells a ta)).alloc (.cells b tb)).alloc (.cells c tc)) := by
  refine ⟨((RowAt.new w ta a).alloc _).alloc _, ?_, ?_, (((Below.refl _ _).alloc (Nat.le_refl _) _).alloc (by simp) _).alloc (by simp; omega) _⟩
  · have := (RowAt.new (w.alloc (.cells a ta)) tb b).alloc (.cells c tc)
    simpa using this
  · have := RowAt.new ((w.alloc (.cells a ta)).alloc (.cells b tb)) tc c
    simpa using this

set_option maxRecDepth 8000 in
set_option maxHeartbeats 4000000 in
theorem qheight7_any (t : Bool) (A : Option Addr) (c : Nat) (fs : List Fac) (w : World) (hF : Facs w A fs) :
    Calls Tryz.prog 16 #[.agg (sv t A fs.length c)] w fun x w' => x = .returned (.int .i64 ((heightE t fs : Nat) : Int)) ∧ Below w.heap.size w w' := by
  have r0 := RowAt.new w 24 (sv t A fs.length c)
  have HB0 : Hid (Below w.heap.size w (w.alloc (.cells (sv t A fs.length c) 24))) := (Below.refl _ _).alloc (Nat.le_refl _) _
  have HRI : Hid (∀ W, Below w.heap.size w W → Calls Tryz.prog 9 #[.agg (sv t A fs.length c)] W fun x w' => x = .returned (.bool (rightS t fs)) ∧ Below W.heap.size W w') := fun W h => qright7_any t A c fs W (hF.below h)
  have HS : Hid (∀ W, RowAt W w.heap.size 24 (sv t A fs.length c) → W.cell? ⟨w.heap.size, 0, none⟩ = some (.bool t) ∧ W.cell? ⟨w.heap.size, 1, none⟩ = some (.slice A fs.length c)) := fun W h => shape_cells h
  have HF : Hid (∀ W, Below w.heap.size w W → Facs W A fs) := fun W h => hF.below h
  clear hF
  cases hr : rightS t fs with
  | false =>
    rw [heightE_no hr]
    rw [hr] at HRI
    clear hr HF
    generalize fs.length = n at *
    go_enter Tryz.func16, Tryz.ntmps16
    go_upto_region 1 with fail
    generalize w.alloc (.cells (sv t A n c) 24) = w0 at *
    go_wp2_with fail
    go_loopw [3, 4, 5, 6] (fun sv' kv _ _ wr => sv' = .int .i64 0 ∧ kv = .int .i64 0 ∧ RowAt wr w.heap.size 24 (sv t A n c) ∧ Hid (Below w.heap.size w wr)) (fun _ _ _ _ _ => 0)
    case atStart => exact ⟨rfl, rfl, r0, HB0⟩
    case round =>
      clear r0 HB0
      obtain ⟨rfl, rfl, r1, HB1⟩ := hrel
      go_wp2_with (refine wpList_loadShape (by rfl) _ rfl w.heap.size rfl t A n c r1 ?_)
      refine (HRI.out _ HB1.out).mono ?_
      rintro e w2 ⟨rfl, hb⟩
      have HB2 := Lib.hid (HB1.out.trans (hb.mono HB1.out.size))
      clear hb  HB1
      go_wp2_with fail
      go_ret
      exact ⟨rfl, HB2.out⟩
  | true =>
    rw [heightE_yes hr]
    have hlen := right_len hr
    have HV : Hid (∀ k, k < fs.length → facB (fs.getD k f0) = true) := fun k hk => right_fac hr hk
    have HLE : Hid (∀ k, k ≤ fs.length → htTo fs k ≤ 64 * k) := htTo_le fun k hk => htW_le (right_fac hr hk)
    have HSU : Hid (∀ k, htTo fs (k + 1) = htTo fs k + htW (fs.getD k f0)) := htTo_succ fs
    have HZ : Hid (htTo fs 0 = 0) := rfl
    rw [hr] at HRI
    clear hr
    generalize htTo fs = G at *
    generalize hn : fs.length = n at *
    have HN := Lib.hid hn; clear hn
    have hlen2 := hlen.2
    clear hlen
    go_enter Tryz.func16, Tryz.ntmps16
    go_upto_region 1 with fail
    generalize w.alloc (.cells (sv t A n c) 24) = w0 at *
    go_wp2_with fail
    go_loopw [3, 4, 5, 6] (fun sv' kv _ _ wr => ∃ k : Nat, k ≤ n ∧ kv = .int .i64 k ∧ sv' = .int .i64 ((G k : Nat) : Int) ∧ RowAt wr w.heap.size 24 (sv t A n c) ∧ Hid (Below w.heap.size w wr)) (fun _ kv _ _ _ => n - (intOf kv).toNat)
    case atStart => exact ⟨0, by omega, rfl, by rw [HZ.out]; rfl, r0, HB0⟩
    case round =>
      clear r0 HB0
      obtain ⟨k, hk, rfl, rfl, r1, HB1⟩ := hrel
      go_wp2_with (refine wpList_loadShape (by rfl) _ rfl w.heap.size rfl t A n c r1 ?_)
      refine (HRI.out _ HB1.out).mono ?_
      rintro e w2 ⟨rfl, hb⟩
      have r2 := r1.below hb r1.lt
      have HB2 := Lib.hid (HB1.out.trans (hb.mono HB1.out.size))
      clear hb r1 HB1
      obtain ⟨c0, c1⟩ := HS.out _ r2
      by_cases hlt : k < n
      · have hFk := HF.out _ HB2.out
        obtain ⟨b, o, rfl, _, hr⟩ := hFk.at (k := k) (by rw [HN.out]; exact hlt)
        have hrg := hr k (by rw [HN.out]; exact hlt)
        have hl := (hFk.okAt (i := k) (by rw [HN.out]; exact hlt)).rows
        clear hr hFk
        have hv := HV.out k hlt
        obtain ⟨hm1, hm2⟩ := facB_len hv
        have HC : Hid (∀ W g, RowAt W g 46 (fv (fs.getD k f0)) → W.cell? ⟨g, 0, none⟩ = some (.int .i64 (fs.getD k f0).kind) ∧ W.cell? ⟨g, 1, none⟩ = some (.slice (fs.getD k f0).A (fs.getD k f0).names.length (fs.getD k f0).c) ∧ W.rangeAt g 2 (rvl (fs.getD k f0).n (fs.getD k f0).l)) := fun W g h => ⟨(fac_cells h).1, (fac_cells h).2.1, (fac_cells h).2.2.2⟩
        have hkx := fac_height hv
        have HOR : Hid ((fs.getD k f0).kind = 4 → ordR (fs.getD k f0).n (fs.getD k f0).l = true) := fac_ord hv
        have h1 := HLE.out (k + 1) (by omega)
        have h2 := HSU.out k
        have HGH : Hid (∀ W, Calls Tryz.prog 41 #[.agg (rv (fs.getD k f0).n (fs.getD k f0).l)] W fun x w' => x = .returned (.int .i64 ((gHeight (fs.getD k f0).n (fs.getD k f0).l : Nat) : Int)) ∧ Below W.heap.size W w') := qheight_any _ _ hl
        have HLA : Hid ((fs.getD k f0).kind = 4 → ∀ W, Calls Tryz.prog 42 #[.agg (rv (fs.getD k f0).n (fs.getD k f0).l)] W fun x w' => x = .returned (.tuple #[.int .i64 ((top (fs.getD k f0).n (fs.getD k f0).l : Nat) : Int), .bool true]) ∧ Below W.heap.size W w') := fun e W => qlong_yes _ _ hl (HOR.out e) W
        clear hv HOR
        generalize htW (fs.getD k f0) = x at *
        generalize fs.getD k f0 = f at *
        generalize gHeight f.n f.l = y3 at *
        generalize top f.n f.l = y4 at *
        generalize f.kind = kd at *
        generalize f.names.length = m at *
        have H2 := Lib.hid h2
        have h3 : G k + x ≤ 1024 := by omega
        clear h1 h2
        generalize G k = y at *
        rcases hkx with ⟨rfl, rfl⟩ | ⟨rfl, rfl⟩ | ⟨rfl, rfl⟩ | ⟨rfl, rfl⟩
        · clear HGH HLA
          go_wp2_with (first | (refine wpList_loadFacIn (by rfl) _ rfl b (o + k * 67) rfl f hl hrg ?_) | (refine wpList_storeFac (by rfl) _ _ rfl w2.heap.size rfl f hl rfl _ zero_fac_size (RowAt.new _ _ _) ?_; intro w4 s4 he; have r4 := (r2.alloc (.cells Tryz.zeroCells46 46)).other he (Nat.ne_of_lt r2.lt); have HB4 := Lib.hid (below_made HB2.out HB2.out.size he); obtain ⟨a0, a1, a3⟩ := HC.out _ _ s4; clear he hrg r2 HB2) | (refine wpList_loadRelIn (by rfl) _ rfl w2.heap.size 2 rfl f.n f.l hl a3 ?_))
          go_roundw
          case rel => exact ⟨k + 1, by omega, by go_num, int_eq (by rw [H2.out]; first | omega | (unfold IntKind.wrap; omega)), r4, HB4⟩
          case measure => simp [intOf]; omega
        · clear HGH HLA
          go_wp2_with (first | (refine wpList_loadFacIn (by rfl) _ rfl b (o + k * 67) rfl f hl hrg ?_) | (refine wpList_storeFac (by rfl) _ _ rfl w2.heap.size rfl f hl rfl _ zero_fac_size (RowAt.new _ _ _) ?_; intro w4 s4 he; have r4 := (r2.alloc (.cells Tryz.zeroCells46 46)).other he (Nat.ne_of_lt r2.lt); have HB4 := Lib.hid (below_made HB2.out HB2.out.size he); obtain ⟨a0, a1, a3⟩ := HC.out _ _ s4; clear he hrg r2 HB2) | (refine wpList_loadRelIn (by rfl) _ rfl w2.heap.size 2 rfl f.n f.l hl a3 ?_))
          go_roundw
          case rel => exact ⟨k + 1, by omega, by go_num, int_eq (by rw [H2.out]; first | omega | (unfold IntKind.wrap; omega)), r4, HB4⟩
          case measure => simp [intOf]; omega
        · clear HLA
          go_wp2_with (first | (refine wpList_loadFacIn (by rfl) _ rfl b (o + k * 67) rfl f hl hrg ?_) | (refine wpList_storeFac (by rfl) _ _ rfl w2.heap.size rfl f hl rfl _ zero_fac_size (RowAt.new _ _ _) ?_; intro w4 s4 he; have r4 := (r2.alloc (.cells Tryz.zeroCells46 46)).other he (Nat.ne_of_lt r2.lt); have HB4 := Lib.hid (below_made HB2.out HB2.out.size he); obtain ⟨a0, a1, a3⟩ := HC.out _ _ s4; clear he hrg r2 HB2) | (refine wpList_loadRelIn (by rfl) _ rfl w2.heap.size 2 rfl f.n f.l hl a3 ?_))
          refine (HGH.out w4).mono ?_
          rintro e w5 ⟨rfl, hb⟩
          have HB5 := Lib.hid (HB4.out.trans (hb.mono HB4.out.size))
          have r5 := r4.below hb r4.lt
          have s5 := s4.below hb s4.lt
          clear a0 a1 a3
          obtain ⟨a0, a1, a3⟩ := HC.out _ _ s5
          clear hb r4 HB4 s4
          go_wp2_with fail
          go_roundw
          case rel => exact ⟨k + 1, by omega, by go_num, int_eq (by rw [H2.out]; first | omega | (unfold IntKind.wrap; omega)), r5, HB5⟩
          case measure => simp [intOf]; omega
        · have HLO := Lib.hid (HLA.out rfl)
          clear HGH HLA
          go_wp2_with (first | (refine wpList_loadFacIn (by rfl) _ rfl b (o + k * 67) rfl f hl hrg ?_) | (refine wpList_storeFac (by rfl) _ _ rfl w2.heap.size rfl f hl rfl _ zero_fac_size (RowAt.new _ _ _) ?_; intro w4 s4 he; have r4 := (r2.alloc (.cells Tryz.zeroCells46 46)).other he (Nat.ne_of_lt r2.lt); have HB4 := Lib.hid (below_made HB2.out HB2.out.size he); obtain ⟨a0, a1, a3⟩ := HC.out _ _ s4; clear he hrg r2 HB2) | (refine wpList_loadRelIn (by rfl) _ rfl w2.heap.size 2 rfl f.n f.l hl a3 ?_))
          refine (HLO.out w4).mono ?_
          rintro e w5 ⟨rfl, hb⟩
          have HB5 := Lib.hid (HB4.out.trans (hb.mono HB4.out.size))
          have r5 := r4.below hb r4.lt
          have s5 := s4.below hb s4.lt
          clear a0 a1 a3
          obtain ⟨a0, a1, a3⟩ := HC.out _ _ s5
          clear hb r4 HB4 s4
          go_wp2_with fail
          go_roundw
          case rel => exact ⟨k + 1, by omega, by go_num, int_eq (by rw [H2.out]; first | omega | (unfold IntKind.wrap; omega)), r5, HB5⟩
          case measure => simp [intOf]; omega
      · have e1 : k = n := by omega
        subst e1
        go_wp2_with fail
        go_ret
        exact ⟨rfl, HB2.out⟩

set_option maxRecDepth 8000 in
set_option maxHeartbeats 4000000 in
theorem qbottom7_any (t : Bool) (A : Option Addr) (c : Nat) (fs : List Fac) (w : World) (hF : Facs w A fs) :
    Calls Tryz.prog 13 #[.agg (sv t A fs.length c), .bool false] w fun x w' => x = .returned (.agg (uv (endE t fs botW))) ∧ Below w.heap.size w w' := by
  have z8 := EW.zeros
  have he8 := endE_ew t fs botW_lt
  obtain ⟨r0, q0, p0, hb0⟩ := rows3b w (sv t A fs.length c) (uv (List.replicate 8 0)) (uv (List.replicate 8 0)) 24 30 30
  have HB0 := Lib.hid hb0; clear hb0
  have HRI : Hid (∀ W, Below w.heap.size w W → Calls Tryz.prog 9 #[.agg (sv t A fs.length c)] W fun x w' => x = .returned (.bool (rightS t fs)) ∧ Below W.heap.size W w') := fun W h => qright7_any t A c fs W (hF.below h)
  have HS : Hid (∀ W, RowAt W w.heap.size 24 (sv t A fs.length c) → W.cell? ⟨w.heap.size, 0, none⟩ = some (.bool t) ∧ W.cell? ⟨w.heap.size, 1, none⟩ = some (.slice A fs.length c)) := fun W h => shape_cells h
  have HF : Hid (∀ W, Below w.heap.size w W → Facs W A fs) := fun W h => hF.below h
  clear hF
  cases hr : rightS t fs with
  | false =>
    rw [endE_no hr]
    rw [hr] at HRI
    clear hr HF he8
    generalize fs.length = n at *
    rw [← zero_elem] at r0 q0 p0 HB0
    go_enter Tryz.func13, Tryz.ntmps13
    go_upto_region 2 with fail
    rw [zero_elem] at r0 q0 p0 HB0 ⊢
    generalize ((w.alloc (.cells (sv t A n c) 24)).alloc (.cells (uv (List.replicate 8 0)) 30)).alloc (.cells (uv (List.replicate 8 0)) 30) = w0 at *
    go_wp2_with fail
    go_loopw [6, 7, 8, 9, 10] (fun kv _ _ _ _ wr => kv = .int .i64 0 ∧ RowAt wr w.heap.size 24 (sv t A n c) ∧ RowAt wr (w.heap.size + 1) 30 (uv (List.replicate 8 0)) ∧ RowAt wr (w.heap.size + 2) 30 (uv (List.replicate 8 0)) ∧ Hid (Below w.heap.size w wr)) (fun _ _ _ _ _ _ => 0)
    case atStart => exact ⟨rfl, r0, q0, p0, HB0⟩
    case round =>
      clear r0 q0 p0 HB0
      obtain ⟨rfl, r1, q1, p1, HB1⟩ := hrel
      go_wp2_with (refine wpList_loadShape (by rfl) _ rfl w.heap.size rfl t A n c r1 ?_)
      refine (HRI.out _ HB1.out).mono ?_
      rintro e w2 ⟨rfl, hb⟩
      have r2 := r1.below hb r1.lt
      have q2 := q1.below hb q1.lt
      have p2 := p1.below hb p1.lt
      have HB2 := Lib.hid (HB1.out.trans (hb.mono HB1.out.size))
      clear hb r1 q1 p1 HB1
      go_wp2_with (first | (refine wpList_loadElem (by rfl) _ rfl (w.heap.size + 2) rfl _ z8 p2 ?_) | (refine wpList_storeElem (by rfl) _ _ rfl (w.heap.size + 1) rfl _ z8 rfl _ z8 q2 ?_; intro w7 q7 he))
      exact bodyPost_ret (ret_elem rfl _ _ (w.heap.size + 1) _ z8 rfl q7) rfl ⟨rfl, HB2.out.trans (he.below (by omega))⟩
  | true =>
    rw [endE_yes hr]
    have hlen := right_len hr
    have HV : Hid (∀ k, k < fs.length → facB (fs.getD k f0) = true) := fun k hk => right_fac hr hk
    have HEW : Hid (∀ k, EW (sdTo (fun i => botW (fs.getD i f0)) 8 k)) := sdTo_ew fun i => botW_lt _
    have HZ : Hid (sdTo (fun i => botW (fs.getD i f0)) 8 0 = List.replicate 8 0) := sdTo_zero _ 8
    have HNX : Hid (∀ k, (uv (sdTo (fun i => botW (fs.getD i f0)) 8 k)).setIfInBounds k (.int .u64 ((botW (fs.getD k f0) : Nat) : Int)) = uv (sdTo (fun i => botW (fs.getD i f0)) 8 (k + 1))) := fun k => by rw [uv_set, ← sdTo_set]
    have HSKA : Hid (∀ k, botW (fs.getD k f0) = 0 → sdTo (fun i => botW (fs.getD i f0)) 8 (k + 1) = sdTo (fun i => botW (fs.getD i f0)) 8 k) := fun k h => sdTo_skip h
    rw [hr] at HRI
    clear hr he8
    generalize sdTo (fun i => botW (fs.getD i f0)) 8 = G at *
    generalize hn : fs.length = n at *
    have HN := Lib.hid hn; clear hn
    rw [← zero_elem] at r0 q0 p0 HB0
    go_enter Tryz.func13, Tryz.ntmps13
    go_upto_region 2 with fail
    rw [zero_elem] at r0 q0 p0 HB0 ⊢
    generalize ((w.alloc (.cells (sv t A n c) 24)).alloc (.cells (uv (List.replicate 8 0)) 30)).alloc (.cells (uv (List.replicate 8 0)) 30) = w0 at *
    rw [← HZ.out] at p0
    have hlen2 := hlen.2
    have hg1 : w.heap.size ≤ w.heap.size + 2 := by omega
    have hg2 : w.heap.size + 1 ≠ w.heap.size + 2 := by omega
    have hg3 : w.heap.size ≠ w.heap.size + 2 := by omega
    generalize w.heap.size + 2 = gE at *
    go_wp2_with fail
    go_loopw [6, 7, 8, 9, 10] (fun kv _ _ _ _ wr => ∃ k : Nat, k ≤ n ∧ kv = .int .i64 k ∧ RowAt wr w.heap.size 24 (sv t A n c) ∧ RowAt wr (w.heap.size + 1) 30 (uv (List.replicate 8 0)) ∧ RowAt wr gE 30 (uv (G k)) ∧ Hid (Below w.heap.size w wr)) (fun kv _ _ _ _ _ => n - (intOf kv).toNat)
    case atStart => exact ⟨0, by omega, rfl, r0, q0, p0, HB0⟩
    case round =>
      clear r0 q0 p0 HB0
      obtain ⟨k, hk, rfl, r1, q1, p1, HB1⟩ := hrel
      go_wp2_with (refine wpList_loadShape (by rfl) _ rfl w.heap.size rfl t A n c r1 ?_)
      refine (HRI.out _ HB1.out).mono ?_
      rintro e w2 ⟨rfl, hb⟩
      have r2 := r1.below hb r1.lt
      have q2 := q1.below hb q1.lt
      have p2 := p1.below hb p1.lt
      have HB2 := Lib.hid (HB1.out.trans (hb.mono HB1.out.size))
      clear hb r1 q1 p1 HB1
      obtain ⟨c0, c1⟩ := HS.out _ r2
      by_cases hlt : k < n
      · have hk8 : (k : Int) < 8 := by omega
        have hFk := HF.out _ HB2.out
        obtain ⟨b, o, rfl, _, hr⟩ := hFk.at (k := k) (by rw [HN.out]; exact hlt)
        have hrg := hr k (by rw [HN.out]; exact hlt)
        have hl := (hFk.okAt (i := k) (by rw [HN.out]; exact hlt)).rows
        clear hr hFk
        have hv := HV.out k hlt
        obtain ⟨hm1, hm2⟩ := facB_len hv
        have HC : Hid (∀ W g, RowAt W g 46 (fv (fs.getD k f0)) → W.cell? ⟨g, 0, none⟩ = some (.int .i64 (fs.getD k f0).kind) ∧ W.cell? ⟨g, 1, none⟩ = some (.slice (fs.getD k f0).A (fs.getD k f0).names.length (fs.getD k f0).c) ∧ W.rangeAt g 2 (rvl (fs.getD k f0).n (fs.getD k f0).l)) := fun W g h => ⟨(fac_cells h).1, (fac_cells h).2.1, (fac_cells h).2.2.2⟩
        have hsk := HSKA.out k
        have hnx := HNX.out k
        have HCE := Lib.hid (ev_at (HEW.out k) k (by omega))
        have hkx := fac_bot hv
        have HEN : Hid (∀ W, Calls Tryz.prog 35 #[.agg (rv (fs.getD k f0).n (fs.getD k f0).l), .bool false] W fun x w' => x = .returned (.tuple #[.int .i64 (((bottomR (fs.getD k f0).n (fs.getD k f0).l).getD 0 : Nat) : Int), .bool (bottomR (fs.getD k f0).n (fs.getD k f0).l).isSome]) ∧ Below W.heap.size W w') := hqbottom_any _ _ hl
        have HWD : Hid (∀ W, Calls Tryz.prog 36 #[.agg (rv (fs.getD k f0).n (fs.getD k f0).l), .int .i64 (((bottomR (fs.getD k f0).n (fs.getD k f0).l).getD 0 : Nat) : Int)] W fun x w' => x = .returned (.int .u64 ((wordN (fs.getD k f0).n (fs.getD k f0).l (((bottomR (fs.getD k f0).n (fs.getD k f0).l).getD 0 : Nat) : Int) : Nat) : Int)) ∧ Below W.heap.size W w') := qword_any _ _ hl _
        clear hv
        generalize wordN (fs.getD k f0).n (fs.getD k f0).l (((bottomR (fs.getD k f0).n (fs.getD k f0).l).getD 0 : Nat) : Int) = y4 at *
        generalize (bottomR (fs.getD k f0).n (fs.getD k f0).l).getD 0 = e4 at *
        generalize (bottomR (fs.getD k f0).n (fs.getD k f0).l).isSome = b4 at *
        generalize (G k).getD k 0 = x0 at *
        generalize botW (fs.getD k f0) = x at *
        generalize fs.getD k f0 = f at *
        generalize f.kind = kd at *
        generalize f.names.length = m at *
        have HNX2 := Lib.hid hnx; clear hnx
        have HSK0 := Lib.hid hsk; clear hsk
        rcases hkx with ⟨rfl, hx⟩ | ⟨rfl, hx⟩ | ⟨rfl, hx⟩ | ⟨rfl, hx⟩
        · have HSK := Lib.hid (HSK0.out hx)
          clear HSK0 hx HEN HWD HNX2 HCE
          go_wp2_with (first | (refine wpList_loadFacIn (by rfl) _ rfl b (o + k * 67) rfl f hl hrg ?_) | (refine wpList_storeFac (by rfl) _ _ rfl w2.heap.size rfl f hl rfl _ zero_fac_size (RowAt.new _ _ _) ?_; intro w4 s4 he; have r4 := (r2.alloc (.cells Tryz.zeroCells46 46)).other he (Nat.ne_of_lt r2.lt); have q4 := (q2.alloc (.cells Tryz.zeroCells46 46)).other he (Nat.ne_of_lt q2.lt); have p4 := (p2.alloc (.cells Tryz.zeroCells46 46)).other he (Nat.ne_of_lt p2.lt); have HB4 := Lib.hid (below_made HB2.out HB2.out.size he); obtain ⟨a0, a1, a3⟩ := HC.out _ _ s4; clear he hrg r2 q2 p2 HB2) | (refine wpList_loadRelIn (by rfl) _ rfl w2.heap.size 2 rfl f.n f.l hl a3 ?_))
          rw [← HSK.out] at p4
          go_roundw
          case rel => exact ⟨k + 1, by omega, by go_num, r4, q4, p4, HB4⟩
          case measure => simp [intOf]; omega
        · have HSK := Lib.hid (HSK0.out hx)
          clear HSK0 hx HEN HWD HNX2 HCE
          go_wp2_with (first | (refine wpList_loadFacIn (by rfl) _ rfl b (o + k * 67) rfl f hl hrg ?_) | (refine wpList_storeFac (by rfl) _ _ rfl w2.heap.size rfl f hl rfl _ zero_fac_size (RowAt.new _ _ _) ?_; intro w4 s4 he; have r4 := (r2.alloc (.cells Tryz.zeroCells46 46)).other he (Nat.ne_of_lt r2.lt); have q4 := (q2.alloc (.cells Tryz.zeroCells46 46)).other he (Nat.ne_of_lt q2.lt); have p4 := (p2.alloc (.cells Tryz.zeroCells46 46)).other he (Nat.ne_of_lt p2.lt); have HB4 := Lib.hid (below_made HB2.out HB2.out.size he); obtain ⟨a0, a1, a3⟩ := HC.out _ _ s4; clear he hrg r2 q2 p2 HB2) | (refine wpList_loadRelIn (by rfl) _ rfl w2.heap.size 2 rfl f.n f.l hl a3 ?_))
          rw [← HSK.out] at p4
          go_roundw
          case rel => exact ⟨k + 1, by omega, by go_num, r4, q4, p4, HB4⟩
          case measure => simp [intOf]; omega
        · have HSK := Lib.hid (HSK0.out hx)
          clear HSK0 hx HEN HWD HNX2 HCE
          go_wp2_with (first | (refine wpList_loadFacIn (by rfl) _ rfl b (o + k * 67) rfl f hl hrg ?_) | (refine wpList_storeFac (by rfl) _ _ rfl w2.heap.size rfl f hl rfl _ zero_fac_size (RowAt.new _ _ _) ?_; intro w4 s4 he; have r4 := (r2.alloc (.cells Tryz.zeroCells46 46)).other he (Nat.ne_of_lt r2.lt); have q4 := (q2.alloc (.cells Tryz.zeroCells46 46)).other he (Nat.ne_of_lt q2.lt); have p4 := (p2.alloc (.cells Tryz.zeroCells46 46)).other he (Nat.ne_of_lt p2.lt); have HB4 := Lib.hid (below_made HB2.out HB2.out.size he); obtain ⟨a0, a1, a3⟩ := HC.out _ _ s4; clear he hrg r2 q2 p2 HB2) | (refine wpList_loadRelIn (by rfl) _ rfl w2.heap.size 2 rfl f.n f.l hl a3 ?_))
          rw [← HSK.out] at p4
          go_roundw
          case rel => exact ⟨k + 1, by omega, by go_num, r4, q4, p4, HB4⟩
          case measure => simp [intOf]; omega
        · subst hx
          clear HSK0
          go_wp2_with (first | (refine wpList_loadFacIn (by rfl) _ rfl b (o + k * 67) rfl f hl hrg ?_) | (refine wpList_storeFac (by rfl) _ _ rfl w2.heap.size rfl f hl rfl _ zero_fac_size (RowAt.new _ _ _) ?_; intro w4 s4 he; have r4 := (r2.alloc (.cells Tryz.zeroCells46 46)).other he (Nat.ne_of_lt r2.lt); have q4 := (q2.alloc (.cells Tryz.zeroCells46 46)).other he (Nat.ne_of_lt q2.lt); have p4 := (p2.alloc (.cells Tryz.zeroCells46 46)).other he (Nat.ne_of_lt p2.lt); have HB4 := Lib.hid (below_made HB2.out HB2.out.size he); obtain ⟨a0, a1, a3⟩ := HC.out _ _ s4; clear he hrg r2 q2 p2 HB2) | (refine wpList_loadRelIn (by rfl) _ rfl w2.heap.size 2 rfl f.n f.l hl a3 ?_))
          refine (HEN.out w4).mono ?_
          rintro e w5 ⟨rfl, hb⟩
          have r5 := r4.below hb r4.lt
          have q5 := q4.below hb q4.lt
          have p5 := p4.below hb p4.lt
          have HB5 := Lib.hid (HB4.out.trans (hb.mono HB4.out.size))
          have s5 := s4.below hb s4.lt
          clear a0 a1 a3
          obtain ⟨a0, a1, a3⟩ := HC.out _ _ s5
          clear hb s4 r4 q4 p4 HB4
          go_wp2_with (refine wpList_loadRelIn (by rfl) _ rfl w2.heap.size 2 rfl f.n f.l hl a3 ?_)
          refine (HWD.out w5).mono ?_
          rintro e w7 ⟨rfl, hb⟩
          have r7 := r5.below hb r5.lt
          have q7 := q5.below hb q5.lt
          have p7 := p5.below hb p5.lt
          have HB7 := Lib.hid (HB5.out.trans (hb.mono HB5.out.size))
          clear hb s5 a0 a1 a3 r5 q5 p5 HB5
          have hce : w7.cell? ⟨gE, k, none⟩ = some (.int .u64 (x0 : Int)) := (p7.cell k).trans HCE.out
          have hfe := p7.free k
          have p6 := p7.put k (.int .u64 (x : Int))
          have q6 := q7.far (p := ⟨gE, k, none⟩) (fun e => hg2 e.symm) (.int .u64 (x : Int))
          have r6 := r7.far (p := ⟨gE, k, none⟩) (fun e => hg3 e.symm) (.int .u64 (x : Int))
          rw [HNX2.out] at p6
          have HB6 := Lib.hid (HB7.out.trans (((Else.setCell w7 ⟨gE, k, none⟩ (.int .u64 (x : Int))).below hg1).mono (Nat.le_refl _)))
          clear HB7 p7 q7 r7
          go_wp2_with fail
          go_roundw
          case rel => exact ⟨k + 1, by omega, by go_num, r6, q6, p6, HB6⟩
          case measure => simp [intOf]; omega
      · have e1 : k = n := by omega
        subst e1
        have hew := HEW.out k
        go_wp2_with (first | (refine wpList_loadElem (by rfl) _ rfl gE rfl _ hew p2 ?_) | (refine wpList_storeElem (by rfl) _ _ rfl (w.heap.size + 1) rfl _ hew rfl _ z8 q2 ?_; intro w7 q7 he))
        exact bodyPost_ret (ret_elem rfl _ _ (w.heap.size + 1) _ hew rfl q7) rfl ⟨rfl, HB2.out.trans (he.below (by omega))⟩

set_option maxRecDepth 8000 in
set_option maxHeartbeats 4000000 in
theorem qtop7_any (t : Bool) (A : Option Addr) (c : Nat) (fs : List Fac) (w : World) (hF : Facs w A fs) :
    Calls Tryz.prog 13 #[.agg (sv t A fs.length c), .bool true] w fun x w' => x = .returned (.agg (uv (endE t fs topW))) ∧ Below w.heap.size w w' := by
  have z8 := EW.zeros
  have he8 := endE_ew t fs topW_lt
  obtain ⟨r0, q0, p0, hb0⟩ := rows3b w (sv t A fs.length c) (uv (List.replicate 8 0)) (uv (List.replicate 8 0)) 24 30 30
  have HB0 := Lib.hid hb0; clear hb0
  have HRI : Hid (∀ W, Below w.heap.size w W → Calls Tryz.prog 9 #[.agg (sv t A fs.length c)] W fun x w' => x = .returned (.bool (rightS t fs)) ∧ Below W.heap.size W w') := fun W h => qright7_any t A c fs W (hF.below h)
  have HS : Hid (∀ W, RowAt W w.heap.size 24 (sv t A fs.length c) → W.cell? ⟨w.heap.size, 0, none⟩ = some (.bool t) ∧ W.cell? ⟨w.heap.size, 1, none⟩ = some (.slice A fs.length c)) := fun W h => shape_cells h
  have HF : Hid (∀ W, Below w.heap.size w W → Facs W A fs) := fun W h => hF.below h
  clear hF
  cases hr : rightS t fs with
  | false =>
    rw [endE_no hr]
    rw [hr] at HRI
    clear hr HF he8
    generalize fs.length = n at *
    rw [← zero_elem] at r0 q0 p0 HB0
    go_enter Tryz.func13, Tryz.ntmps13
    go_upto_region 2 with fail
    rw [zero_elem] at r0 q0 p0 HB0 ⊢
    generalize ((w.alloc (.cells (sv t A n c) 24)).alloc (.cells (uv (List.replicate 8 0)) 30)).alloc (.cells (uv (List.replicate 8 0)) 30) = w0 at *
    go_wp2_with fail
    go_loopw [6, 7, 8, 9, 10] (fun kv _ _ _ _ wr => kv = .int .i64 0 ∧ RowAt wr w.heap.size 24 (sv t A n c) ∧ RowAt wr (w.heap.size + 1) 30 (uv (List.replicate 8 0)) ∧ RowAt wr (w.heap.size + 2) 30 (uv (List.replicate 8 0)) ∧ Hid (Below w.heap.size w wr)) (fun _ _ _ _ _ _ => 0)
    case atStart => exact ⟨rfl, r0, q0, p0, HB0⟩
    case round =>
      clear r0 q0 p0 HB0
      obtain ⟨rfl, r1, q1, p1, HB1⟩ := hrel
      go_wp2_with (refine wpList_loadShape (by rfl) _ rfl w.heap.size rfl t A n c r1 ?_)
      refine (HRI.out _ HB1.out).mono ?_
      rintro e w2 ⟨rfl, hb⟩
      have r2 := r1.below hb r1.lt
      have q2 := q1.below hb q1.lt
      have p2 := p1.below hb p1.lt
      have HB2 := Lib.hid (HB1.out.trans (hb.mono HB1.out.size))
      clear hb r1 q1 p1 HB1
      go_wp2_with (first | (refine wpList_loadElem (by rfl) _ rfl (w.heap.size + 2) rfl _ z8 p2 ?_) | (refine wpList_storeElem (by rfl) _ _ rfl (w.heap.size + 1) rfl _ z8 rfl _ z8 q2 ?_; intro w7 q7 he))
      exact bodyPost_ret (ret_elem rfl _ _ (w.heap.size + 1) _ z8 rfl q7) rfl ⟨rfl, HB2.out.trans (he.below (by omega))⟩
  | true =>
    rw [endE_yes hr]
    have hlen := right_len hr
    have HV : Hid (∀ k, k < fs.length → facB (fs.getD k f0) = true) := fun k hk => right_fac hr hk
    have HEW : Hid (∀ k, EW (sdTo (fun i => topW (fs.getD i f0)) 8 k)) := sdTo_ew fun i => topW_lt _
    have HZ : Hid (sdTo (fun i => topW (fs.getD i f0)) 8 0 = List.replicate 8 0) := sdTo_zero _ 8
    have HNX : Hid (∀ k, (uv (sdTo (fun i => topW (fs.getD i f0)) 8 k)).setIfInBounds k (.int .u64 ((topW (fs.getD k f0) : Nat) : Int)) = uv (sdTo (fun i => topW (fs.getD i f0)) 8 (k + 1))) := fun k => by rw [uv_set, ← sdTo_set]
    have HSKA : Hid (∀ k, topW (fs.getD k f0) = 0 → sdTo (fun i => topW (fs.getD i f0)) 8 (k + 1) = sdTo (fun i => topW (fs.getD i f0)) 8 k) := fun k h => sdTo_skip h
    rw [hr] at HRI
    clear hr he8
    generalize sdTo (fun i => topW (fs.getD i f0)) 8 = G at *
    generalize hn : fs.length = n at *
    have HN := Lib.hid hn; clear hn
    rw [← zero_elem] at r0 q0 p0 HB0
    go_enter Tryz.func13, Tryz.ntmps13
    go_upto_region 2 with fail
    rw [zero_elem] at r0 q0 p0 HB0 ⊢
    generalize ((w.alloc (.cells (sv t A n c) 24)).alloc (.cells (uv (List.replicate 8 0)) 30)).alloc (.cells (uv (List.replicate 8 0)) 30) = w0 at *
    rw [← HZ.out] at p0
    have hlen2 := hlen.2
    have hg1 : w.heap.size ≤ w.heap.size + 2 := by omega
    have hg2 : w.heap.size + 1 ≠ w.heap.size + 2 := by omega
    have hg3 : w.heap.size ≠ w.heap.size + 2 := by omega
    generalize w.heap.size + 2 = gE at *
    go_wp2_with fail
    go_loopw [6, 7, 8, 9, 10] (fun kv _ _ _ _ wr => ∃ k : Nat, k ≤ n ∧ kv = .int .i64 k ∧ RowAt wr w.heap.size 24 (sv t A n c) ∧ RowAt wr (w.heap.size + 1) 30 (uv (List.replicate 8 0)) ∧ RowAt wr gE 30 (uv (G k)) ∧ Hid (Below w.heap.size w wr)) (fun kv _ _ _ _ _ => n - (intOf kv).toNat)
    case atStart => exact ⟨0, by omega, rfl, r0, q0, p0, HB0⟩
    case round =>
      clear r0 q0 p0 HB0
      obtain ⟨k, hk, rfl, r1, q1, p1, HB1⟩ := hrel
      go_wp2_with (refine wpList_loadShape (by rfl) _ rfl w.heap.size rfl t A n c r1 ?_)
      refine (HRI.out _ HB1.out).mono ?_
      rintro e w2 ⟨rfl, hb⟩
      have r2 := r1.below hb r1.lt
      have q2 := q1.below hb q1.lt
      have p2 := p1.below hb p1.lt
      have HB2 := Lib.hid (HB1.out.trans (hb.mono HB1.out.size))
      clear hb r1 q1 p1 HB1
      obtain ⟨c0, c1⟩ := HS.out _ r2
      by_cases hlt : k < n
      · have hk8 : (k : Int) < 8 := by omega
        have hFk := HF.out _ HB2.out
        obtain ⟨b, o, rfl, _, hr⟩ := hFk.at (k := k) (by rw [HN.out]; exact hlt)
        have hrg := hr k (by rw [HN.out]; exact hlt)
        have hl := (hFk.okAt (i := k) (by rw [HN.out]; exact hlt)).rows
        clear hr hFk
        have hv := HV.out k hlt
        obtain ⟨hm1, hm2⟩ := facB_len hv
        have HC : Hid (∀ W g, RowAt W g 46 (fv (fs.getD k f0)) → W.cell? ⟨g, 0, none⟩ = some (.int .i64 (fs.getD k f0).kind) ∧ W.cell? ⟨g, 1, none⟩ = some (.slice (fs.getD k f0).A (fs.getD k f0).names.length (fs.getD k f0).c) ∧ W.rangeAt g 2 (rvl (fs.getD k f0).n (fs.getD k f0).l)) := fun W g h => ⟨(fac_cells h).1, (fac_cells h).2.1, (fac_cells h).2.2.2⟩
        have hsk := HSKA.out k
        have hnx := HNX.out k
        have HCE := Lib.hid (ev_at (HEW.out k) k (by omega))
        have hkx := fac_top hv
        have HGT : Hid (∀ W, Calls Tryz.prog 37 #[.agg (rv (fs.getD k f0).n (fs.getD k f0).l)] W fun x w' => x = .returned (.int .u64 ((gTop (fs.getD k f0).n (fs.getD k f0).l : Nat) : Int)) ∧ Below W.heap.size W w') := qtop_any _ _ hl
        have HB1A : Hid (∀ W, Calls Tryz.prog 38 #[.int .i64 (((fs.getD k f0).names.length : Int) - 1)] W fun x w' => x = .returned (.int .u64 ((MM.belowN (((fs.getD k f0).names.length : Int) - 1) : Nat) : Int)) ∧ Below W.heap.size W w') := refBelow_any _
        have HB2A : Hid (∀ W, Calls Tryz.prog 38 #[.int .i64 ((fs.getD k f0).names.length : Int)] W fun x w' => x = .returned (.int .u64 ((MM.belowN ((fs.getD k f0).names.length : Int) : Nat) : Int)) ∧ Below W.heap.size W w') := refBelow_any _
        have HEN : Hid (∀ W, Calls Tryz.prog 35 #[.agg (rv (fs.getD k f0).n (fs.getD k f0).l), .bool true] W fun x w' => x = .returned (.tuple #[.int .i64 (((topR (fs.getD k f0).n (fs.getD k f0).l).getD 0 : Nat) : Int), .bool (topR (fs.getD k f0).n (fs.getD k f0).l).isSome]) ∧ Below W.heap.size W w') := hqtop_any _ _ hl
        have HWD : Hid (∀ W, Calls Tryz.prog 36 #[.agg (rv (fs.getD k f0).n (fs.getD k f0).l), .int .i64 (((topR (fs.getD k f0).n (fs.getD k f0).l).getD 0 : Nat) : Int)] W fun x w' => x = .returned (.int .u64 ((wordN (fs.getD k f0).n (fs.getD k f0).l (((topR (fs.getD k f0).n (fs.getD k f0).l).getD 0 : Nat) : Int) : Nat) : Int)) ∧ Below W.heap.size W w') := qword_any _ _ hl _
        clear hv
        generalize wordN (fs.getD k f0).n (fs.getD k f0).l (((topR (fs.getD k f0).n (fs.getD k f0).l).getD 0 : Nat) : Int) = y4 at *
        generalize (topR (fs.getD k f0).n (fs.getD k f0).l).getD 0 = e4 at *
        generalize (topR (fs.getD k f0).n (fs.getD k f0).l).isSome = b4 at *
        generalize (G k).getD k 0 = x0 at *
        generalize topW (fs.getD k f0) = x at *
        generalize fs.getD k f0 = f at *
        generalize gTop f.n f.l = y3 at *
        generalize MM.belowN ((f.names.length : Int) - 1) = y1 at *
        generalize MM.belowN (f.names.length : Int) = y2 at *
        generalize f.kind = kd at *
        generalize f.names.length = m at *
        have HNX2 := Lib.hid hnx; clear hnx
        have HSK0 := Lib.hid hsk; clear hsk
        rcases hkx with ⟨rfl, hx⟩ | ⟨rfl, hx⟩ | ⟨rfl, hx⟩ | ⟨rfl, hx⟩
        · subst hx
          clear HB2A HGT HEN HWD HSK0
          have HBE := HB1A
          clear HB1A
          go_wp2_with (first | (refine wpList_loadFacIn (by rfl) _ rfl b (o + k * 67) rfl f hl hrg ?_) | (refine wpList_storeFac (by rfl) _ _ rfl w2.heap.size rfl f hl rfl _ zero_fac_size (RowAt.new _ _ _) ?_; intro w4 s4 he; have r4 := (r2.alloc (.cells Tryz.zeroCells46 46)).other he (Nat.ne_of_lt r2.lt); have q4 := (q2.alloc (.cells Tryz.zeroCells46 46)).other he (Nat.ne_of_lt q2.lt); have p4 := (p2.alloc (.cells Tryz.zeroCells46 46)).other he (Nat.ne_of_lt p2.lt); have HB4 := Lib.hid (below_made HB2.out HB2.out.size he); obtain ⟨a0, a1, a3⟩ := HC.out _ _ s4; clear he hrg r2 q2 p2 HB2) | (refine wpList_loadRelIn (by rfl) _ rfl w2.heap.size 2 rfl f.n f.l hl a3 ?_))
          refine (HBE.out w4).mono ?_
          rintro e w5 ⟨rfl, hb⟩
          have r5 := r4.below hb r4.lt
          have q5 := q4.below hb q4.lt
          have p5 := p4.below hb p4.lt
          have HB5 := Lib.hid (HB4.out.trans (hb.mono HB4.out.size))
          clear hb s4 a0 a1 a3 r4 q4 p4 HB4
          have hce : w5.cell? ⟨gE, k, none⟩ = some (.int .u64 (x0 : Int)) := (p5.cell k).trans HCE.out
          have hfe := p5.free k
          have p6 := p5.put k (.int .u64 (x : Int))
          have q6 := q5.far (p := ⟨gE, k, none⟩) (fun e => hg2 e.symm) (.int .u64 (x : Int))
          have r6 := r5.far (p := ⟨gE, k, none⟩) (fun e => hg3 e.symm) (.int .u64 (x : Int))
          rw [HNX2.out] at p6
          have HB6 := Lib.hid (HB5.out.trans (((Else.setCell w5 ⟨gE, k, none⟩ (.int .u64 (x : Int))).below hg1).mono (Nat.le_refl _)))
          clear HB5 p5 q5 r5
          go_wp2_with fail
          go_roundw
          case rel => exact ⟨k + 1, by omega, by go_num, r6, q6, p6, HB6⟩
          case measure => simp [intOf]; omega
        · subst hx
          clear HB1A HGT HEN HWD HSK0
          have HBE := HB2A
          clear HB2A
          go_wp2_with (first | (refine wpList_loadFacIn (by rfl) _ rfl b (o + k * 67) rfl f hl hrg ?_) | (refine wpList_storeFac (by rfl) _ _ rfl w2.heap.size rfl f hl rfl _ zero_fac_size (RowAt.new _ _ _) ?_; intro w4 s4 he; have r4 := (r2.alloc (.cells Tryz.zeroCells46 46)).other he (Nat.ne_of_lt r2.lt); have q4 := (q2.alloc (.cells Tryz.zeroCells46 46)).other he (Nat.ne_of_lt q2.lt); have p4 := (p2.alloc (.cells Tryz.zeroCells46 46)).other he (Nat.ne_of_lt p2.lt); have HB4 := Lib.hid (below_made HB2.out HB2.out.size he); obtain ⟨a0, a1, a3⟩ := HC.out _ _ s4; clear he hrg r2 q2 p2 HB2) | (refine wpList_loadRelIn (by rfl) _ rfl w2.heap.size 2 rfl f.n f.l hl a3 ?_))
          refine (HBE.out w4).mono ?_
          rintro e w5 ⟨rfl, hb⟩
          have r5 := r4.below hb r4.lt
          have q5 := q4.below hb q4.lt
          have p5 := p4.below hb p4.lt
          have HB5 := Lib.hid (HB4.out.trans (hb.mono HB4.out.size))
          clear hb s4 a0 a1 a3 r4 q4 p4 HB4
          have hce : w5.cell? ⟨gE, k, none⟩ = some (.int .u64 (x0 : Int)) := (p5.cell k).trans HCE.out
          have hfe := p5.free k
          have p6 := p5.put k (.int .u64 (x : Int))
          have q6 := q5.far (p := ⟨gE, k, none⟩) (fun e => hg2 e.symm) (.int .u64 (x : Int))
          have r6 := r5.far (p := ⟨gE, k, none⟩) (fun e => hg3 e.symm) (.int .u64 (x : Int))
          rw [HNX2.out] at p6
          have HB6 := Lib.hid (HB5.out.trans (((Else.setCell w5 ⟨gE, k, none⟩ (.int .u64 (x : Int))).below hg1).mono (Nat.le_refl _)))
          clear HB5 p5 q5 r5
          go_wp2_with fail
          go_roundw
          case rel => exact ⟨k + 1, by omega, by go_num, r6, q6, p6, HB6⟩
          case measure => simp [intOf]; omega
        · subst hx
          clear HB1A HB2A HEN HWD HSK0
          go_wp2_with (first | (refine wpList_loadFacIn (by rfl) _ rfl b (o + k * 67) rfl f hl hrg ?_) | (refine wpList_storeFac (by rfl) _ _ rfl w2.heap.size rfl f hl rfl _ zero_fac_size (RowAt.new _ _ _) ?_; intro w4 s4 he; have r4 := (r2.alloc (.cells Tryz.zeroCells46 46)).other he (Nat.ne_of_lt r2.lt); have q4 := (q2.alloc (.cells Tryz.zeroCells46 46)).other he (Nat.ne_of_lt q2.lt); have p4 := (p2.alloc (.cells Tryz.zeroCells46 46)).other he (Nat.ne_of_lt p2.lt); have HB4 := Lib.hid (below_made HB2.out HB2.out.size he); obtain ⟨a0, a1, a3⟩ := HC.out _ _ s4; clear he hrg r2 q2 p2 HB2) | (refine wpList_loadRelIn (by rfl) _ rfl w2.heap.size 2 rfl f.n f.l hl a3 ?_))
          refine (HGT.out w4).mono ?_
          rintro e w5 ⟨rfl, hb⟩
          have r5 := r4.below hb r4.lt
          have q5 := q4.below hb q4.lt
          have p5 := p4.below hb p4.lt
          have HB5 := Lib.hid (HB4.out.trans (hb.mono HB4.out.size))
          clear hb s4 a0 a1 a3 r4 q4 p4 HB4
          have hce : w5.cell? ⟨gE, k, none⟩ = some (.int .u64 (x0 : Int)) := (p5.cell k).trans HCE.out
          have hfe := p5.free k
          have p6 := p5.put k (.int .u64 (x : Int))
          have q6 := q5.far (p := ⟨gE, k, none⟩) (fun e => hg2 e.symm) (.int .u64 (x : Int))
          have r6 := r5.far (p := ⟨gE, k, none⟩) (fun e => hg3 e.symm) (.int .u64 (x : Int))
          rw [HNX2.out] at p6
          have HB6 := Lib.hid (HB5.out.trans (((Else.setCell w5 ⟨gE, k, none⟩ (.int .u64 (x : Int))).below hg1).mono (Nat.le_refl _)))
          clear HB5 p5 q5 r5
          go_wp2_with fail
          go_roundw
          case rel => exact ⟨k + 1, by omega, by go_num, r6, q6, p6, HB6⟩
          case measure => simp [intOf]; omega
        · subst hx
          clear HB1A HB2A HGT HSK0
          go_wp2_with (first | (refine wpList_loadFacIn (by rfl) _ rfl b (o + k * 67) rfl f hl hrg ?_) | (refine wpList_storeFac (by rfl) _ _ rfl w2.heap.size rfl f hl rfl _ zero_fac_size (RowAt.new _ _ _) ?_; intro w4 s4 he; have r4 := (r2.alloc (.cells Tryz.zeroCells46 46)).other he (Nat.ne_of_lt r2.lt); have q4 := (q2.alloc (.cells Tryz.zeroCells46 46)).other he (Nat.ne_of_lt q2.lt); have p4 := (p2.alloc (.cells Tryz.zeroCells46 46)).other he (Nat.ne_of_lt p2.lt); have HB4 := Lib.hid (below_made HB2.out HB2.out.size he); obtain ⟨a0, a1, a3⟩ := HC.out _ _ s4; clear he hrg r2 q2 p2 HB2) | (refine wpList_loadRelIn (by rfl) _ rfl w2.heap.size 2 rfl f.n f.l hl a3 ?_))
          refine (HEN.out w4).mono ?_
          rintro e w5 ⟨rfl, hb⟩
          have r5 := r4.below hb r4.lt
          have q5 := q4.below hb q4.lt
          have p5 := p4.below hb p4.lt
          have HB5 := Lib.hid (HB4.out.trans (hb.mono HB4.out.size))
          have s5 := s4.below hb s4.lt
          clear a0 a1 a3
          obtain ⟨a0, a1, a3⟩ := HC.out _ _ s5
          clear hb s4 r4 q4 p4 HB4
          go_wp2_with (refine wpList_loadRelIn (by rfl) _ rfl w2.heap.size 2 rfl f.n f.l hl a3 ?_)
          refine (HWD.out w5).mono ?_
          rintro e w7 ⟨rfl, hb⟩
          have r7 := r5.below hb r5.lt
          have q7 := q5.below hb q5.lt
          have p7 := p5.below hb p5.lt
          have HB7 := Lib.hid (HB5.out.trans (hb.mono HB5.out.size))
          clear hb s5 a0 a1 a3 r5 q5 p5 HB5
          have hce : w7.cell? ⟨gE, k, none⟩ = some (.int .u64 (x0 : Int)) := (p7.cell k).trans HCE.out
          have hfe := p7.free k
          have p6 := p7.put k (.int .u64 (x : Int))
          have q6 := q7.far (p := ⟨gE, k, none⟩) (fun e => hg2 e.symm) (.int .u64 (x : Int))
          have r6 := r7.far (p := ⟨gE, k, none⟩) (fun e => hg3 e.symm) (.int .u64 (x : Int))
          rw [HNX2.out] at p6
          have HB6 := Lib.hid (HB7.out.trans (((Else.setCell w7 ⟨gE, k, none⟩ (.int .u64 (x : Int))).below hg1).mono (Nat.le_refl _)))
          clear HB7 p7 q7 r7
          go_wp2_with fail
          go_roundw
          case rel => exact ⟨k + 1, by omega, by go_num, r6, q6, p6, HB6⟩
          case measure => simp [intOf]; omega
      · have e1 : k = n := by omega
        subst e1
        have hew := HEW.out k
        go_wp2_with (first | (refine wpList_loadElem (by rfl) _ rfl gE rfl _ hew p2 ?_) | (refine wpList_storeElem (by rfl) _ _ rfl (w.heap.size + 1) rfl _ hew rfl _ z8 q2 ?_; intro w7 q7 he))
        exact bodyPost_ret (ret_elem rfl _ _ (w.heap.size + 1) _ hew rfl q7) rfl ⟨rfl, HB2.out.trans (he.below (by omega))⟩
end Go.Proofs.YtpgkcddhpeoiiaaGreatDoor
