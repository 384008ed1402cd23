/-
  What Word and Point of layer 6's reference return. Conditions: 64 words below 2^64.
-/
import Derived.Test.YtpgkcddhpeoiiaaGreatDoorHasseP
import Derived.Test.YtpgkcddhpeoiiaaGreatDoorBaseT
namespace Go.Proofs.YtpgkcddhpeoiiaaGreatDoor
open Go.RowKit RM

set_option maxRecDepth 8000 in
set_option maxHeartbeats 1000000 in
theorem qword_any (n : Int) (l : List Nat) (hl : RW l) (i : Int) (w : World) :
    Calls Tryz.prog 36 #[.agg (rv n l), .int .i64 i] w fun e w' => e = .returned (.int .u64 ((wordN n l i : Nat) : Int)) ∧ Below w.heap.size w w' := by
  have hr1 := RelAt.new w n l
  have hb : Below w.heap.size w (w.alloc (.cells (rv n l) 44)) := (Below.refl _ _).alloc (Nat.le_refl _) _
  have HB := Lib.hid hb; clear hb
  have HPT : Hid (∀ w, Calls Tryz.prog 56 #[.agg (rv n l)] w fun e w' => e = .returned (.int .i64 ((pts n : Nat) : Int)) ∧ Below w.heap.size w w') := fun w => qpoints_any n l w
  have HHAS : Hid (∀ (k : Nat) w, Calls Tryz.prog 64 #[.agg (rv n l), .int .i64 (k : Int), .int .i64 i] w fun e w' => e = .returned (.bool (hasR n l k i)) ∧ Below w.heap.size w w') := fun k w => qhas_any n l hl k i w
  have hp := pts_le n
  have HSY : Hid (∀ k : Nat, k < pts n → hasR n l k i = true → MM.elsTo (wordN n l i) (k + 1) = MM.elsTo (wordN n l i) k ++ [k]) := fun k h1 h => elsTo_yes (by rw [wordN_bit, h]; simp [h1])
  have HSN : Hid (∀ k : Nat, k < pts n → hasR n l k i = false → MM.elsTo (wordN n l i) (k + 1) = MM.elsTo (wordN n l i) k) := fun k h1 h => elsTo_no (by rw [wordN_bit, h]; simp)
  have HSE : Hid (MM.elsTo (wordN n l i) (pts n) = MM.els (wordN n l i)) := elsTo_all hp fun t h1 _ => by rw [wordN_bit, show decide (t < pts n) = false by simp; omega]; rfl
  have HOE : Hid (MM.ofN (ei (MM.els (wordN n l i))) = wordN n l i) := ofN_ei (wordN_lt _ _ _)
  generalize wordN n l i = s at *
  generalize hasR n l = R at *
  generalize pts n = p at *
  go_enter Tryz.func36, Tryz.ntmps36
  go_wp2_with fail
  go_loopw [5, 6] (fun lv iv wr => ∃ (i k c : Nat) (A : Option Addr), i ≤ p ∧ iv = .int .i64 i ∧ lv = .slice A k c ∧ Hid (k = (MM.elsTo s i).length) ∧ k ≤ 64 ∧ Hid (OwnI wr w.heap.size A c (ei (MM.elsTo s i))) ∧ RelAt wr w.heap.size n l ∧ Hid (Below w.heap.size w wr)) (fun _ iv _ => p - (intOf iv).toNat)
  case atStart => exact ⟨0, 0, 0, none, by omega, rfl, rfl, rfl, by omega, World.ownsRow_nil _ _ _ _, hr1, HB⟩
  case round =>
    clear hr1 HB
    obtain ⟨j, k, c, A, hj, rfl, rfl, HK, hk, HO, rr, HB⟩ := hrel
    go_wp2_with (refine wpList_loadRel rfl _ rfl w.heap.size rfl _ l hl rr ?_)
    refine (HPT.out _).mono ?_
    rintro e w3 ⟨rfl, hb3⟩
    have s3 := rr.below hb3 rr.lt
    have HO3 : Hid (OwnI w3 w.heap.size A c (ei (MM.elsTo s j))) := own_below HO.out hb3 (Nat.le_refl _)
    have HB3 := Lib.hid (HB.out.trans (hb3.mono HB.out.size))
    clear rr HO HB hb3
    by_cases hlt : j < p
    · go_wp2_with (refine wpList_loadRel rfl _ rfl w.heap.size rfl _ l hl s3 ?_)
      refine (HHAS.out j _).mono ?_
      rintro e w4 ⟨rfl, hb4⟩
      have s1 := s3.below hb4 s3.lt
      have HO4 : Hid (OwnI w4 w.heap.size A c (ei (MM.elsTo s j))) := own_below HO3.out hb4 (Nat.le_refl _)
      have HB4 := Lib.hid (HB3.out.trans (hb4.mono HB3.out.size))
      clear s3 HO3 HB3 hb4
      cases hbt : R (j : Int) i with
      | false =>
        have HP := Lib.hid (HSN.out j hlt hbt)
        clear hbt
        go_wp2_with fail
        go_roundw
        case rel => exact ⟨j + 1, k, c, A, by omega, by go_num, rfl, by rw [HP.out]; exact HK, hk, by rw [HP.out]; exact HO4, s1, HB4⟩
        case measure => simp [intOf]; omega
      | true =>
        have HP := Lib.hid (HSY.out j hlt hbt)
        have hlen := elsTo_le64 s (j + 1) (by omega)
        have HEV : Hid ((j : Int) = ((j : Nat) : Int)) := rfl
        clear hbt
        have hown' : w4.ownsRow w.heap.size 3 1 (.slice A k c) k (cells (ei (MM.elsTo s j))) := by
          have h4 := HO4.out
          unfold OwnI at h4
          rw [ei_length, ← HK.out] at h4
          exact h4
        have hbs := HB4.out.size
        have N1 := Lib.hid (own_block hown' s1 (by decide))
        have HLEN := Lib.hid hlen; clear hlen HO4
        go_wp2_with (at_builtin; refine wpList_more _ rfl _ _ 76 rfl 3 (.int .i64 0) 1 8 Tryz.underlying76 infoInt rfl (by decide) (by decide) w.heap.size A k c (cells (ei (MM.elsTo s j))) rfl (hown'.alloc _) w4.heap.size 1 1 [.int .i64 ((j : Int))] rfl rfl (by decide) (one_new _ _ _) ?c1 ?c2 ?c3 ?_; (case c1 => simp [Value.oneCell']); (case c2 => omega); (case c3 => simp; omega); intro A2 c2 w5 hown2 hb5 hgr; have HGR := Lib.hid hgr; clear hgr)
        have t1 := RelAt.grown (s1.alloc (.cells #[.int .i64 ((j : Int))] 3)) HGR.out N1.out
        have HB5 := Lib.hid ((HB4.out.alloc hbs (.cells #[.int .i64 ((j : Int))] 3)).trans hb5)
        have HK5 : Hid (k + 1 = (MM.elsTo s (j + 1)).length) := by rw [HP.out, List.length_append, ← HK.out]; exact rfl
        have hk5 : k + 1 ≤ 64 := by have := HLEN.out; rw [← HK5.out] at this; omega
        have HO5 : Hid (OwnI w5 w.heap.size A2 c2 (ei (MM.elsTo s (j + 1)))) := by
          show OwnI w5 w.heap.size A2 c2 (ei (MM.elsTo s (j + 1)))
          unfold OwnI
          rw [HP.out, ei_snoc, cells_snoc, List.length_append, ei_length, ← HK.out]
          exact hown2
        clear hown2 hb5 hown' hbs s1 HB4 N1 HLEN
        go_wp2_with fail
        go_roundw
        case rel => exact ⟨j + 1, k + 1, c2, A2, by omega, by go_num, rfl, HK5, hk5, HO5, t1, HB5⟩
        case measure => simp [intOf]; omega
    · have e : j = p := by omega
      subst e
      rw [HSE.out] at HK HO3
      have hof := fun w h => refOf_any A c (ei (MM.els s)) w (by rw [ei_length, ← HK.out]; omega) h
      rw [ei_length, ← HK.out, HOE.out] at hof
      have HOFF := Lib.hid hof; clear hof
      have HI := Lib.hid HO3.out.ints
      go_wp2_with (go_at_call 65; refine (HOFF.out _ HI.out).mono ?_; rintro e w' ⟨rfl, rfl⟩)
      go_ret
      exact ⟨rfl, HB3.out⟩

set_option maxRecDepth 8000 in
theorem qpoint_any (n : Int) (l : List Nat) (hl : RW l) (v : Nat) (w : World) :
    Calls Tryz.prog 79 #[.agg (rv n l), .int .u64 (v : Int)] w fun e w' => e = .returned (optV (ptO n l v)) ∧ Below w.heap.size w w' := by
  have hr1 := RelAt.new w n l
  have hb : Below w.heap.size w (w.alloc (.cells (rv n l) 44)) := (Below.refl _ _).alloc (Nat.le_refl _) _
  have HB := Lib.hid hb; clear hb
  have HPT : Hid (∀ w, Calls Tryz.prog 56 #[.agg (rv n l)] w fun e w' => e = .returned (.int .i64 ((pts n : Nat) : Int)) ∧ Below w.heap.size w w') := fun w => qpoints_any n l w
  have HWD : Hid (∀ (i : Nat) w, Calls Tryz.prog 36 #[.agg (rv n l), .int .i64 (i : Int)] w fun e w' => e = .returned (.int .u64 ((wordN n l i : Nat) : Int)) ∧ Below w.heap.size w w') := fun i w => qword_any n l hl i w
  have hp := pts_le n
  have HHIT : Hid (∀ k : Nat, k < pts n → (wordN n l k == v) = true → (∀ j : Nat, j < k → (wordN n l j == v) = false) → optV (ptO n l v) = .tuple #[.int .i64 (k : Int), .bool true]) := fun k h1 h2 h3 => by
    unfold ptO; rw [fnd_hit (P := ptT n l v) h1 h2 h3, optV_some]
  have HNO : Hid ((∀ j : Nat, j < pts n → (wordN n l j == v) = false) → optV (ptO n l v) = .tuple #[.int .i64 0, .bool false]) := fun h => by
    unfold ptO; rw [fnd_none (P := ptT n l v) h, optV_none]
  generalize optV (ptO n l v) = res at *
  generalize pts n = p at *
  go_enter Tryz.func79, Tryz.ntmps79
  go_wp2_with fail
  go_loopw [6] (fun kv wr => ∃ k : Nat, k ≤ p ∧ kv = .int .i64 k ∧ RelAt wr w.heap.size n l ∧ Hid (Below w.heap.size w wr) ∧ Hid (∀ j : Nat, j < k → (wordN n l j == v) = false)) (fun kv _ => p - (intOf kv).toNat)
  case atStart => exact ⟨0, by omega, rfl, hr1, HB, fun j hj => by omega⟩
  case round =>
    clear hr1 HB
    obtain ⟨k, hk, rfl, rr, HB, HK⟩ := hrel
    go_wp2_with (refine wpList_loadRel rfl _ rfl w.heap.size rfl _ l hl rr ?_)
    refine (HPT.out _).mono ?_
    rintro e w1 ⟨rfl, hb1⟩
    have r1 := rr.below hb1 rr.lt
    have HB1 := Lib.hid (HB.out.trans (hb1.mono HB.out.size)); clear hb1 rr HB
    by_cases hlt : k < p
    · have HC := Lib.hid (HWD.out k)
      have HKN : Hid ((wordN n l k == v) = false → ∀ j : Nat, j < k + 1 → (wordN n l j == v) = false) := fun h j hj => by
        by_cases e : j = k
        · subst e; exact h
        · exact HK.out j (by omega)
      have HR : Hid ((wordN n l k == v) = true → res = .tuple #[.int .i64 (k : Int), .bool true]) := fun h => HHIT.out k hlt h HK.out
      have hxv : (((wordN n l k : Nat) : Int) == (v : Int)) = (wordN n l k == v) := by rw [Bool.eq_iff_iff]; simp; omega
      generalize wordN n l k = x at *
      go_wp2_with (refine wpList_loadRel rfl _ rfl w.heap.size rfl n l hl r1 ?_)
      refine (HC.out _).mono ?_
      rintro e w2 ⟨rfl, hb2⟩
      have r2 := r1.below hb2 r1.lt
      have HB2 := Lib.hid (HB1.out.trans (hb2.mono HB1.out.size)); clear hb2 r1 HB1
      cases ht : (x == v) with
      | false =>
        rw [ht] at hxv
        have HKN2 := Lib.hid (HKN.out ht); clear ht HR HKN
        go_wp2_with fail
        go_roundw
        case rel => exact ⟨k + 1, by omega, by go_num, r2, HB2, HKN2⟩
        case measure => simp [intOf]; omega
      | true =>
        rw [ht] at hxv
        have HR2 := Lib.hid (HR.out ht); clear ht HR HKN
        go_wp2_with fail
        go_ret2
        exact ⟨congrArg Ending.returned HR2.out.symm, HB2.out⟩
    · have e : k = p := by omega
      subst e
      have HR := Lib.hid (HNO.out HK.out)
      go_wp2_with fail
      go_ret2
      exact ⟨congrArg Ending.returned HR.out.symm, HB1.out⟩
end Go.Proofs.YtpgkcddhpeoiiaaGreatDoor

/-
  What Join, Meet, End and Raise of layer 6's reference return. Conditions: 64 words below 2^64.
-/
namespace Go.Proofs.YtpgkcddhpeoiiaaGreatDoor
open Go.RowKit RM

def allT (R : Int → Int → Bool) (i j : Int) (u v : Nat) : Bool := (List.range v).all fun x => !(R i x && R j x) || R u x
set_option maxRecDepth 8000 in
theorem allT_next (R : Int → Int → Bool) (i j : Int) (u v : Nat) : allT R i j u (v + 1) = (allT R i j u v && (!(R i v && R j v) || R u v)) := by
  unfold allT
  rw [List.range_succ, List.all_append]
  simp
def endT (R : Int → Int → Bool) (u v : Nat) : Bool := (List.range v).all fun x => R u x
set_option maxRecDepth 8000 in
theorem endT_next (R : Int → Int → Bool) (u v : Nat) : endT R u (v + 1) = (endT R u v && R u v) := by
  unfold endT
  rw [List.range_succ, List.all_append]
  simp
set_option maxRecDepth 8000 in
set_option maxHeartbeats 4000000 in
theorem qjoin_any (n : Int) (l : List Nat) (hl : RW l) (i j : Int) (w : World) :
    Calls Tryz.prog 83 #[.agg (rv n l), .int .i64 i, .int .i64 j] w fun e w' => e = .returned (optV (joinR n l i j)) ∧ Below w.heap.size w w' := by
  have hr1 := RelAt.new w n l
  have hb : Below w.heap.size w (w.alloc (.cells (rv n l) 44)) := (Below.refl _ _).alloc (Nat.le_refl _) _
  have HB := Lib.hid hb; clear hb
  have HPT : Hid (∀ w, Calls Tryz.prog 56 #[.agg (rv n l)] w fun e w' => e = .returned (.int .i64 ((pts n : Nat) : Int)) ∧ Below w.heap.size w w') := fun w => qpoints_any n l w
  have HHAS : Hid (∀ (a b : Int) w, Calls Tryz.prog 64 #[.agg (rv n l), .int .i64 a, .int .i64 b] w fun e w' => e = .returned (.bool ((hasR n l) a b)) ∧ Below w.heap.size w w') := fun a b w => qhas_any n l hl a b w
  have HTT : Hid (∀ u : Nat, bndT (pts n) (hasR n l) i j u = ((hasR n l) i u && (hasR n l) j u && allT (hasR n l) i j u (pts n))) := fun _ => rfl
  have HHIT : Hid (∀ k : Nat, k < pts n → bndT (pts n) (hasR n l) i j k = true → (∀ a : Nat, a < k → bndT (pts n) (hasR n l) i j a = false) → optV (joinR n l i j) = .tuple #[.int .i64 (k : Int), .bool true]) := fun k h1 h2 h3 => by
    unfold joinR bndO; rw [fnd_hit h1 h2 h3, optV_some]
  have HNO : Hid ((∀ a : Nat, a < pts n → bndT (pts n) (hasR n l) i j a = false) → optV (joinR n l i j) = .tuple #[.int .i64 0, .bool false]) := fun h => by
    unfold joinR bndO; rw [fnd_none h, optV_none]
  have hp := pts_le n
  generalize optV (joinR n l i j) = res at *
  generalize bndT (pts n) (hasR n l) i j = T at *
  generalize (hasR n l) = R at *
  generalize pts n = p at *
  go_enter Tryz.func83, Tryz.ntmps83
  go_wp2_with fail
  go_loopw [8, 9, 10] (fun uv _ _ wr => ∃ u : Nat, u ≤ p ∧ uv = .int .i64 u ∧ RelAt wr w.heap.size n l ∧ Hid (Below w.heap.size w wr) ∧ Hid (∀ a, a < u → T a = false)) (fun uv _ _ _ => p - (intOf uv).toNat)
  case atStart => exact ⟨0, by omega, rfl, hr1, HB, fun a ha => by omega⟩
  case round =>
    clear hr1 HB
    obtain ⟨u, hu, rfl, rr, HB, HA⟩ := hrel
    go_wp2_with (refine wpList_loadRel rfl _ rfl w.heap.size rfl n l hl rr ?_)
    refine (HPT.out _).mono ?_
    rintro e w1 ⟨rfl, hb1⟩
    have r1 := rr.below hb1 rr.lt
    have HB1 := Lib.hid (HB.out.trans (hb1.mono HB.out.size)); clear hb1 rr HB
    by_cases hlt : u < p
    · go_wp2_with (refine wpList_loadRel (by rfl) _ rfl w.heap.size rfl n l hl r1 ?_)
      refine (HHAS.out i (u : Int) _).mono ?_
      rintro e w2 ⟨rfl, hb⟩
      have r2 := r1.below hb r1.lt
      have HB2 := Lib.hid (HB1.out.trans (hb.mono HB1.out.size)); clear hb
      clear r1 HB1
      cases d1 : R i (u : Int) with
      | false =>
        go_wp2_with fail
        have HG : Hid (false = (R i u && R j u && allT R i j u 0)) := by show _ = _; rw [d1]; simp
        obtain ⟨wo, rfl⟩ : ∃ wo : World, wo = w2 := ⟨_, rfl⟩
        go_loopw [9, 10] (fun gv vv wr => ∃ (v : Nat) (q : Bool), v ≤ p ∧ gv = .bool q ∧ vv = .int .i64 v ∧ RelAt wr w.heap.size n l ∧ Hid (Below w.heap.size w wr) ∧ Hid (q = (R i u && R j u && allT R i j u v))) (fun _ vv _ => p - (intOf vv).toNat)
        case atStart => exact ⟨0, false, by omega, rfl, rfl, r2, HB2, HG⟩
        case round =>
          clear r2 HB2 HG
          obtain ⟨v, q, hv, rfl, rfl, rr, HB, HG⟩ := hrel
          go_wp2_with (refine wpList_loadRel rfl _ rfl w.heap.size rfl n l hl rr ?_)
          refine (HPT.out _).mono ?_
          rintro e v1 ⟨rfl, hb⟩
          have k1 := rr.below hb rr.lt
          have HK1 := Lib.hid (HB.out.trans (hb.mono HB.out.size)); clear hb rr HB
          by_cases hvp : v < p
          · have HNX := Lib.hid (allT_next R i j u v)
            go_wp2_with (refine wpList_loadRel (by rfl) _ rfl w.heap.size rfl n l hl k1 ?_)
            refine (HHAS.out i (v : Int) _).mono ?_
            rintro e v2 ⟨rfl, hb⟩
            have k2 := k1.below hb k1.lt
            have HK2 := Lib.hid (HK1.out.trans (hb.mono HK1.out.size)); clear hb
            clear k1 HK1
            cases c1 : R i (v : Int) with
            | false =>
              have HG2 : Hid (q = (R i u && R j u && allT R i j u (v + 1))) := by show _ = _; rw [HNX.out, c1, HG.out]; simp
              clear c1
              go_wp2_with fail
              go_roundw
              case rel => exact ⟨v + 1, q, by omega, rfl, by go_num, k2, HK2, HG2⟩
              case measure => simp [intOf]; omega
            | true =>
              have C1 := Lib.hid c1; clear c1
              go_wp2_with (refine wpList_loadRel (by rfl) _ rfl w.heap.size rfl n l hl k2 ?_)
              refine (HHAS.out j (v : Int) _).mono ?_
              rintro e v3 ⟨rfl, hb⟩
              have k3 := k2.below hb k2.lt
              have HK3 := Lib.hid (HK2.out.trans (hb.mono HK2.out.size)); clear hb
              clear k2 HK2
              cases c2 : R j (v : Int) with
              | false =>
                have HG2 : Hid (q = (R i u && R j u && allT R i j u (v + 1))) := by show _ = _; rw [HNX.out, c2, HG.out]; simp
                clear c2
                go_wp2_with fail
                go_roundw
                case rel => exact ⟨v + 1, q, by omega, rfl, by go_num, k3, HK3, HG2⟩
                case measure => simp [intOf]; omega
              | true =>
                have C2 := Lib.hid c2; clear c2
                go_wp2_with (refine wpList_loadRel (by rfl) _ rfl w.heap.size rfl n l hl k3 ?_)
                refine (HHAS.out u (v : Int) _).mono ?_
                rintro e v4 ⟨rfl, hb⟩
                have k4 := k3.below hb k3.lt
                have HK4 := Lib.hid (HK3.out.trans (hb.mono HK3.out.size)); clear hb
                clear k3 HK3
                cases c3 : R u (v : Int) with
                | false =>
                  have HG2 : Hid (false = (R i u && R j u && allT R i j u (v + 1))) := by show _ = _; rw [HNX.out, C1.out, C2.out, c3]; simp
                  clear c3
                  go_wp2_with fail
                  go_roundw
                  case rel => exact ⟨v + 1, false, by omega, rfl, by go_num, k4, HK4, HG2⟩
                  case measure => simp [intOf]; omega
                | true =>
                  have HG2 : Hid (q = (R i u && R j u && allT R i j u (v + 1))) := by show _ = _; rw [HNX.out, c3, HG.out]; simp
                  clear c3
                  go_wp2_with fail
                  go_roundw
                  case rel => exact ⟨v + 1, q, by omega, rfl, by go_num, k4, HK4, HG2⟩
                  case measure => simp [intOf]; omega
          · have e : v = p := by omega
            subst e
            cases q with
            | false =>
              have HA2 : Hid (∀ a, a < u + 1 → T a = false) := fun a ha => by
                by_cases h : a < u
                · exact HA.out a h
                · obtain rfl : a = u := by omega
                  rw [HTT.out]; exact HG.out.symm
              go_wp2_with fail
              go_roundw
              case rel => exact ⟨u + 1, by omega, by go_num, k1, HK1, HA2⟩
              case measure => simp [intOf]; omega
            | true =>
              have HR := Lib.hid (HHIT.out u hlt ((HTT.out u).trans HG.out.symm) HA.out)
              go_wp2_with fail
              go_ret2
              exact ⟨congrArg Ending.returned HR.out.symm, HK1.out⟩
      | true =>
        have D1 := Lib.hid d1; clear d1
        go_wp2_with (refine wpList_loadRel (by rfl) _ rfl w.heap.size rfl n l hl r2 ?_)
        refine (HHAS.out j (u : Int) _).mono ?_
        rintro e w3 ⟨rfl, hb⟩
        have r3 := r2.below hb r2.lt
        have HB3 := Lib.hid (HB2.out.trans (hb.mono HB2.out.size)); clear hb
        clear r2 HB2
        obtain ⟨q0, d2⟩ : ∃ q0, R j (u : Int) = q0 := ⟨_, rfl⟩
        have D2 := Lib.hid d2; rw [d2]; clear d2
        go_wp2_with fail
        have HG : Hid (q0 = (R i u && R j u && allT R i j u 0)) := by show _ = _; rw [D1.out, D2.out]; simp [allT]
        obtain ⟨wo, rfl⟩ : ∃ wo : World, wo = w3 := ⟨_, rfl⟩
        go_loopw [9, 10] (fun gv vv wr => ∃ (v : Nat) (q : Bool), v ≤ p ∧ gv = .bool q ∧ vv = .int .i64 v ∧ RelAt wr w.heap.size n l ∧ Hid (Below w.heap.size w wr) ∧ Hid (q = (R i u && R j u && allT R i j u v))) (fun _ vv _ => p - (intOf vv).toNat)
        case atStart => exact ⟨0, q0, by omega, rfl, rfl, r3, HB3, HG⟩
        case round =>
          clear r3 HB3 HG
          obtain ⟨v, q, hv, rfl, rfl, rr, HB, HG⟩ := hrel
          go_wp2_with (refine wpList_loadRel rfl _ rfl w.heap.size rfl n l hl rr ?_)
          refine (HPT.out _).mono ?_
          rintro e v1 ⟨rfl, hb⟩
          have k1 := rr.below hb rr.lt
          have HK1 := Lib.hid (HB.out.trans (hb.mono HB.out.size)); clear hb rr HB
          by_cases hvp : v < p
          · have HNX := Lib.hid (allT_next R i j u v)
            go_wp2_with (refine wpList_loadRel (by rfl) _ rfl w.heap.size rfl n l hl k1 ?_)
            refine (HHAS.out i (v : Int) _).mono ?_
            rintro e v2 ⟨rfl, hb⟩
            have k2 := k1.below hb k1.lt
            have HK2 := Lib.hid (HK1.out.trans (hb.mono HK1.out.size)); clear hb
            clear k1 HK1
            cases c1 : R i (v : Int) with
            | false =>
              have HG2 : Hid (q = (R i u && R j u && allT R i j u (v + 1))) := by show _ = _; rw [HNX.out, c1, HG.out]; simp
              clear c1
              go_wp2_with fail
              go_roundw
              case rel => exact ⟨v + 1, q, by omega, rfl, by go_num, k2, HK2, HG2⟩
              case measure => simp [intOf]; omega
            | true =>
              have C1 := Lib.hid c1; clear c1
              go_wp2_with (refine wpList_loadRel (by rfl) _ rfl w.heap.size rfl n l hl k2 ?_)
              refine (HHAS.out j (v : Int) _).mono ?_
              rintro e v3 ⟨rfl, hb⟩
              have k3 := k2.below hb k2.lt
              have HK3 := Lib.hid (HK2.out.trans (hb.mono HK2.out.size)); clear hb
              clear k2 HK2
              cases c2 : R j (v : Int) with
              | false =>
                have HG2 : Hid (q = (R i u && R j u && allT R i j u (v + 1))) := by show _ = _; rw [HNX.out, c2, HG.out]; simp
                clear c2
                go_wp2_with fail
                go_roundw
                case rel => exact ⟨v + 1, q, by omega, rfl, by go_num, k3, HK3, HG2⟩
                case measure => simp [intOf]; omega
              | true =>
                have C2 := Lib.hid c2; clear c2
                go_wp2_with (refine wpList_loadRel (by rfl) _ rfl w.heap.size rfl n l hl k3 ?_)
                refine (HHAS.out u (v : Int) _).mono ?_
                rintro e v4 ⟨rfl, hb⟩
                have k4 := k3.below hb k3.lt
                have HK4 := Lib.hid (HK3.out.trans (hb.mono HK3.out.size)); clear hb
                clear k3 HK3
                cases c3 : R u (v : Int) with
                | false =>
                  have HG2 : Hid (false = (R i u && R j u && allT R i j u (v + 1))) := by show _ = _; rw [HNX.out, C1.out, C2.out, c3]; simp
                  clear c3
                  go_wp2_with fail
                  go_roundw
                  case rel => exact ⟨v + 1, false, by omega, rfl, by go_num, k4, HK4, HG2⟩
                  case measure => simp [intOf]; omega
                | true =>
                  have HG2 : Hid (q = (R i u && R j u && allT R i j u (v + 1))) := by show _ = _; rw [HNX.out, c3, HG.out]; simp
                  clear c3
                  go_wp2_with fail
                  go_roundw
                  case rel => exact ⟨v + 1, q, by omega, rfl, by go_num, k4, HK4, HG2⟩
                  case measure => simp [intOf]; omega
          · have e : v = p := by omega
            subst e
            cases q with
            | false =>
              have HA2 : Hid (∀ a, a < u + 1 → T a = false) := fun a ha => by
                by_cases h : a < u
                · exact HA.out a h
                · obtain rfl : a = u := by omega
                  rw [HTT.out]; exact HG.out.symm
              go_wp2_with fail
              go_roundw
              case rel => exact ⟨u + 1, by omega, by go_num, k1, HK1, HA2⟩
              case measure => simp [intOf]; omega
            | true =>
              have HR := Lib.hid (HHIT.out u hlt ((HTT.out u).trans HG.out.symm) HA.out)
              go_wp2_with fail
              go_ret2
              exact ⟨congrArg Ending.returned HR.out.symm, HK1.out⟩
    · have e : u = p := by omega
      subst e
      have HR := Lib.hid (HNO.out HA.out)
      go_wp2_with fail
      go_ret2
      exact ⟨congrArg Ending.returned HR.out.symm, HB1.out⟩
set_option maxRecDepth 8000 in
set_option maxHeartbeats 4000000 in
theorem qmeet_any (n : Int) (l : List Nat) (hl : RW l) (i j : Int) (w : World) :
    Calls Tryz.prog 97 #[.agg (rv n l), .int .i64 i, .int .i64 j] w fun e w' => e = .returned (optV (meetR n l i j)) ∧ Below w.heap.size w w' := by
  have hr1 := RelAt.new w n l
  have hb : Below w.heap.size w (w.alloc (.cells (rv n l) 44)) := (Below.refl _ _).alloc (Nat.le_refl _) _
  have HB := Lib.hid hb; clear hb
  have HPT : Hid (∀ w, Calls Tryz.prog 56 #[.agg (rv n l)] w fun e w' => e = .returned (.int .i64 ((pts n : Nat) : Int)) ∧ Below w.heap.size w w') := fun w => qpoints_any n l w
  have HHAS : Hid (∀ (a b : Int) w, Calls Tryz.prog 64 #[.agg (rv n l), .int .i64 b, .int .i64 a] w fun e w' => e = .returned (.bool ((flp (hasR n l)) a b)) ∧ Below w.heap.size w w') := fun a b w => qhas_any n l hl b a w
  have HTT : Hid (∀ u : Nat, bndT (pts n) (flp (hasR n l)) i j u = ((flp (hasR n l)) i u && (flp (hasR n l)) j u && allT (flp (hasR n l)) i j u (pts n))) := fun _ => rfl
  have HHIT : Hid (∀ k : Nat, k < pts n → bndT (pts n) (flp (hasR n l)) i j k = true → (∀ a : Nat, a < k → bndT (pts n) (flp (hasR n l)) i j a = false) → optV (meetR n l i j) = .tuple #[.int .i64 (k : Int), .bool true]) := fun k h1 h2 h3 => by
    unfold meetR bndO; rw [fnd_hit h1 h2 h3, optV_some]
  have HNO : Hid ((∀ a : Nat, a < pts n → bndT (pts n) (flp (hasR n l)) i j a = false) → optV (meetR n l i j) = .tuple #[.int .i64 0, .bool false]) := fun h => by
    unfold meetR bndO; rw [fnd_none h, optV_none]
  have hp := pts_le n
  generalize optV (meetR n l i j) = res at *
  generalize bndT (pts n) (flp (hasR n l)) i j = T at *
  generalize (flp (hasR n l)) = R at *
  generalize pts n = p at *
  go_enter Tryz.func97, Tryz.ntmps97
  go_wp2_with fail
  go_loopw [8, 9, 10] (fun uv _ _ wr => ∃ u : Nat, u ≤ p ∧ uv = .int .i64 u ∧ RelAt wr w.heap.size n l ∧ Hid (Below w.heap.size w wr) ∧ Hid (∀ a, a < u → T a = false)) (fun uv _ _ _ => p - (intOf uv).toNat)
  case atStart => exact ⟨0, by omega, rfl, hr1, HB, fun a ha => by omega⟩
  case round =>
    clear hr1 HB
    obtain ⟨u, hu, rfl, rr, HB, HA⟩ := hrel
    go_wp2_with (refine wpList_loadRel rfl _ rfl w.heap.size rfl n l hl rr ?_)
    refine (HPT.out _).mono ?_
    rintro e w1 ⟨rfl, hb1⟩
    have r1 := rr.below hb1 rr.lt
    have HB1 := Lib.hid (HB.out.trans (hb1.mono HB.out.size)); clear hb1 rr HB
    by_cases hlt : u < p
    · go_wp2_with (refine wpList_loadRel (by rfl) _ rfl w.heap.size rfl n l hl r1 ?_)
      refine (HHAS.out i (u : Int) _).mono ?_
      rintro e w2 ⟨rfl, hb⟩
      have r2 := r1.below hb r1.lt
      have HB2 := Lib.hid (HB1.out.trans (hb.mono HB1.out.size)); clear hb
      clear r1 HB1
      cases d1 : R i (u : Int) with
      | false =>
        go_wp2_with fail
        have HG : Hid (false = (R i u && R j u && allT R i j u 0)) := by show _ = _; rw [d1]; simp
        obtain ⟨wo, rfl⟩ : ∃ wo : World, wo = w2 := ⟨_, rfl⟩
        go_loopw [9, 10] (fun gv vv wr => ∃ (v : Nat) (q : Bool), v ≤ p ∧ gv = .bool q ∧ vv = .int .i64 v ∧ RelAt wr w.heap.size n l ∧ Hid (Below w.heap.size w wr) ∧ Hid (q = (R i u && R j u && allT R i j u v))) (fun _ vv _ => p - (intOf vv).toNat)
        case atStart => exact ⟨0, false, by omega, rfl, rfl, r2, HB2, HG⟩
        case round =>
          clear r2 HB2 HG
          obtain ⟨v, q, hv, rfl, rfl, rr, HB, HG⟩ := hrel
          go_wp2_with (refine wpList_loadRel rfl _ rfl w.heap.size rfl n l hl rr ?_)
          refine (HPT.out _).mono ?_
          rintro e v1 ⟨rfl, hb⟩
          have k1 := rr.below hb rr.lt
          have HK1 := Lib.hid (HB.out.trans (hb.mono HB.out.size)); clear hb rr HB
          by_cases hvp : v < p
          · have HNX := Lib.hid (allT_next R i j u v)
            go_wp2_with (refine wpList_loadRel (by rfl) _ rfl w.heap.size rfl n l hl k1 ?_)
            refine (HHAS.out i (v : Int) _).mono ?_
            rintro e v2 ⟨rfl, hb⟩
            have k2 := k1.below hb k1.lt
            have HK2 := Lib.hid (HK1.out.trans (hb.mono HK1.out.size)); clear hb
            clear k1 HK1
            cases c1 : R i (v : Int) with
            | false =>
              have HG2 : Hid (q = (R i u && R j u && allT R i j u (v + 1))) := by show _ = _; rw [HNX.out, c1, HG.out]; simp
              clear c1
              go_wp2_with fail
              go_roundw
              case rel => exact ⟨v + 1, q, by omega, rfl, by go_num, k2, HK2, HG2⟩
              case measure => simp [intOf]; omega
            | true =>
              have C1 := Lib.hid c1; clear c1
              go_wp2_with (refine wpList_loadRel (by rfl) _ rfl w.heap.size rfl n l hl k2 ?_)
              refine (HHAS.out j (v : Int) _).mono ?_
              rintro e v3 ⟨rfl, hb⟩
              have k3 := k2.below hb k2.lt
              have HK3 := Lib.hid (HK2.out.trans (hb.mono HK2.out.size)); clear hb
              clear k2 HK2
              cases c2 : R j (v : Int) with
              | false =>
                have HG2 : Hid (q = (R i u && R j u && allT R i j u (v + 1))) := by show _ = _; rw [HNX.out, c2, HG.out]; simp
                clear c2
                go_wp2_with fail
                go_roundw
                case rel => exact ⟨v + 1, q, by omega, rfl, by go_num, k3, HK3, HG2⟩
                case measure => simp [intOf]; omega
              | true =>
                have C2 := Lib.hid c2; clear c2
                go_wp2_with (refine wpList_loadRel (by rfl) _ rfl w.heap.size rfl n l hl k3 ?_)
                refine (HHAS.out u (v : Int) _).mono ?_
                rintro e v4 ⟨rfl, hb⟩
                have k4 := k3.below hb k3.lt
                have HK4 := Lib.hid (HK3.out.trans (hb.mono HK3.out.size)); clear hb
                clear k3 HK3
                cases c3 : R u (v : Int) with
                | false =>
                  have HG2 : Hid (false = (R i u && R j u && allT R i j u (v + 1))) := by show _ = _; rw [HNX.out, C1.out, C2.out, c3]; simp
                  clear c3
                  go_wp2_with fail
                  go_roundw
                  case rel => exact ⟨v + 1, false, by omega, rfl, by go_num, k4, HK4, HG2⟩
                  case measure => simp [intOf]; omega
                | true =>
                  have HG2 : Hid (q = (R i u && R j u && allT R i j u (v + 1))) := by show _ = _; rw [HNX.out, c3, HG.out]; simp
                  clear c3
                  go_wp2_with fail
                  go_roundw
                  case rel => exact ⟨v + 1, q, by omega, rfl, by go_num, k4, HK4, HG2⟩
                  case measure => simp [intOf]; omega
          · have e : v = p := by omega
            subst e
            cases q with
            | false =>
              have HA2 : Hid (∀ a, a < u + 1 → T a = false) := fun a ha => by
                by_cases h : a < u
                · exact HA.out a h
                · obtain rfl : a = u := by omega
                  rw [HTT.out]; exact HG.out.symm
              go_wp2_with fail
              go_roundw
              case rel => exact ⟨u + 1, by omega, by go_num, k1, HK1, HA2⟩
              case measure => simp [intOf]; omega
            | true =>
              have HR := Lib.hid (HHIT.out u hlt ((HTT.out u).trans HG.out.symm) HA.out)
              go_wp2_with fail
              go_ret2
              exact ⟨congrArg Ending.returned HR.out.symm, HK1.out⟩
      | true =>
        have D1 := Lib.hid d1; clear d1
        go_wp2_with (refine wpList_loadRel (by rfl) _ rfl w.heap.size rfl n l hl r2 ?_)
        refine (HHAS.out j (u : Int) _).mono ?_
        rintro e w3 ⟨rfl, hb⟩
        have r3 := r2.below hb r2.lt
        have HB3 := Lib.hid (HB2.out.trans (hb.mono HB2.out.size)); clear hb
        clear r2 HB2
        obtain ⟨q0, d2⟩ : ∃ q0, R j (u : Int) = q0 := ⟨_, rfl⟩
        have D2 := Lib.hid d2; rw [d2]; clear d2
        go_wp2_with fail
        have HG : Hid (q0 = (R i u && R j u && allT R i j u 0)) := by show _ = _; rw [D1.out, D2.out]; simp [allT]
        obtain ⟨wo, rfl⟩ : ∃ wo : World, wo = w3 := ⟨_, rfl⟩
        go_loopw [9, 10] (fun gv vv wr => ∃ (v : Nat) (q : Bool), v ≤ p ∧ gv = .bool q ∧ vv = .int .i64 v ∧ RelAt wr w.heap.size n l ∧ Hid (Below w.heap.size w wr) ∧ Hid (q = (R i u && R j u && allT R i j u v))) (fun _ vv _ => p - (intOf vv).toNat)
        case atStart => exact ⟨0, q0, by omega, rfl, rfl, r3, HB3, HG⟩
        case round =>
          clear r3 HB3 HG
          obtain ⟨v, q, hv, rfl, rfl, rr, HB, HG⟩ := hrel
          go_wp2_with (refine wpList_loadRel rfl _ rfl w.heap.size rfl n l hl rr ?_)
          refine (HPT.out _).mono ?_
          rintro e v1 ⟨rfl, hb⟩
          have k1 := rr.below hb rr.lt
          have HK1 := Lib.hid (HB.out.trans (hb.mono HB.out.size)); clear hb rr HB
          by_cases hvp : v < p
          · have HNX := Lib.hid (allT_next R i j u v)
            go_wp2_with (refine wpList_loadRel (by rfl) _ rfl w.heap.size rfl n l hl k1 ?_)
            refine (HHAS.out i (v : Int) _).mono ?_
            rintro e v2 ⟨rfl, hb⟩
            have k2 := k1.below hb k1.lt
            have HK2 := Lib.hid (HK1.out.trans (hb.mono HK1.out.size)); clear hb
            clear k1 HK1
            cases c1 : R i (v : Int) with
            | false =>
              have HG2 : Hid (q = (R i u && R j u && allT R i j u (v + 1))) := by show _ = _; rw [HNX.out, c1, HG.out]; simp
              clear c1
              go_wp2_with fail
              go_roundw
              case rel => exact ⟨v + 1, q, by omega, rfl, by go_num, k2, HK2, HG2⟩
              case measure => simp [intOf]; omega
            | true =>
              have C1 := Lib.hid c1; clear c1
              go_wp2_with (refine wpList_loadRel (by rfl) _ rfl w.heap.size rfl n l hl k2 ?_)
              refine (HHAS.out j (v : Int) _).mono ?_
              rintro e v3 ⟨rfl, hb⟩
              have k3 := k2.below hb k2.lt
              have HK3 := Lib.hid (HK2.out.trans (hb.mono HK2.out.size)); clear hb
              clear k2 HK2
              cases c2 : R j (v : Int) with
              | false =>
                have HG2 : Hid (q = (R i u && R j u && allT R i j u (v + 1))) := by show _ = _; rw [HNX.out, c2, HG.out]; simp
                clear c2
                go_wp2_with fail
                go_roundw
                case rel => exact ⟨v + 1, q, by omega, rfl, by go_num, k3, HK3, HG2⟩
                case measure => simp [intOf]; omega
              | true =>
                have C2 := Lib.hid c2; clear c2
                go_wp2_with (refine wpList_loadRel (by rfl) _ rfl w.heap.size rfl n l hl k3 ?_)
                refine (HHAS.out u (v : Int) _).mono ?_
                rintro e v4 ⟨rfl, hb⟩
                have k4 := k3.below hb k3.lt
                have HK4 := Lib.hid (HK3.out.trans (hb.mono HK3.out.size)); clear hb
                clear k3 HK3
                cases c3 : R u (v : Int) with
                | false =>
                  have HG2 : Hid (false = (R i u && R j u && allT R i j u (v + 1))) := by show _ = _; rw [HNX.out, C1.out, C2.out, c3]; simp
                  clear c3
                  go_wp2_with fail
                  go_roundw
                  case rel => exact ⟨v + 1, false, by omega, rfl, by go_num, k4, HK4, HG2⟩
                  case measure => simp [intOf]; omega
                | true =>
                  have HG2 : Hid (q = (R i u && R j u && allT R i j u (v + 1))) := by show _ = _; rw [HNX.out, c3, HG.out]; simp
                  clear c3
                  go_wp2_with fail
                  go_roundw
                  case rel => exact ⟨v + 1, q, by omega, rfl, by go_num, k4, HK4, HG2⟩
                  case measure => simp [intOf]; omega
          · have e : v = p := by omega
            subst e
            cases q with
            | false =>
              have HA2 : Hid (∀ a, a < u + 1 → T a = false) := fun a ha => by
                by_cases h : a < u
                · exact HA.out a h
                · obtain rfl : a = u := by omega
                  rw [HTT.out]; exact HG.out.symm
              go_wp2_with fail
              go_roundw
              case rel => exact ⟨u + 1, by omega, by go_num, k1, HK1, HA2⟩
              case measure => simp [intOf]; omega
            | true =>
              have HR := Lib.hid (HHIT.out u hlt ((HTT.out u).trans HG.out.symm) HA.out)
              go_wp2_with fail
              go_ret2
              exact ⟨congrArg Ending.returned HR.out.symm, HK1.out⟩
    · have e : u = p := by omega
      subst e
      have HR := Lib.hid (HNO.out HA.out)
      go_wp2_with fail
      go_ret2
      exact ⟨congrArg Ending.returned HR.out.symm, HB1.out⟩
set_option maxRecDepth 8000 in
set_option maxHeartbeats 4000000 in
theorem hqbottom_any (n : Int) (l : List Nat) (hl : RW l) (w : World) :
    Calls Tryz.prog 35 #[.agg (rv n l), .bool false] w fun e w' => e = .returned (optV (bottomR n l)) ∧ Below w.heap.size w w' := by
  have hr1 := RelAt.new w n l
  have hb : Below w.heap.size w (w.alloc (.cells (rv n l) 44)) := (Below.refl _ _).alloc (Nat.le_refl _) _
  have HB := Lib.hid hb; clear hb
  have HPT : Hid (∀ w, Calls Tryz.prog 56 #[.agg (rv n l)] w fun e w' => e = .returned (.int .i64 ((pts n : Nat) : Int)) ∧ Below w.heap.size w w') := fun w => qpoints_any n l w
  have HHAS : Hid (∀ (a b : Int) w, Calls Tryz.prog 64 #[.agg (rv n l), .int .i64 a, .int .i64 b] w fun e w' => e = .returned (.bool ((hasR n l) a b)) ∧ Below w.heap.size w w') := fun a b w => qhas_any n l hl a b w
  have HHIT : Hid (∀ k : Nat, k < pts n → endT (hasR n l) k (pts n) = true → (∀ a : Nat, a < k → endT (hasR n l) a (pts n) = false) → optV (bottomR n l) = .tuple #[.int .i64 (k : Int), .bool true]) := fun k h1 h2 h3 => by
    show optV (fnd (pts n) fun u => endT (hasR n l) u (pts n)) = _; rw [fnd_hit (P := fun u => endT (hasR n l) u (pts n)) h1 h2 h3, optV_some]
  have HNO : Hid ((∀ a : Nat, a < pts n → endT (hasR n l) a (pts n) = false) → optV (bottomR n l) = .tuple #[.int .i64 0, .bool false]) := fun h => by
    show optV (fnd (pts n) fun u => endT (hasR n l) u (pts n)) = _; rw [fnd_none (P := fun u => endT (hasR n l) u (pts n)) h, optV_none]
  have hp := pts_le n
  generalize optV (bottomR n l) = res at *
  generalize (hasR n l) = R at *
  generalize pts n = p at *
  go_enter Tryz.func35, Tryz.ntmps35
  go_wp2_with fail
  go_loopw [6, 7, 8] (fun uv _ _ wr => ∃ u : Nat, u ≤ p ∧ uv = .int .i64 u ∧ RelAt wr w.heap.size n l ∧ Hid (Below w.heap.size w wr) ∧ Hid (∀ a, a < u → endT R a p = false)) (fun uv _ _ _ => p - (intOf uv).toNat)
  case atStart => exact ⟨0, by omega, rfl, hr1, HB, fun a ha => by omega⟩
  case round =>
    clear hr1 HB
    obtain ⟨u, hu, rfl, rr, HB, HA⟩ := hrel
    go_wp2_with (refine wpList_loadRel rfl _ rfl w.heap.size rfl n l hl rr ?_)
    refine (HPT.out _).mono ?_
    rintro e w1 ⟨rfl, hb1⟩
    have r1 := rr.below hb1 rr.lt
    have HB1 := Lib.hid (HB.out.trans (hb1.mono HB.out.size)); clear hb1 rr HB
    by_cases hlt : u < p
    · go_wp2_with fail
      have HG : Hid (true = endT R u 0) := rfl
      obtain ⟨wo, rfl⟩ : ∃ wo : World, wo = w1 := ⟨_, rfl⟩
      go_loopw [7, 8] (fun gv vv wr => ∃ (v : Nat) (q : Bool), v ≤ p ∧ gv = .bool q ∧ vv = .int .i64 v ∧ RelAt wr w.heap.size n l ∧ Hid (Below w.heap.size w wr) ∧ Hid (q = endT R u v)) (fun _ vv _ => p - (intOf vv).toNat)
      case atStart => exact ⟨0, true, by omega, rfl, rfl, r1, HB1, HG⟩
      case round =>
        clear r1 HB1 HG
        obtain ⟨v, q, hv, rfl, rfl, rr, HB, HG⟩ := hrel
        go_wp2_with (refine wpList_loadRel rfl _ rfl w.heap.size rfl n l hl rr ?_)
        refine (HPT.out _).mono ?_
        rintro e v1 ⟨rfl, hb⟩
        have k1 := rr.below hb rr.lt
        have HK1 := Lib.hid (HB.out.trans (hb.mono HB.out.size)); clear hb rr HB
        by_cases hvp : v < p
        · have HNX := Lib.hid (endT_next R u v)
          go_wp2_with (refine wpList_loadRel (by rfl) _ rfl w.heap.size rfl n l hl k1 ?_)
          refine (HHAS.out u v _).mono ?_
          rintro e v2 ⟨rfl, hb⟩
          have k2 := k1.below hb k1.lt
          have HK2 := Lib.hid (HK1.out.trans (hb.mono HK1.out.size)); clear hb
          cases c1 : R (u : Int) (v : Int) with
          | false =>
            have HG2 : Hid (false = endT R u (v + 1)) := by show _ = _; rw [HNX.out, c1]; simp
            clear c1
            go_wp2_with fail
            go_roundw
            case rel => exact ⟨v + 1, false, by omega, rfl, by go_num, k2, HK2, HG2⟩
            case measure => simp [intOf]; omega
          | true =>
            have HG2 : Hid (q = endT R u (v + 1)) := by show _ = _; rw [HNX.out, c1, HG.out]; simp
            clear c1
            go_wp2_with fail
            go_roundw
            case rel => exact ⟨v + 1, q, by omega, rfl, by go_num, k2, HK2, HG2⟩
            case measure => simp [intOf]; omega
        · have e : v = p := by omega
          subst e
          cases q with
          | false =>
            have HA2 : Hid (∀ a, a < u + 1 → endT R a v = false) := fun a ha => by
              by_cases h : a < u
              · exact HA.out a h
              · obtain rfl : a = u := by omega
                exact HG.out.symm
            go_wp2_with fail
            go_roundw
            case rel => exact ⟨u + 1, by omega, by go_num, k1, HK1, HA2⟩
            case measure => simp [intOf]; omega
          | true =>
            have HR := Lib.hid (HHIT.out u hlt HG.out.symm HA.out)
            go_wp2_with fail
            go_ret2
            exact ⟨congrArg Ending.returned HR.out.symm, HK1.out⟩
    · have e : u = p := by omega
      subst e
      have HR := Lib.hid (HNO.out HA.out)
      go_wp2_with fail
      go_ret2
      exact ⟨congrArg Ending.returned HR.out.symm, HB1.out⟩
set_option maxRecDepth 8000 in
set_option maxHeartbeats 4000000 in
theorem hqtop_any (n : Int) (l : List Nat) (hl : RW l) (w : World) :
    Calls Tryz.prog 35 #[.agg (rv n l), .bool true] w fun e w' => e = .returned (optV (topR n l)) ∧ Below w.heap.size w w' := by
  have hr1 := RelAt.new w n l
  have hb : Below w.heap.size w (w.alloc (.cells (rv n l) 44)) := (Below.refl _ _).alloc (Nat.le_refl _) _
  have HB := Lib.hid hb; clear hb
  have HPT : Hid (∀ w, Calls Tryz.prog 56 #[.agg (rv n l)] w fun e w' => e = .returned (.int .i64 ((pts n : Nat) : Int)) ∧ Below w.heap.size w w') := fun w => qpoints_any n l w
  have HHAS : Hid (∀ (a b : Int) w, Calls Tryz.prog 64 #[.agg (rv n l), .int .i64 b, .int .i64 a] w fun e w' => e = .returned (.bool ((flp (hasR n l)) a b)) ∧ Below w.heap.size w w') := fun a b w => qhas_any n l hl b a w
  have HHIT : Hid (∀ k : Nat, k < pts n → endT (flp (hasR n l)) k (pts n) = true → (∀ a : Nat, a < k → endT (flp (hasR n l)) a (pts n) = false) → optV (topR n l) = .tuple #[.int .i64 (k : Int), .bool true]) := fun k h1 h2 h3 => by
    show optV (fnd (pts n) fun u => endT (flp (hasR n l)) u (pts n)) = _; rw [fnd_hit (P := fun u => endT (flp (hasR n l)) u (pts n)) h1 h2 h3, optV_some]
  have HNO : Hid ((∀ a : Nat, a < pts n → endT (flp (hasR n l)) a (pts n) = false) → optV (topR n l) = .tuple #[.int .i64 0, .bool false]) := fun h => by
    show optV (fnd (pts n) fun u => endT (flp (hasR n l)) u (pts n)) = _; rw [fnd_none (P := fun u => endT (flp (hasR n l)) u (pts n)) h, optV_none]
  have hp := pts_le n
  generalize optV (topR n l) = res at *
  generalize (flp (hasR n l)) = R at *
  generalize pts n = p at *
  go_enter Tryz.func35, Tryz.ntmps35
  go_wp2_with fail
  go_loopw [6, 7, 8] (fun uv _ _ wr => ∃ u : Nat, u ≤ p ∧ uv = .int .i64 u ∧ RelAt wr w.heap.size n l ∧ Hid (Below w.heap.size w wr) ∧ Hid (∀ a, a < u → endT R a p = false)) (fun uv _ _ _ => p - (intOf uv).toNat)
  case atStart => exact ⟨0, by omega, rfl, hr1, HB, fun a ha => by omega⟩
  case round =>
    clear hr1 HB
    obtain ⟨u, hu, rfl, rr, HB, HA⟩ := hrel
    go_wp2_with (refine wpList_loadRel rfl _ rfl w.heap.size rfl n l hl rr ?_)
    refine (HPT.out _).mono ?_
    rintro e w1 ⟨rfl, hb1⟩
    have r1 := rr.below hb1 rr.lt
    have HB1 := Lib.hid (HB.out.trans (hb1.mono HB.out.size)); clear hb1 rr HB
    by_cases hlt : u < p
    · go_wp2_with fail
      have HG : Hid (true = endT R u 0) := rfl
      obtain ⟨wo, rfl⟩ : ∃ wo : World, wo = w1 := ⟨_, rfl⟩
      go_loopw [7, 8] (fun gv vv wr => ∃ (v : Nat) (q : Bool), v ≤ p ∧ gv = .bool q ∧ vv = .int .i64 v ∧ RelAt wr w.heap.size n l ∧ Hid (Below w.heap.size w wr) ∧ Hid (q = endT R u v)) (fun _ vv _ => p - (intOf vv).toNat)
      case atStart => exact ⟨0, true, by omega, rfl, rfl, r1, HB1, HG⟩
      case round =>
        clear r1 HB1 HG
        obtain ⟨v, q, hv, rfl, rfl, rr, HB, HG⟩ := hrel
        go_wp2_with (refine wpList_loadRel rfl _ rfl w.heap.size rfl n l hl rr ?_)
        refine (HPT.out _).mono ?_
        rintro e v1 ⟨rfl, hb⟩
        have k1 := rr.below hb rr.lt
        have HK1 := Lib.hid (HB.out.trans (hb.mono HB.out.size)); clear hb rr HB
        by_cases hvp : v < p
        · have HNX := Lib.hid (endT_next R u v)
          go_wp2_with (refine wpList_loadRel (by rfl) _ rfl w.heap.size rfl n l hl k1 ?_)
          refine (HHAS.out u v _).mono ?_
          rintro e v2 ⟨rfl, hb⟩
          have k2 := k1.below hb k1.lt
          have HK2 := Lib.hid (HK1.out.trans (hb.mono HK1.out.size)); clear hb
          cases c1 : R (u : Int) (v : Int) with
          | false =>
            have HG2 : Hid (false = endT R u (v + 1)) := by show _ = _; rw [HNX.out, c1]; simp
            clear c1
            go_wp2_with fail
            go_roundw
            case rel => exact ⟨v + 1, false, by omega, rfl, by go_num, k2, HK2, HG2⟩
            case measure => simp [intOf]; omega
          | true =>
            have HG2 : Hid (q = endT R u (v + 1)) := by show _ = _; rw [HNX.out, c1, HG.out]; simp
            clear c1
            go_wp2_with fail
            go_roundw
            case rel => exact ⟨v + 1, q, by omega, rfl, by go_num, k2, HK2, HG2⟩
            case measure => simp [intOf]; omega
        · have e : v = p := by omega
          subst e
          cases q with
          | false =>
            have HA2 : Hid (∀ a, a < u + 1 → endT R a v = false) := fun a ha => by
              by_cases h : a < u
              · exact HA.out a h
              · obtain rfl : a = u := by omega
                exact HG.out.symm
            go_wp2_with fail
            go_roundw
            case rel => exact ⟨u + 1, by omega, by go_num, k1, HK1, HA2⟩
            case measure => simp [intOf]; omega
          | true =>
            have HR := Lib.hid (HHIT.out u hlt HG.out.symm HA.out)
            go_wp2_with fail
            go_ret2
            exact ⟨congrArg Ending.returned HR.out.symm, HK1.out⟩
    · have e : u = p := by omega
      subst e
      have HR := Lib.hid (HNO.out HA.out)
      go_wp2_with fail
      go_ret2
      exact ⟨congrArg Ending.returned HR.out.symm, HB1.out⟩
set_option maxRecDepth 8000 in
set_option maxHeartbeats 1000000 in
theorem qraise_any (n : Int) (l : List Nat) (hl : RW l) (a b : Nat) (ha : a < 18446744073709551616) (hb : b < 18446744073709551616) (w : World) :
    Calls Tryz.prog 48 #[.agg (rv n l), .int .u64 (a : Int), .int .u64 (b : Int)] w fun e w' => e = .returned (.int .u64 ((raiseN n l a b : Nat) : Int)) ∧ Below w.heap.size w w' := by
  have hr1 := RelAt.new w n l
  have hb0 : Below w.heap.size w (w.alloc (.cells (rv n l) 44)) := (Below.refl _ _).alloc (Nat.le_refl _) _
  have HB := Lib.hid hb0; clear hb0
  obtain ⟨pa, ea⟩ : ∃ pa, pa = ptO n l a := ⟨_, rfl⟩
  obtain ⟨pb, eb⟩ : ∃ pb, pb = ptO n l b := ⟨_, rfl⟩
  obtain ⟨k, ek⟩ : ∃ k, k = joinR n l ((pa.getD 0 : Nat) : Int) ((pb.getD 0 : Nat) : Int) := ⟨_, rfl⟩
  have HPA : Hid (∀ w, Calls Tryz.prog 79 #[.agg (rv n l), .int .u64 (a : Int)] w fun e w' => e = .returned (optV pa) ∧ Below w.heap.size w w') := fun w => by rw [ea]; exact qpoint_any n l hl a w
  have HPB : Hid (∀ w, Calls Tryz.prog 79 #[.agg (rv n l), .int .u64 (b : Int)] w fun e w' => e = .returned (optV pb) ∧ Below w.heap.size w w') := fun w => by rw [eb]; exact qpoint_any n l hl b w
  have HJ : Hid (∀ w, Calls Tryz.prog 83 #[.agg (rv n l), .int .i64 ((pa.getD 0 : Nat) : Int), .int .i64 ((pb.getD 0 : Nat) : Int)] w fun e w' => e = .returned (optV k) ∧ Below w.heap.size w w') := fun w => by rw [ek]; exact qjoin_any n l hl _ _ w
  have HWD : Hid (∀ w, Calls Tryz.prog 36 #[.agg (rv n l), .int .i64 ((k.getD 0 : Nat) : Int)] w fun e w' => e = .returned (.int .u64 ((wordN n l ((k.getD 0 : Nat) : Int) : Nat) : Int)) ∧ Below w.heap.size w w') := fun w => qword_any n l hl _ w
  have HV : Hid (raiseN n l a b = if pa.isSome && pb.isSome && k.isSome then wordN n l ((k.getD 0 : Nat) : Int) else a ||| b) := by
    show raiseN n l a b = _
    unfold raiseN raiseF
    rw [← ea, ← eb, ← ek]
  have hor : bits BinOp.or IntKind.u64 (a : Int) (b : Int) = ((a ||| b : Nat) : Int) := u64_or_nat a b ha hb
  have HOR := Lib.hid hor; clear hor
  clear ea eb ek
  unfold optV at HPA HPB HJ
  generalize raiseN n l a b = res at *
  generalize wordN n l ((k.getD 0 : Nat) : Int) = wd at *
  generalize pa.getD 0 = x at *
  generalize pb.getD 0 = y at *
  generalize k.getD 0 = z at *
  generalize pa.isSome = b1 at *
  generalize pb.isSome = b2 at *
  generalize k.isSome = b3 at *

  go_enter Tryz.func48, Tryz.ntmps48
  go_wp2_with (refine wpList_loadRel rfl _ rfl w.heap.size rfl n l hl hr1 ?_)
  refine (HPA.out _).mono ?_
  rintro e w1 ⟨rfl, hb1⟩
  have r1 := hr1.below hb1 hr1.lt
  have HB1 := Lib.hid (HB.out.trans (hb1.mono HB.out.size)); clear hb1
  go_wp2_with (refine wpList_loadRel rfl _ rfl w.heap.size rfl n l hl r1 ?_)
  refine (HPB.out _).mono ?_
  rintro e w2 ⟨rfl, hb2⟩
  have r2 := r1.below hb2 r1.lt
  have HB2 := Lib.hid (HB1.out.trans (hb2.mono HB1.out.size)); clear hb2
  go_wp2_with (refine wpList_loadRel rfl _ rfl w.heap.size rfl n l hl r2 ?_)
  refine (HJ.out _).mono ?_
  rintro e w3 ⟨rfl, hb3⟩
  have r3 := r2.below hb3 r2.lt
  have HB3 := Lib.hid (HB2.out.trans (hb3.mono HB2.out.size)); clear hb3
  clear hr1 r1 r2 HB HB1 HB2 HPA HPB HJ
  cases b1 with
  | false =>
    go_wp2_with fail
    go_ret
    exact ⟨ret_eq (by rw [HV.out]; exact int_eq HOR.out), HB3.out⟩
  | true =>
    cases b2 with
    | false =>
      go_wp2_with fail
      go_ret
      exact ⟨ret_eq (by rw [HV.out]; exact int_eq HOR.out), HB3.out⟩
    | true =>
      cases b3 with
      | false =>
        go_wp2_with fail
        go_ret
        exact ⟨ret_eq (by rw [HV.out]; exact int_eq HOR.out), HB3.out⟩
      | true =>
        go_wp2_with (refine wpList_loadRel rfl _ rfl w.heap.size rfl n l hl r3 ?_)
        refine (HWD.out _).mono ?_
        rintro e w4 ⟨rfl, hb4⟩
        have HB4 := Lib.hid (HB3.out.trans (hb4.mono HB3.out.size)); clear hb4
        go_wp2_with fail
        go_ret
        exact ⟨ret_eq (by rw [HV.out]; rfl), HB4.out⟩
end Go.Proofs.YtpgkcddhpeoiiaaGreatDoor

/-
  What Lattice of layer 6's reference and alive return. Conditions: 64 words below 2^64; the table of math/bits in memory.
-/
namespace Go.Proofs.YtpgkcddhpeoiiaaGreatDoor
open Go.RowKit RM

set_option maxRecDepth 8000 in
set_option maxHeartbeats 2000000 in
theorem qlattice_any (n : Int) (l : List Nat) (hl : RW l) (w : World) :
    Calls Tryz.prog 58 #[.agg (rv n l)] w fun e w' => e = .returned (.bool (latB n l)) ∧ Below w.heap.size w w' := by
  have hr1 := RelAt.new w n l
  have hc0 := hr1.cell0
  have hb : Below w.heap.size w (w.alloc (.cells (rv n l) 44)) := (Below.refl _ _).alloc (Nat.le_refl _) _
  have HB := Lib.hid hb; clear hb
  by_cases h1 : n < 1
  · rw [latB_low h1]
    go_enter Tryz.func58, Tryz.ntmps58
    go_wp2_with fail
    go_ret
    exact ⟨rfl, HB.out⟩
  · by_cases h2 : 64 < n
    · rw [latB_high h2]
      have h3 : 1 ≤ n := by omega
      go_enter Tryz.func58, Tryz.ntmps58
      go_wp2_with fail
      go_ret
      exact ⟨rfl, HB.out⟩
    · have h3 : 1 ≤ n := by omega
      have h4 : n ≤ 64 := by omega
      have hp : ((pts n : Nat) : Int) = n := pts_in (by omega) h4
      have HO : Hid (∀ w, Calls Tryz.prog 73 #[.agg (rv n l)] w fun e w' => e = .returned (.bool (ordR n l)) ∧ Below w.heap.size w w') := qorder_any n l hl
      cases hord : ordR n l with
      | false =>
        rw [latB_ord hord]
        rw [hord] at HO
        clear hp
        go_enter Tryz.func58, Tryz.ntmps58
        go_wp2_with (refine wpList_loadRel (by rfl) _ rfl w.heap.size rfl n l hl hr1 ?_)
        refine (HO.out _).mono ?_
        rintro e w1 ⟨rfl, hb1⟩
        have HB1 := Lib.hid (HB.out.trans (hb1.mono (by simp))); clear hb1
        go_wp2_with fail
        go_ret
        exact ⟨rfl, HB1.out⟩
      | true =>
        rw [hord] at HO
        have HYES : Hid ((∀ a, a < pts n → ∀ b, b < a → latT n l a b = true) → latB n l = true) := fun h => latB_yes h3 h4 hord h
        have HNO : Hid (∀ a b, a < pts n → b < a → latT n l a b = false → latB n l = false) := fun a b ha hb h => latB_pair ha hb h
        have HBU : Hid (∀ (i j : Nat) w, Calls Tryz.prog 83 #[.agg (rv n l), .int .i64 (i : Int), .int .i64 (j : Int)] w fun e w' => e = .returned (.tuple #[.int .i64 (((joinR n l i j).getD 0 : Nat) : Int), .bool (joinR n l i j).isSome]) ∧ Below w.heap.size w w') := fun i j w => qjoin_any n l hl i j w
        have HBD : Hid (∀ (i j : Nat) w, Calls Tryz.prog 97 #[.agg (rv n l), .int .i64 (i : Int), .int .i64 (j : Int)] w fun e w' => e = .returned (.tuple #[.int .i64 (((meetR n l i j).getD 0 : Nat) : Int), .bool (meetR n l i j).isSome]) ∧ Below w.heap.size w w') := fun i j w => qmeet_any n l hl i j w
        have HLT : Hid (∀ i j : Nat, latT n l i j = ((joinR n l i j).isSome && (meetR n l i j).isSome)) := fun _ _ => rfl
        clear hord
        generalize latB n l = res at *
        generalize latT n l = T at *
        generalize joinR n l = J at *
        generalize meetR n l = M at *
        have hc0' := hc0
        rw [← hp] at hc0 h3 h4
        have HPN := Lib.hid hp; clear hp
        generalize pts n = p at *
        go_enter Tryz.func58, Tryz.ntmps58
        go_wp2_with (refine wpList_loadRel (by rfl) _ rfl w.heap.size rfl n l hl hr1 ?_)
        refine (HO.out _).mono ?_
        rintro e w1 ⟨rfl, hb1⟩
        have r1 := hr1.below hb1 hr1.lt
        have HB1 := Lib.hid (HB.out.trans (hb1.mono (by simp))); clear hb1 hc0 hr1 HB hc0'
        go_wp2_with fail
        go_loopw [3, 4, 5, 6, 7, 8] (fun iv _ _ _ _ _ wr => ∃ i : Nat, i ≤ p ∧ iv = .int .i64 i ∧ RelAt wr w.heap.size n l ∧ Hid (Below w.heap.size w wr) ∧ Hid (∀ a, a < i → ∀ b, b < a → T a b = true)) (fun iv _ _ _ _ _ _ => p - (intOf iv).toNat)
        case atStart => exact ⟨0, by omega, rfl, r1, HB1, fun a ha => by omega⟩
        case round =>
          clear r1 HB1
          obtain ⟨i, hi, rfl, rr, HB, HA⟩ := hrel
          have hc1 := rr.cell0
          rw [← HPN.out] at hc1
          by_cases hlt : i < p
          · go_wp2_with fail
            clear hc1
            obtain ⟨wo, rfl⟩ : ∃ wo : World, wo = wr := ⟨_, rfl⟩
            go_loopw [4, 5, 6, 7, 8] (fun jv _ _ _ _ wr => ∃ j : Nat, j ≤ i ∧ jv = .int .i64 j ∧ RelAt wr w.heap.size n l ∧ Hid (Below w.heap.size w wr) ∧ Hid (∀ b, b < j → T i b = true)) (fun jv _ _ _ _ _ => i - (intOf jv).toNat)
            case atStart => exact ⟨0, by omega, rfl, rr, HB, fun b hb => by omega⟩
            case round =>
              clear rr HB
              obtain ⟨j, hj, rfl, rr, HB, HJ⟩ := hrel
              by_cases hji : j < i
              · have HTT := Lib.hid (HLT.out i j)
                have HU := Lib.hid (HBU.out i j)
                have HD := Lib.hid (HBD.out i j)
                have HN := Lib.hid (HNO.out i j hlt hji)
                generalize (J (i : Int) (j : Int)).isSome = b1 at *
                generalize (M (i : Int) (j : Int)).isSome = b2 at *
                generalize (J (i : Int) (j : Int)).getD 0 = v1 at *
                generalize (M (i : Int) (j : Int)).getD 0 = v2 at *
                go_wp2_with (refine wpList_loadRel rfl _ rfl w.heap.size rfl n l hl rr ?_)
                refine (HU.out _).mono ?_
                rintro e w4 ⟨rfl, hb4⟩
                have r4 := rr.below hb4 rr.lt
                have HB4 := Lib.hid (HB.out.trans (hb4.mono HB.out.size)); clear hb4 rr HB
                go_wp2_with (refine wpList_loadRel rfl _ rfl w.heap.size rfl n l hl r4 ?_)
                refine (HD.out _).mono ?_
                rintro e w5 ⟨rfl, hb5⟩
                have r5 := r4.below hb5 r4.lt
                have HB5 := Lib.hid (HB4.out.trans (hb5.mono HB4.out.size)); clear hb5 r4 HB4
                cases b1 with
                | false =>
                  have HR := Lib.hid (HN.out HTT.out)
                  go_wp2_with fail
                  go_ret
                  exact ⟨ret_eq (bool_eq HR.out.symm), HB5.out⟩
                | true =>
                  cases b2 with
                  | false =>
                    have HR := Lib.hid (HN.out HTT.out)
                    go_wp2_with fail
                    go_ret
                    exact ⟨ret_eq (bool_eq HR.out.symm), HB5.out⟩
                  | true =>
                    have HJ2 : Hid (∀ b, b < j + 1 → T i b = true) := fun b hb => by
                      by_cases h : b < j
                      · exact HJ.out b h
                      · obtain rfl : b = j := by omega
                        exact HTT.out
                    go_wp2_with fail
                    go_roundw
                    case rel => exact ⟨j + 1, by omega, by go_num, r5, HB5, HJ2⟩
                    case measure => simp [intOf]; omega
              · have hjj : j = i := by omega
                subst hjj
                have HA2 : Hid (∀ a, a < j + 1 → ∀ b, b < a → T a b = true) := fun a ha => by
                  by_cases h : a < j
                  · exact HA.out a h
                  · obtain rfl : a = j := by omega
                    exact HJ.out
                go_wp2_with fail
                go_roundw
                case rel => exact ⟨j + 1, by omega, by go_num, rr, HB, HA2⟩
                case measure => simp [intOf]; omega
          · have hpi : i = p := by omega
            subst hpi
            have HR := Lib.hid (HYES.out HA.out)
            go_wp2_with fail
            go_ret
            exact ⟨ret_eq (bool_eq HR.out.symm), HB.out⟩

/-! The example. -/
def exD : List Nat := [31, 18, 20, 24, 16] ++ List.replicate 59 0
def exDp : List (Int × Int) := [(0, 1), (0, 2), (0, 3), (1, 4), (2, 4), (3, 4)]
set_option maxRecDepth 8000 in
theorem exD_eq : cz 5 (ofR 5 exDp) = exD := by kernel_rfl
set_option maxRecDepth 8000 in
theorem exD_rw : RW exD := by rw [← exD_eq]; exact RW.mk _ _
set_option maxRecDepth 8000 in
theorem exD_join : joinR 5 exD 1 2 = some 4 := by kernel_rfl
set_option maxRecDepth 8000 in
theorem exD_meet : meetR 5 exD 1 2 = some 0 := by kernel_rfl
set_option maxRecDepth 8000 in
theorem exD_lat : latB 5 exD = true := by kernel_rfl
def exDc : Array Value := #[.int .i64 0, .int .i64 1, .int .i64 0, .int .i64 2, .int .i64 0, .int .i64 3, .int .i64 1, .int .i64 4, .int .i64 2, .int .i64 4, .int .i64 3, .int .i64 4]
set_option maxRecDepth 8000 in
theorem exDc_eq : exDc.toList = pcells exDp := by rfl
end Go.Proofs.YtpgkcddhpeoiiaaGreatDoor
