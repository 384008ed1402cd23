/- Texts that SpellElemCard, SpellNodeCard, SpellSoundCard need. Conditions: those that each states. -/

import Derived.Test.YtkgonoejnochjaaGreatDoorY12
import Derived.Test.YtkgonoejnochjaaGreatDoorY35
set_option linter.unusedSimpArgs false
set_option linter.unusedVariables false
set_option maxRecDepth 8000
namespace Go.Proofs.YtkgonoejnochjaaGreatDoor
open Go.RowKit RM
end Go.Proofs.YtkgonoejnochjaaGreatDoor
namespace Go.Proofs.YtkgonoejnochjaaGreatDoor
open Go.RowKit RM
def allT (R : Int → Int → Bool) (i j : Int) (u v : Nat) : Bool := (List.range v).all fun x => !(R i x && R j x) || R u x
theorem allT_next (R : Int → Int → Bool) (i j : Int) (u v : Nat) : allT R i j u (v + 1) = (allT R i j u v && (!(R i v && R j v) || R u v)) := by
 unfold allT
 rw [List.range_succ, List.all_append]
 simp
set_option maxHeartbeats 4000000 in
theorem qjoin_any (n : Int) (l : List Nat) (hl : RW l) (i j : Int) (w : World) :
 Calls Tryz.prog 127 #[.agg (rv n l), .int .i64 i, .int .i64 j] w fun e w' => e = .returned (optV (joinR n l i j)) ∧ Below w.heap.size w w' := by
 have hr1 := RelAt.new w n l
 have hb : Below w.heap.size w (w.alloc (.cells (rv n l) 49)) := (Below.refl _ _).alloc (Nat.le_refl _) _
 have HB := Lib.hid hb; clear hb
 have HPT : Hid (∀ w, Calls Tryz.prog 84 #[.agg (rv n l)] w fun e w' => e = .returned (.int .i64 ((pts n : Nat) : Int)) ∧ Below w.heap.size w w') := fun w => qpoints_any n l w
 have HHAS : Hid (∀ (a b : Int) w, Calls Tryz.prog 100 #[.agg (rv n l), .int .i64 a, .int .i64 b] w fun e w' => e = .returned (.bool ((hasR n l) a b)) ∧ Below w.heap.size w w') := fun a b w => qhas_any n l hl a b w
 have HTT : Hid (∀ u : Nat, bndT (pts n) (hasR n l) i j u = ((hasR n l) i u && (hasR n l) j u && allT (hasR n l) i j u (pts n))) := fun _ => rfl
 have HHIT : Hid (∀ k : Nat, k < pts n → bndT (pts n) (hasR n l) i j k = true → (∀ a : Nat, a < k → bndT (pts n) (hasR n l) i j a = false) → optV (joinR n l i j) = .tuple #[.int .i64 (k : Int), .bool true]) := fun k h1 h2 h3 => by
  unfold joinR bndO; rw [fnd_hit h1 h2 h3, optV_some]
 have HNO : Hid ((∀ a : Nat, a < pts n → bndT (pts n) (hasR n l) i j a = false) → optV (joinR n l i j) = .tuple #[.int .i64 0, .bool false]) := fun h => by
  unfold joinR bndO; rw [fnd_none h, optV_none]
 have hp := pts_le n
 generalize optV (joinR n l i j) = res at *
 generalize bndT (pts n) (hasR n l) i j = T at *
 generalize (hasR n l) = R at *
 generalize pts n = p at *
 go_enter Tryz.func127, Tryz.ntmps127
 go_wp2_with fail
 go_loopw [8, 9, 10] (fun uv _ _ wr => ∃ u : Nat, u ≤ p ∧ uv = .int .i64 u ∧ RelAt wr w.heap.size n l ∧ Hid (Below w.heap.size w wr) ∧ Hid (∀ a, a < u → T a = false)) (fun uv _ _ _ => p - (intOf uv).toNat)
 case atStart => exact ⟨0, by omega, rfl, hr1, HB, fun a ha => by omega⟩
 case round =>
  clear hr1 HB
  obtain ⟨u, hu, rfl, rr, HB, HA⟩ := hrel
  go_wp2_with (refine wpList_loadRel rfl _ rfl w.heap.size rfl n l hl rr ?_)
  refine (HPT.out _).mono ?_
  rintro e w1 ⟨rfl, hb1⟩
  have r1 := rr.below hb1 rr.lt
  have HB1 := Lib.hid (HB.out.trans (hb1.mono HB.out.size)); clear hb1 rr HB
  by_cases hlt : u < p
  ·go_wp2_with (refine wpList_loadRel (by rfl) _ rfl w.heap.size rfl n l hl r1 ?_)
   refine (HHAS.out i (u : Int) _).mono ?_
   rintro e w2 ⟨rfl, hb⟩
   have r2 := r1.below hb r1.lt
   have HB2 := Lib.hid (HB1.out.trans (hb.mono HB1.out.size)); clear hb
   clear r1 HB1
   cases d1 : R i (u : Int) with
   | false =>
     go_wp2_with fail
     have HG : Hid (false = (R i u && R j u && allT R i j u 0)) := by show _ = _; rw [d1]; simp
     obtain ⟨wo, rfl⟩ : ∃ wo : World, wo = w2 := ⟨_, rfl⟩
     go_loopw [9, 10] (fun gv vv wr => ∃ (v : Nat) (q : Bool), v ≤ p ∧ gv = .bool q ∧ vv = .int .i64 v ∧ RelAt wr w.heap.size n l ∧ Hid (Below w.heap.size w wr) ∧ Hid (q = (R i u && R j u && allT R i j u v))) (fun _ vv _ => p - (intOf vv).toNat)
     case atStart => exact ⟨0, false, by omega, rfl, rfl, r2, HB2, HG⟩
     case round =>
      clear r2 HB2 HG
      obtain ⟨v, q, hv, rfl, rfl, rr, HB, HG⟩ := hrel
      go_wp2_with (refine wpList_loadRel rfl _ rfl w.heap.size rfl n l hl rr ?_)
      refine (HPT.out _).mono ?_
      rintro e v1 ⟨rfl, hb⟩
      have k1 := rr.below hb rr.lt
      have HK1 := Lib.hid (HB.out.trans (hb.mono HB.out.size)); clear hb rr HB
      by_cases hvp : v < p
      ·have HNX := Lib.hid (allT_next R i j u v)
       go_wp2_with (refine wpList_loadRel (by rfl) _ rfl w.heap.size rfl n l hl k1 ?_)
       refine (HHAS.out i (v : Int) _).mono ?_
       rintro e v2 ⟨rfl, hb⟩
       have k2 := k1.below hb k1.lt
       have HK2 := Lib.hid (HK1.out.trans (hb.mono HK1.out.size)); clear hb
       clear k1 HK1
       cases c1 : R i (v : Int) with
       | false =>
         have HG2 : Hid (q = (R i u && R j u && allT R i j u (v + 1))) := by show _ = _; rw [HNX.out, c1, HG.out]; simp
         clear c1
         go_wp2_with fail
         go_roundw
         case rel => exact ⟨v + 1, q, by omega, rfl, by go_num, k2, HK2, HG2⟩
         case measure => simp [intOf]; omega
       | true =>
         have C1 := Lib.hid c1; clear c1
         go_wp2_with (refine wpList_loadRel (by rfl) _ rfl w.heap.size rfl n l hl k2 ?_)
         refine (HHAS.out j (v : Int) _).mono ?_
         rintro e v3 ⟨rfl, hb⟩
         have k3 := k2.below hb k2.lt
         have HK3 := Lib.hid (HK2.out.trans (hb.mono HK2.out.size)); clear hb
         clear k2 HK2
         cases c2 : R j (v : Int) with
         | false =>
           have HG2 : Hid (q = (R i u && R j u && allT R i j u (v + 1))) := by show _ = _; rw [HNX.out, c2, HG.out]; simp
           clear c2
           go_wp2_with fail
           go_roundw
           case rel => exact ⟨v + 1, q, by omega, rfl, by go_num, k3, HK3, HG2⟩
           case measure => simp [intOf]; omega
         | true =>
           have C2 := Lib.hid c2; clear c2
           go_wp2_with (refine wpList_loadRel (by rfl) _ rfl w.heap.size rfl n l hl k3 ?_)
           refine (HHAS.out u (v : Int) _).mono ?_
           rintro e v4 ⟨rfl, hb⟩
           have k4 := k3.below hb k3.lt
           have HK4 := Lib.hid (HK3.out.trans (hb.mono HK3.out.size)); clear hb
           clear k3 HK3
           cases c3 : R u (v : Int) with
           | false =>
             have HG2 : Hid (false = (R i u && R j u && allT R i j u (v + 1))) := by show _ = _; rw [HNX.out, C1.out, C2.out, c3]; simp
             clear c3
             go_wp2_with fail
             go_roundw
             case rel => exact ⟨v + 1, false, by omega, rfl, by go_num, k4, HK4, HG2⟩
             case measure => simp [intOf]; omega
           | true =>
             have HG2 : Hid (q = (R i u && R j u && allT R i j u (v + 1))) := by show _ = _; rw [HNX.out, c3, HG.out]; simp
             clear c3
             go_wp2_with fail
             go_roundw
             case rel => exact ⟨v + 1, q, by omega, rfl, by go_num, k4, HK4, HG2⟩
             case measure => simp [intOf]; omega
      ·have e : v = p := by omega
       subst e
       cases q with
       | false =>
         have HA2 : Hid (∀ a, a < u + 1 → T a = false) := fun a ha => by
          by_cases h : a < u
          ·exact HA.out a h
          ·obtain rfl : a = u := by omega
           rw [HTT.out]; exact HG.out.symm
         go_wp2_with fail
         go_roundw
         case rel => exact ⟨u + 1, by omega, by go_num, k1, HK1, HA2⟩
         case measure => simp [intOf]; omega
       | true =>
         have HR := Lib.hid (HHIT.out u hlt ((HTT.out u).trans HG.out.symm) HA.out)
         go_wp2_with fail
         go_ret2
         exact ⟨congrArg Ending.returned HR.out.symm, HK1.out⟩
   | true =>
     have D1 := Lib.hid d1; clear d1
     go_wp2_with (refine wpList_loadRel (by rfl) _ rfl w.heap.size rfl n l hl r2 ?_)
     refine (HHAS.out j (u : Int) _).mono ?_
     rintro e w3 ⟨rfl, hb⟩
     have r3 := r2.below hb r2.lt
     have HB3 := Lib.hid (HB2.out.trans (hb.mono HB2.out.size)); clear hb
     clear r2 HB2
     obtain ⟨q0, d2⟩ : ∃ q0, R j (u : Int) = q0 := ⟨_, rfl⟩
     have D2 := Lib.hid d2; rw [d2]; clear d2
     go_wp2_with fail
     have HG : Hid (q0 = (R i u && R j u && allT R i j u 0)) := by show _ = _; rw [D1.out, D2.out]; simp [allT]
     obtain ⟨wo, rfl⟩ : ∃ wo : World, wo = w3 := ⟨_, rfl⟩
     go_loopw [9, 10] (fun gv vv wr => ∃ (v : Nat) (q : Bool), v ≤ p ∧ gv = .bool q ∧ vv = .int .i64 v ∧ RelAt wr w.heap.size n l ∧ Hid (Below w.heap.size w wr) ∧ Hid (q = (R i u && R j u && allT R i j u v))) (fun _ vv _ => p - (intOf vv).toNat)
     case atStart => exact ⟨0, q0, by omega, rfl, rfl, r3, HB3, HG⟩
     case round =>
      clear r3 HB3 HG
      obtain ⟨v, q, hv, rfl, rfl, rr, HB, HG⟩ := hrel
      go_wp2_with (refine wpList_loadRel rfl _ rfl w.heap.size rfl n l hl rr ?_)
      refine (HPT.out _).mono ?_
      rintro e v1 ⟨rfl, hb⟩
      have k1 := rr.below hb rr.lt
      have HK1 := Lib.hid (HB.out.trans (hb.mono HB.out.size)); clear hb rr HB
      by_cases hvp : v < p
      ·have HNX := Lib.hid (allT_next R i j u v)
       go_wp2_with (refine wpList_loadRel (by rfl) _ rfl w.heap.size rfl n l hl k1 ?_)
       refine (HHAS.out i (v : Int) _).mono ?_
       rintro e v2 ⟨rfl, hb⟩
       have k2 := k1.below hb k1.lt
       have HK2 := Lib.hid (HK1.out.trans (hb.mono HK1.out.size)); clear hb
       clear k1 HK1
       cases c1 : R i (v : Int) with
       | false =>
         have HG2 : Hid (q = (R i u && R j u && allT R i j u (v + 1))) := by show _ = _; rw [HNX.out, c1, HG.out]; simp
         clear c1
         go_wp2_with fail
         go_roundw
         case rel => exact ⟨v + 1, q, by omega, rfl, by go_num, k2, HK2, HG2⟩
         case measure => simp [intOf]; omega
       | true =>
         have C1 := Lib.hid c1; clear c1
         go_wp2_with (refine wpList_loadRel (by rfl) _ rfl w.heap.size rfl n l hl k2 ?_)
         refine (HHAS.out j (v : Int) _).mono ?_
         rintro e v3 ⟨rfl, hb⟩
         have k3 := k2.below hb k2.lt
         have HK3 := Lib.hid (HK2.out.trans (hb.mono HK2.out.size)); clear hb
         clear k2 HK2
         cases c2 : R j (v : Int) with
         | false =>
           have HG2 : Hid (q = (R i u && R j u && allT R i j u (v + 1))) := by show _ = _; rw [HNX.out, c2, HG.out]; simp
           clear c2
           go_wp2_with fail
           go_roundw
           case rel => exact ⟨v + 1, q, by omega, rfl, by go_num, k3, HK3, HG2⟩
           case measure => simp [intOf]; omega
         | true =>
           have C2 := Lib.hid c2; clear c2
           go_wp2_with (refine wpList_loadRel (by rfl) _ rfl w.heap.size rfl n l hl k3 ?_)
           refine (HHAS.out u (v : Int) _).mono ?_
           rintro e v4 ⟨rfl, hb⟩
           have k4 := k3.below hb k3.lt
           have HK4 := Lib.hid (HK3.out.trans (hb.mono HK3.out.size)); clear hb
           clear k3 HK3
           cases c3 : R u (v : Int) with
           | false =>
             have HG2 : Hid (false = (R i u && R j u && allT R i j u (v + 1))) := by show _ = _; rw [HNX.out, C1.out, C2.out, c3]; simp
             clear c3
             go_wp2_with fail
             go_roundw
             case rel => exact ⟨v + 1, false, by omega, rfl, by go_num, k4, HK4, HG2⟩
             case measure => simp [intOf]; omega
           | true =>
             have HG2 : Hid (q = (R i u && R j u && allT R i j u (v + 1))) := by show _ = _; rw [HNX.out, c3, HG.out]; simp
             clear c3
             go_wp2_with fail
             go_roundw
             case rel => exact ⟨v + 1, q, by omega, rfl, by go_num, k4, HK4, HG2⟩
             case measure => simp [intOf]; omega
      ·have e : v = p := by omega
       subst e
       cases q with
       | false =>
         have HA2 : Hid (∀ a, a < u + 1 → T a = false) := fun a ha => by
          by_cases h : a < u
          ·exact HA.out a h
          ·obtain rfl : a = u := by omega
           rw [HTT.out]; exact HG.out.symm
         go_wp2_with fail
         go_roundw
         case rel => exact ⟨u + 1, by omega, by go_num, k1, HK1, HA2⟩
         case measure => simp [intOf]; omega
       | true =>
         have HR := Lib.hid (HHIT.out u hlt ((HTT.out u).trans HG.out.symm) HA.out)
         go_wp2_with fail
         go_ret2
         exact ⟨congrArg Ending.returned HR.out.symm, HK1.out⟩
  ·have e : u = p := by omega
   subst e
   have HR := Lib.hid (HNO.out HA.out)
   go_wp2_with fail
   go_ret2
   exact ⟨congrArg Ending.returned HR.out.symm, HB1.out⟩
set_option maxHeartbeats 4000000 in
theorem qmeet_any (n : Int) (l : List Nat) (hl : RW l) (i j : Int) (w : World) :
 Calls Tryz.prog 128 #[.agg (rv n l), .int .i64 i, .int .i64 j] w fun e w' => e = .returned (optV (meetR n l i j)) ∧ Below w.heap.size w w' := by
 have hr1 := RelAt.new w n l
 have hb : Below w.heap.size w (w.alloc (.cells (rv n l) 49)) := (Below.refl _ _).alloc (Nat.le_refl _) _
 have HB := Lib.hid hb; clear hb
 have HPT : Hid (∀ w, Calls Tryz.prog 84 #[.agg (rv n l)] w fun e w' => e = .returned (.int .i64 ((pts n : Nat) : Int)) ∧ Below w.heap.size w w') := fun w => qpoints_any n l w
 have HHAS : Hid (∀ (a b : Int) w, Calls Tryz.prog 100 #[.agg (rv n l), .int .i64 b, .int .i64 a] w fun e w' => e = .returned (.bool ((flp (hasR n l)) a b)) ∧ Below w.heap.size w w') := fun a b w => qhas_any n l hl b a w
 have HTT : Hid (∀ u : Nat, bndT (pts n) (flp (hasR n l)) i j u = ((flp (hasR n l)) i u && (flp (hasR n l)) j u && allT (flp (hasR n l)) i j u (pts n))) := fun _ => rfl
 have HHIT : Hid (∀ k : Nat, k < pts n → bndT (pts n) (flp (hasR n l)) i j k = true → (∀ a : Nat, a < k → bndT (pts n) (flp (hasR n l)) i j a = false) → optV (meetR n l i j) = .tuple #[.int .i64 (k : Int), .bool true]) := fun k h1 h2 h3 => by
  unfold meetR bndO; rw [fnd_hit h1 h2 h3, optV_some]
 have HNO : Hid ((∀ a : Nat, a < pts n → bndT (pts n) (flp (hasR n l)) i j a = false) → optV (meetR n l i j) = .tuple #[.int .i64 0, .bool false]) := fun h => by
  unfold meetR bndO; rw [fnd_none h, optV_none]
 have hp := pts_le n
 generalize optV (meetR n l i j) = res at *
 generalize bndT (pts n) (flp (hasR n l)) i j = T at *
 generalize (flp (hasR n l)) = R at *
 generalize pts n = p at *
 go_enter Tryz.func128, Tryz.ntmps128
 go_wp2_with fail
 go_loopw [8, 9, 10] (fun uv _ _ wr => ∃ u : Nat, u ≤ p ∧ uv = .int .i64 u ∧ RelAt wr w.heap.size n l ∧ Hid (Below w.heap.size w wr) ∧ Hid (∀ a, a < u → T a = false)) (fun uv _ _ _ => p - (intOf uv).toNat)
 case atStart => exact ⟨0, by omega, rfl, hr1, HB, fun a ha => by omega⟩
 case round =>
  clear hr1 HB
  obtain ⟨u, hu, rfl, rr, HB, HA⟩ := hrel
  go_wp2_with (refine wpList_loadRel rfl _ rfl w.heap.size rfl n l hl rr ?_)
  refine (HPT.out _).mono ?_
  rintro e w1 ⟨rfl, hb1⟩
  have r1 := rr.below hb1 rr.lt
  have HB1 := Lib.hid (HB.out.trans (hb1.mono HB.out.size)); clear hb1 rr HB
  by_cases hlt : u < p
  ·go_wp2_with (refine wpList_loadRel (by rfl) _ rfl w.heap.size rfl n l hl r1 ?_)
   refine (HHAS.out i (u : Int) _).mono ?_
   rintro e w2 ⟨rfl, hb⟩
   have r2 := r1.below hb r1.lt
   have HB2 := Lib.hid (HB1.out.trans (hb.mono HB1.out.size)); clear hb
   clear r1 HB1
   cases d1 : R i (u : Int) with
   | false =>
     go_wp2_with fail
     have HG : Hid (false = (R i u && R j u && allT R i j u 0)) := by show _ = _; rw [d1]; simp
     obtain ⟨wo, rfl⟩ : ∃ wo : World, wo = w2 := ⟨_, rfl⟩
     go_loopw [9, 10] (fun gv vv wr => ∃ (v : Nat) (q : Bool), v ≤ p ∧ gv = .bool q ∧ vv = .int .i64 v ∧ RelAt wr w.heap.size n l ∧ Hid (Below w.heap.size w wr) ∧ Hid (q = (R i u && R j u && allT R i j u v))) (fun _ vv _ => p - (intOf vv).toNat)
     case atStart => exact ⟨0, false, by omega, rfl, rfl, r2, HB2, HG⟩
     case round =>
      clear r2 HB2 HG
      obtain ⟨v, q, hv, rfl, rfl, rr, HB, HG⟩ := hrel
      go_wp2_with (refine wpList_loadRel rfl _ rfl w.heap.size rfl n l hl rr ?_)
      refine (HPT.out _).mono ?_
      rintro e v1 ⟨rfl, hb⟩
      have k1 := rr.below hb rr.lt
      have HK1 := Lib.hid (HB.out.trans (hb.mono HB.out.size)); clear hb rr HB
      by_cases hvp : v < p
      ·have HNX := Lib.hid (allT_next R i j u v)
       go_wp2_with (refine wpList_loadRel (by rfl) _ rfl w.heap.size rfl n l hl k1 ?_)
       refine (HHAS.out i (v : Int) _).mono ?_
       rintro e v2 ⟨rfl, hb⟩
       have k2 := k1.below hb k1.lt
       have HK2 := Lib.hid (HK1.out.trans (hb.mono HK1.out.size)); clear hb
       clear k1 HK1
       cases c1 : R i (v : Int) with
       | false =>
         have HG2 : Hid (q = (R i u && R j u && allT R i j u (v + 1))) := by show _ = _; rw [HNX.out, c1, HG.out]; simp
         clear c1
         go_wp2_with fail
         go_roundw
         case rel => exact ⟨v + 1, q, by omega, rfl, by go_num, k2, HK2, HG2⟩
         case measure => simp [intOf]; omega
       | true =>
         have C1 := Lib.hid c1; clear c1
         go_wp2_with (refine wpList_loadRel (by rfl) _ rfl w.heap.size rfl n l hl k2 ?_)
         refine (HHAS.out j (v : Int) _).mono ?_
         rintro e v3 ⟨rfl, hb⟩
         have k3 := k2.below hb k2.lt
         have HK3 := Lib.hid (HK2.out.trans (hb.mono HK2.out.size)); clear hb
         clear k2 HK2
         cases c2 : R j (v : Int) with
         | false =>
           have HG2 : Hid (q = (R i u && R j u && allT R i j u (v + 1))) := by show _ = _; rw [HNX.out, c2, HG.out]; simp
           clear c2
           go_wp2_with fail
           go_roundw
           case rel => exact ⟨v + 1, q, by omega, rfl, by go_num, k3, HK3, HG2⟩
           case measure => simp [intOf]; omega
         | true =>
           have C2 := Lib.hid c2; clear c2
           go_wp2_with (refine wpList_loadRel (by rfl) _ rfl w.heap.size rfl n l hl k3 ?_)
           refine (HHAS.out u (v : Int) _).mono ?_
           rintro e v4 ⟨rfl, hb⟩
           have k4 := k3.below hb k3.lt
           have HK4 := Lib.hid (HK3.out.trans (hb.mono HK3.out.size)); clear hb
           clear k3 HK3
           cases c3 : R u (v : Int) with
           | false =>
             have HG2 : Hid (false = (R i u && R j u && allT R i j u (v + 1))) := by show _ = _; rw [HNX.out, C1.out, C2.out, c3]; simp
             clear c3
             go_wp2_with fail
             go_roundw
             case rel => exact ⟨v + 1, false, by omega, rfl, by go_num, k4, HK4, HG2⟩
             case measure => simp [intOf]; omega
           | true =>
             have HG2 : Hid (q = (R i u && R j u && allT R i j u (v + 1))) := by show _ = _; rw [HNX.out, c3, HG.out]; simp
             clear c3
             go_wp2_with fail
             go_roundw
             case rel => exact ⟨v + 1, q, by omega, rfl, by go_num, k4, HK4, HG2⟩
             case measure => simp [intOf]; omega
      ·have e : v = p := by omega
       subst e
       cases q with
       | false =>
         have HA2 : Hid (∀ a, a < u + 1 → T a = false) := fun a ha => by
          by_cases h : a < u
          ·exact HA.out a h
          ·obtain rfl : a = u := by omega
           rw [HTT.out]; exact HG.out.symm
         go_wp2_with fail
         go_roundw
         case rel => exact ⟨u + 1, by omega, by go_num, k1, HK1, HA2⟩
         case measure => simp [intOf]; omega
       | true =>
         have HR := Lib.hid (HHIT.out u hlt ((HTT.out u).trans HG.out.symm) HA.out)
         go_wp2_with fail
         go_ret2
         exact ⟨congrArg Ending.returned HR.out.symm, HK1.out⟩
   | true =>
     have D1 := Lib.hid d1; clear d1
     go_wp2_with (refine wpList_loadRel (by rfl) _ rfl w.heap.size rfl n l hl r2 ?_)
     refine (HHAS.out j (u : Int) _).mono ?_
     rintro e w3 ⟨rfl, hb⟩
     have r3 := r2.below hb r2.lt
     have HB3 := Lib.hid (HB2.out.trans (hb.mono HB2.out.size)); clear hb
     clear r2 HB2
     obtain ⟨q0, d2⟩ : ∃ q0, R j (u : Int) = q0 := ⟨_, rfl⟩
     have D2 := Lib.hid d2; rw [d2]; clear d2
     go_wp2_with fail
     have HG : Hid (q0 = (R i u && R j u && allT R i j u 0)) := by show _ = _; rw [D1.out, D2.out]; simp [allT]
     obtain ⟨wo, rfl⟩ : ∃ wo : World, wo = w3 := ⟨_, rfl⟩
     go_loopw [9, 10] (fun gv vv wr => ∃ (v : Nat) (q : Bool), v ≤ p ∧ gv = .bool q ∧ vv = .int .i64 v ∧ RelAt wr w.heap.size n l ∧ Hid (Below w.heap.size w wr) ∧ Hid (q = (R i u && R j u && allT R i j u v))) (fun _ vv _ => p - (intOf vv).toNat)
     case atStart => exact ⟨0, q0, by omega, rfl, rfl, r3, HB3, HG⟩
     case round =>
      clear r3 HB3 HG
      obtain ⟨v, q, hv, rfl, rfl, rr, HB, HG⟩ := hrel
      go_wp2_with (refine wpList_loadRel rfl _ rfl w.heap.size rfl n l hl rr ?_)
      refine (HPT.out _).mono ?_
      rintro e v1 ⟨rfl, hb⟩
      have k1 := rr.below hb rr.lt
      have HK1 := Lib.hid (HB.out.trans (hb.mono HB.out.size)); clear hb rr HB
      by_cases hvp : v < p
      ·have HNX := Lib.hid (allT_next R i j u v)
       go_wp2_with (refine wpList_loadRel (by rfl) _ rfl w.heap.size rfl n l hl k1 ?_)
       refine (HHAS.out i (v : Int) _).mono ?_
       rintro e v2 ⟨rfl, hb⟩
       have k2 := k1.below hb k1.lt
       have HK2 := Lib.hid (HK1.out.trans (hb.mono HK1.out.size)); clear hb
       clear k1 HK1
       cases c1 : R i (v : Int) with
       | false =>
         have HG2 : Hid (q = (R i u && R j u && allT R i j u (v + 1))) := by show _ = _; rw [HNX.out, c1, HG.out]; simp
         clear c1
         go_wp2_with fail
         go_roundw
         case rel => exact ⟨v + 1, q, by omega, rfl, by go_num, k2, HK2, HG2⟩
         case measure => simp [intOf]; omega
       | true =>
         have C1 := Lib.hid c1; clear c1
         go_wp2_with (refine wpList_loadRel (by rfl) _ rfl w.heap.size rfl n l hl k2 ?_)
         refine (HHAS.out j (v : Int) _).mono ?_
         rintro e v3 ⟨rfl, hb⟩
         have k3 := k2.below hb k2.lt
         have HK3 := Lib.hid (HK2.out.trans (hb.mono HK2.out.size)); clear hb
         clear k2 HK2
         cases c2 : R j (v : Int) with
         | false =>
           have HG2 : Hid (q = (R i u && R j u && allT R i j u (v + 1))) := by show _ = _; rw [HNX.out, c2, HG.out]; simp
           clear c2
           go_wp2_with fail
           go_roundw
           case rel => exact ⟨v + 1, q, by omega, rfl, by go_num, k3, HK3, HG2⟩
           case measure => simp [intOf]; omega
         | true =>
           have C2 := Lib.hid c2; clear c2
           go_wp2_with (refine wpList_loadRel (by rfl) _ rfl w.heap.size rfl n l hl k3 ?_)
           refine (HHAS.out u (v : Int) _).mono ?_
           rintro e v4 ⟨rfl, hb⟩
           have k4 := k3.below hb k3.lt
           have HK4 := Lib.hid (HK3.out.trans (hb.mono HK3.out.size)); clear hb
           clear k3 HK3
           cases c3 : R u (v : Int) with
           | false =>
             have HG2 : Hid (false = (R i u && R j u && allT R i j u (v + 1))) := by show _ = _; rw [HNX.out, C1.out, C2.out, c3]; simp
             clear c3
             go_wp2_with fail
             go_roundw
             case rel => exact ⟨v + 1, false, by omega, rfl, by go_num, k4, HK4, HG2⟩
             case measure => simp [intOf]; omega
           | true =>
             have HG2 : Hid (q = (R i u && R j u && allT R i j u (v + 1))) := by show _ = _; rw [HNX.out, c3, HG.out]; simp
             clear c3
             go_wp2_with fail
             go_roundw
             case rel => exact ⟨v + 1, q, by omega, rfl, by go_num, k4, HK4, HG2⟩
             case measure => simp [intOf]; omega
      ·have e : v = p := by omega
       subst e
       cases q with
       | false =>
         have HA2 : Hid (∀ a, a < u + 1 → T a = false) := fun a ha => by
          by_cases h : a < u
          ·exact HA.out a h
          ·obtain rfl : a = u := by omega
           rw [HTT.out]; exact HG.out.symm
         go_wp2_with fail
         go_roundw
         case rel => exact ⟨u + 1, by omega, by go_num, k1, HK1, HA2⟩
         case measure => simp [intOf]; omega
       | true =>
         have HR := Lib.hid (HHIT.out u hlt ((HTT.out u).trans HG.out.symm) HA.out)
         go_wp2_with fail
         go_ret2
         exact ⟨congrArg Ending.returned HR.out.symm, HK1.out⟩
  ·have e : u = p := by omega
   subst e
   have HR := Lib.hid (HNO.out HA.out)
   go_wp2_with fail
   go_ret2
   exact ⟨congrArg Ending.returned HR.out.symm, HB1.out⟩
end Go.Proofs.YtkgonoejnochjaaGreatDoor
namespace Go.Proofs.YtkgonoejnochjaaGreatDoor
open Go.RowKit RM
set_option maxHeartbeats 2000000 in
theorem qlattice_any (n : Int) (l : List Nat) (hl : RW l) (w : World) :
 Calls Tryz.prog 86 #[.agg (rv n l)] w fun e w' => e = .returned (.bool (latB n l)) ∧ Below w.heap.size w w' := by
 have hr1 := RelAt.new w n l
 have hc0 := hr1.cell0
 have hb : Below w.heap.size w (w.alloc (.cells (rv n l) 49)) := (Below.refl _ _).alloc (Nat.le_refl _) _
 have HB := Lib.hid hb; clear hb
 by_cases h1 : n < 1
 ·rw [latB_low h1]
  go_enter Tryz.func86, Tryz.ntmps86
  go_wp2_with fail
  go_ret
  exact ⟨rfl, HB.out⟩
 ·by_cases h2 : 64 < n
  ·rw [latB_high h2]
   have h3 : 1 ≤ n := by omega
   go_enter Tryz.func86, Tryz.ntmps86
   go_wp2_with fail
   go_ret
   exact ⟨rfl, HB.out⟩
  ·have h3 : 1 ≤ n := by omega
   have h4 : n ≤ 64 := by omega
   have hp : ((pts n : Nat) : Int) = n := pts_in (by omega) h4
   have HO : Hid (∀ w, Calls Tryz.prog 126 #[.agg (rv n l)] w fun e w' => e = .returned (.bool (ordR n l)) ∧ Below w.heap.size w w') := qorder_any n l hl
   cases hord : ordR n l with
   | false =>
     rw [latB_ord hord]
     rw [hord] at HO
     clear hp
     go_enter Tryz.func86, Tryz.ntmps86
     go_wp2_with (refine wpList_loadRel (by rfl) _ rfl w.heap.size rfl n l hl hr1 ?_)
     refine (HO.out _).mono ?_
     rintro e w1 ⟨rfl, hb1⟩
     have HB1 := Lib.hid (HB.out.trans (hb1.mono (by simp))); clear hb1
     go_wp2_with fail
     go_ret
     exact ⟨rfl, HB1.out⟩
   | true =>
     rw [hord] at HO
     have HYES : Hid ((∀ a, a < pts n → ∀ b, b < a → latT n l a b = true) → latB n l = true) := fun h => latB_yes h3 h4 hord h
     have HNO : Hid (∀ a b, a < pts n → b < a → latT n l a b = false → latB n l = false) := fun a b ha hb h => latB_pair ha hb h
     have HBU : Hid (∀ (i j : Nat) w, Calls Tryz.prog 127 #[.agg (rv n l), .int .i64 (i : Int), .int .i64 (j : Int)] w fun e w' => e = .returned (.tuple #[.int .i64 (((joinR n l i j).getD 0 : Nat) : Int), .bool (joinR n l i j).isSome]) ∧ Below w.heap.size w w') := fun i j w => qjoin_any n l hl i j w
     have HBD : Hid (∀ (i j : Nat) w, Calls Tryz.prog 128 #[.agg (rv n l), .int .i64 (i : Int), .int .i64 (j : Int)] w fun e w' => e = .returned (.tuple #[.int .i64 (((meetR n l i j).getD 0 : Nat) : Int), .bool (meetR n l i j).isSome]) ∧ Below w.heap.size w w') := fun i j w => qmeet_any n l hl i j w
     have HLT : Hid (∀ i j : Nat, latT n l i j = ((joinR n l i j).isSome && (meetR n l i j).isSome)) := fun _ _ => rfl
     clear hord
     generalize latB n l = res at *
     generalize latT n l = T at *
     generalize joinR n l = J at *
     generalize meetR n l = M at *
     have hc0' := hc0
     rw [← hp] at hc0 h3 h4
     have HPN := Lib.hid hp; clear hp
     generalize pts n = p at *
     go_enter Tryz.func86, Tryz.ntmps86
     go_wp2_with (refine wpList_loadRel (by rfl) _ rfl w.heap.size rfl n l hl hr1 ?_)
     refine (HO.out _).mono ?_
     rintro e w1 ⟨rfl, hb1⟩
     have r1 := hr1.below hb1 hr1.lt
     have HB1 := Lib.hid (HB.out.trans (hb1.mono (by simp))); clear hb1 hc0 hr1 HB hc0'
     go_wp2_with fail
     go_loopw [3, 4, 5, 6, 7, 8] (fun iv _ _ _ _ _ wr => ∃ i : Nat, i ≤ p ∧ iv = .int .i64 i ∧ RelAt wr w.heap.size n l ∧ Hid (Below w.heap.size w wr) ∧ Hid (∀ a, a < i → ∀ b, b < a → T a b = true)) (fun iv _ _ _ _ _ _ => p - (intOf iv).toNat)
     case atStart => exact ⟨0, by omega, rfl, r1, HB1, fun a ha => by omega⟩
     case round =>
      clear r1 HB1
      obtain ⟨i, hi, rfl, rr, HB, HA⟩ := hrel
      have hc1 := rr.cell0
      rw [← HPN.out] at hc1
      by_cases hlt : i < p
      ·go_wp2_with fail
       clear hc1
       obtain ⟨wo, rfl⟩ : ∃ wo : World, wo = wr := ⟨_, rfl⟩
       go_loopw [4, 5, 6, 7, 8] (fun jv _ _ _ _ wr => ∃ j : Nat, j ≤ i ∧ jv = .int .i64 j ∧ RelAt wr w.heap.size n l ∧ Hid (Below w.heap.size w wr) ∧ Hid (∀ b, b < j → T i b = true)) (fun jv _ _ _ _ _ => i - (intOf jv).toNat)
       case atStart => exact ⟨0, by omega, rfl, rr, HB, fun b hb => by omega⟩
       case round =>
           clear rr HB
           obtain ⟨j, hj, rfl, rr, HB, HJ⟩ := hrel
           by_cases hji : j < i
           ·have HTT := Lib.hid (HLT.out i j)
            have HU := Lib.hid (HBU.out i j)
            have HD := Lib.hid (HBD.out i j)
            have HN := Lib.hid (HNO.out i j hlt hji)
            generalize (J (i : Int) (j : Int)).isSome = b1 at *
            generalize (M (i : Int) (j : Int)).isSome = b2 at *
            generalize (J (i : Int) (j : Int)).getD 0 = v1 at *
            generalize (M (i : Int) (j : Int)).getD 0 = v2 at *
            go_wp2_with (refine wpList_loadRel rfl _ rfl w.heap.size rfl n l hl rr ?_)
            refine (HU.out _).mono ?_
            rintro e w4 ⟨rfl, hb4⟩
            have r4 := rr.below hb4 rr.lt
            have HB4 := Lib.hid (HB.out.trans (hb4.mono HB.out.size)); clear hb4 rr HB
            go_wp2_with (refine wpList_loadRel rfl _ rfl w.heap.size rfl n l hl r4 ?_)
            refine (HD.out _).mono ?_
            rintro e w5 ⟨rfl, hb5⟩
            have r5 := r4.below hb5 r4.lt
            have HB5 := Lib.hid (HB4.out.trans (hb5.mono HB4.out.size)); clear hb5 r4 HB4
            cases b1 with
            | false =>
              have HR := Lib.hid (HN.out HTT.out)
              go_wp2_with fail
              go_ret
              exact ⟨ret_eq (bool_eq HR.out.symm), HB5.out⟩
            | true =>
              cases b2 with
              | false =>
                have HR := Lib.hid (HN.out HTT.out)
                go_wp2_with fail
                go_ret
                exact ⟨ret_eq (bool_eq HR.out.symm), HB5.out⟩
              | true =>
                have HJ2 : Hid (∀ b, b < j + 1 → T i b = true) := fun b hb => by
                   by_cases h : b < j
                   ·exact HJ.out b h
                   ·obtain rfl : b = j := by omega
                    exact HTT.out
                go_wp2_with fail
                go_roundw
                case rel => exact ⟨j + 1, by omega, by go_num, r5, HB5, HJ2⟩
                case measure => simp [intOf]; omega
           ·have hjj : j = i := by omega
            subst hjj
            have HA2 : Hid (∀ a, a < j + 1 → ∀ b, b < a → T a b = true) := fun a ha => by
               by_cases h : a < j
               ·exact HA.out a h
               ·obtain rfl : a = j := by omega
                exact HJ.out
            go_wp2_with fail
            go_roundw
            case rel => exact ⟨j + 1, by omega, by go_num, rr, HB, HA2⟩
            case measure => simp [intOf]; omega
      ·have hpi : i = p := by omega
       subst hpi
       have HR := Lib.hid (HYES.out HA.out)
       go_wp2_with fail
       go_ret
       exact ⟨ret_eq (bool_eq HR.out.symm), HB.out⟩
end Go.Proofs.YtkgonoejnochjaaGreatDoor
namespace Go.Proofs.YtkgonoejnochjaaGreatDoor
open Go.RowKit RM
end Go.Proofs.YtkgonoejnochjaaGreatDoor
namespace Go.Proofs.YtkgonoejnochjaaGreatDoor
open Go.RowKit RM
theorem named_twice {xs : List ByteArray} (h : ¬ twc xs < 0) : namedB xs = false := by unfold namedB; rw [decide_eq_false h, Bool.and_false]
theorem relB_3n {n : Int} {l : List Nat} {m : Nat} : relB 3 n l m = (decide (n = (m : Int)) && rightB n l) := by
 unfold relB
 rw [if_neg (by omega), if_pos rfl]
theorem relB_4n {n : Int} {l : List Nat} {m : Nat} : relB 4 n l m = (decide (n = (m : Int)) && latB n l) := by
 unfold relB
 rw [if_neg (by omega), if_neg (by omega), if_pos rfl]
set_option maxHeartbeats 2000000 in
theorem qfactor_any (f : Fac) (w : World) (hf : FacOk w f) :
 Calls Tryz.prog 39 #[.agg (fv f)] w fun e w' => e = .returned (.bool (facB f)) ∧ Below w.heap.size w w' := by
 have HTW : Hid (f.names.length ≤ 64 → ∀ W, Below w.heap.size w W → Calls Tryz.prog 83 #[.slice f.A f.names.length f.c] W fun e w' => e = .returned (.int .i64 (twc f.names)) ∧ W = w') := fun h W hb => refTwice_any _ _ _ W (by omega) (hf.strs.below hb)
 have HST : Hid (∀ W, Below w.heap.size w W → Strs W f.A f.names) := fun W h => hf.strs.below h
 have HPT : Hid (∀ w, Calls Tryz.prog 84 #[.agg (rv f.n f.l)] w fun e w' => e = .returned (.int .i64 ((pts f.n : Nat) : Int)) ∧ Below w.heap.size w w') := fun w => qpoints_any f.n f.l w
 have HGR : Hid (∀ w, Calls Tryz.prog 85 #[.agg (rv f.n f.l)] w fun e w' => e = .returned (.bool (rightB f.n f.l)) ∧ Below w.heap.size w w') := qright_any f.n f.l hf.rows
 have HLT : Hid (∀ w, Calls Tryz.prog 86 #[.agg (rv f.n f.l)] w fun e w' => e = .returned (.bool (latB f.n f.l)) ∧ Below w.heap.size w w') := qlattice_any f.n f.l hf.rows
 have hF : facB f = (namedB f.names && relB f.kind f.n f.l f.names.length) := rfl
 have hl := hf.rows
 have r0 := RowAt.new w 51 (fv f)
 have HB0 : Hid (Below w.heap.size w (w.alloc (.cells (fv f) 51))) := (Below.refl _ _).alloc (Nat.le_refl _) _
 have HC : Hid (∀ W, RowAt W w.heap.size 51 (fv f) → W.cell? ⟨w.heap.size, 0, none⟩ = some (.int .i64 f.kind) ∧ W.cell? ⟨w.heap.size, 1, none⟩ = some (.slice f.A f.names.length f.c) ∧ W.cell? ⟨w.heap.size, 2, none⟩ = some (.int .i64 f.n) ∧ W.rangeAt w.heap.size 2 (rvl f.n f.l)) := fun W h => fac_cells h
 rw [hF]
 clear hF hf
 generalize fv f = V at *
 generalize f.kind = kd at *
 generalize f.n = n at *
 generalize f.l = l at *
 generalize f.A = A at *
 generalize f.c = c at *
 by_cases h1 : f.names.length < 1
 ·rw [named_low h1, Bool.false_and]
  obtain ⟨c0, c1, c2, c3⟩ := HC.out _ r0
  generalize f.names.length = m at *
  go_enter Tryz.func39, Tryz.ntmps39
  go_wp2_with fail
  go_ret
  exact ⟨rfl, HB0.out⟩
 ·by_cases h2 : 64 < f.names.length
  ·rw [named_high h2, Bool.false_and]
   obtain ⟨c0, c1, c2, c3⟩ := HC.out _ r0
   have h3 : 1 ≤ f.names.length := by omega
   clear h1
   generalize f.names.length = m at *
   go_enter Tryz.func39, Tryz.ntmps39
   go_wp2_with fail
   go_ret
   exact ⟨rfl, HB0.out⟩
  ·have h3 : 1 ≤ f.names.length := by omega
   have h4 : f.names.length ≤ 64 := by omega
   have HTW2 := Lib.hid (HTW.out h4)
   have hd1 : decide ((f.names.length : Int) < 1) = false := decide_eq_false (by omega)
   have hd2 : decide (64 < (f.names.length : Int)) = false := decide_eq_false (by omega)
   clear h1 h2 HTW
   by_cases h5 : twc f.names < 0
   ·have hd3 : decide (0 ≤ twc f.names) = false := decide_eq_false (by omega)
    have HBAD : Hid (∀ k, k < f.names.length → NM.right (f.names.getD k ⟨#[]⟩) = false → namedB f.names = false) := fun k => named_bad
    have HEND : Hid ((∀ k, k < f.names.length → NM.right (f.names.getD k ⟨#[]⟩) = true) → namedB f.names = true) := fun h => by rw [named_end h3 h4 h, decide_eq_true h5]
    have H12 : Hid (kd = 1 ∨ kd = 2 → relB kd n l f.names.length = ((pts n : Int) == 0)) := fun h => by rw [relB_12 h, pts_zero_eq]
    have H3 : Hid (kd = 3 → relB kd n l f.names.length = (decide (n = (f.names.length : Int)) && rightB n l)) := fun h => by rw [h]; exact relB_3n
    have H4 : Hid (kd = 4 → relB kd n l f.names.length = (decide (n = (f.names.length : Int)) && latB n l)) := fun h => by rw [h]; exact relB_4n
    have HNO : Hid (¬ kd = 1 → ¬ kd = 2 → ¬ kd = 3 → ¬ kd = 4 → relB kd n l f.names.length = false) := relB_no
    have H64 := Lib.hid h4
    clear h3 h4 h5
    generalize hrs : (namedB f.names && relB kd n l f.names.length) = res at *
    have HRES := Lib.hid hrs; clear hrs
    generalize relB kd n l f.names.length = rl at *
    generalize rightB n l = rb at *
    generalize latB n l = lb at *
    generalize pts n = p at *
    generalize twc f.names = tw at *
    generalize hm : f.names.length = m at *
    have HM := Lib.hid hm; clear hm
    obtain ⟨c0, c1, c2, c3⟩ := HC.out _ r0
    go_enter Tryz.func39, Tryz.ntmps39
    go_wp2_with fail
    refine (HTW2.out _ HB0.out).mono ?_
    rintro e wx ⟨rfl, rfl⟩
    go_wp2_with fail
    clear c0 c1 c2 c3 hd1 hd2 hd3
    go_loopw [4] (fun kv wr => ∃ k : Nat, k ≤ m ∧ kv = .int .i64 k ∧ RowAt wr w.heap.size 51 V ∧ Hid (∀ j, j < k → NM.right (f.names.getD j ⟨#[]⟩) = true) ∧ Hid (Below w.heap.size w wr)) (fun kv _ => m - (intOf kv).toNat)
    case atStart => exact ⟨0, by omega, rfl, r0, fun j hj => by omega, HB0⟩
    case round =>
     clear r0 HB0
     obtain ⟨k, hk, rfl, r1, HK, HB1⟩ := hrel
     have h64 := H64.out
     obtain ⟨c0, c1, c2, c3⟩ := HC.out _ r1
     by_cases hlt : k < m
     ·obtain ⟨b, o, hA, hc⟩ := (HST.out _ HB1.out).at (k := k) (by rw [HM.out]; exact hlt)
      have hck := hc k (by rw [HM.out]; exact hlt)
      rw [hA] at c1
      clear hc hA
      have HKN : Hid (NM.right (f.names.getD k ⟨#[]⟩) = true → ∀ j, j < k + 1 → NM.right (f.names.getD j ⟨#[]⟩) = true) := fun h j hj => by
           by_cases e : j = k
           ·subst e; exact h
           ·exact HK.out j (by omega)
      have HR := Lib.hid (HBAD.out k hlt)
      generalize f.names.getD k ⟨#[]⟩ = x at *
      go_wp2_with fail
      refine (refRight_any x _).mono ?_
      rintro e w2 ⟨rfl, hdr⟩
      have hb := hdr.below
      have r2 := r1.below hb r1.lt
      have HB2 := Lib.hid (HB1.out.trans (hb.mono HB1.out.size))
      clear hdr hb r1 HB1 c0 c1 c2 c3 hck
      cases hr : NM.right x with
      | false =>
        have HR2 : Hid (res = false) := by
             show res = false
             rw [← HRES.out, HR.out hr]; rfl
        clear hr HR HKN
        go_wp2_with fail
        go_ret
        exact ⟨ret_eq (bool_eq HR2.out.symm), HB2.out⟩
      | true =>
        have HKN2 := Lib.hid (HKN.out hr)
        clear hr HR HKN
        go_wp2_with fail
        go_roundw
        case rel => exact ⟨k + 1, by omega, by go_num, r2, HKN2, HB2⟩
        case measure => simp [intOf]; omega
     ·have e : k = m := by omega
      subst e
      have HRS : Hid (res = rl) := by
           show res = rl
           rw [← HRES.out, HEND.out HK.out]; rfl
      clear HRES HEND HBAD HK
      by_cases e1 : kd = 1
      ·have HR := Lib.hid (HRS.out.trans (H12.out (.inl e1)))
       clear H12 H3 H4 HNO HRS
       go_wp2_with (refine wpList_loadRelIn (by rfl) _ rfl w.heap.size 2 rfl n l hl c3 ?_)
       refine (HPT.out _).mono ?_
       rintro e w2 ⟨rfl, hb⟩
       have r2 := r1.below hb r1.lt
       have HB2 := Lib.hid (HB1.out.trans (hb.mono HB1.out.size))
       go_wp2_with fail
       go_ret
       exact ⟨ret_eq (bool_eq HR.out.symm), HB2.out⟩
      ·by_cases e2 : kd = 2
       ·have HR := Lib.hid (HRS.out.trans (H12.out (.inr e2)))
        clear H12 H3 H4 HNO HRS
        go_wp2_with (refine wpList_loadRelIn (by rfl) _ rfl w.heap.size 2 rfl n l hl c3 ?_)
        refine (HPT.out _).mono ?_
        rintro e w2 ⟨rfl, hb⟩
        have r2 := r1.below hb r1.lt
        have HB2 := Lib.hid (HB1.out.trans (hb.mono HB1.out.size))
        go_wp2_with fail
        go_ret
        exact ⟨ret_eq (bool_eq HR.out.symm), HB2.out⟩
       ·by_cases e3 : kd = 3
        ·have HR := Lib.hid (HRS.out.trans (H3.out e3))
         clear H12 H3 H4 HNO HRS
         by_cases hpm : n = (k : Int)
         ·have HR2 : Hid (res = rb) := by
           show res = rb
           rw [HR.out, decide_eq_true hpm]; rfl
          clear HR
          have hpm2 : ((n == (k : Int)) = true) := by simpa using hpm
          clear hpm
          go_wp2_with (refine wpList_loadRelIn (by rfl) _ rfl w.heap.size 2 rfl n l hl c3 ?_)
          refine (HGR.out _).mono ?_
          rintro e w2 ⟨rfl, hb⟩
          have r2 := r1.below hb r1.lt
          have HB2 := Lib.hid (HB1.out.trans (hb.mono HB1.out.size))
          go_wp2_with fail
          go_ret
          exact ⟨ret_eq (bool_eq HR2.out.symm), HB2.out⟩
         ·have HR2 : Hid (res = false) := by
           show res = false
           rw [HR.out, decide_eq_false hpm]; rfl
          clear HR
          go_wp2_with fail
          go_ret
          exact ⟨ret_eq (bool_eq HR2.out.symm), HB1.out⟩
        ·by_cases e4 : kd = 4
         ·have HR := Lib.hid (HRS.out.trans (H4.out e4))
          clear H12 H3 H4 HNO HRS
          by_cases hpm : n = (k : Int)
          ·have HR2 : Hid (res = lb) := by
            show res = lb
            rw [HR.out, decide_eq_true hpm]; rfl
           clear HR
           have hpm2 : ((n == (k : Int)) = true) := by simpa using hpm
           clear hpm
           go_wp2_with (refine wpList_loadRelIn (by rfl) _ rfl w.heap.size 2 rfl n l hl c3 ?_)
           refine (HLT.out _).mono ?_
           rintro e w2 ⟨rfl, hb⟩
           have r2 := r1.below hb r1.lt
           have HB2 := Lib.hid (HB1.out.trans (hb.mono HB1.out.size))
           go_wp2_with fail
           go_ret
           exact ⟨ret_eq (bool_eq HR2.out.symm), HB2.out⟩
          ·have HR2 : Hid (res = false) := by
            show res = false
            rw [HR.out, decide_eq_false hpm]; rfl
           clear HR
           go_wp2_with fail
           go_ret
           exact ⟨ret_eq (bool_eq HR2.out.symm), HB1.out⟩
         ·have HR := Lib.hid (HRS.out.trans (HNO.out e1 e2 e3 e4))
          clear H12 H3 H4 HNO HRS
          have k1 : (kd == 1) = false := by simpa using e1
          have k2 : (kd == 2) = false := by simpa using e2
          have k3 : (kd == 3) = false := by simpa using e3
          have k4 : (kd == 4) = false := by simpa using e4
          clear e1 e2 e3 e4
          go_wp2_with fail
          go_ret
          exact ⟨ret_eq (bool_eq HR.out.symm), HB1.out⟩
   ·rw [named_twice h5, Bool.false_and]
    have hd3 : decide (0 ≤ twc f.names) = true := decide_eq_true (by omega)
    clear h5 h3 h4
    generalize twc f.names = tw at *
    obtain ⟨c0, c1, c2, c3⟩ := HC.out _ r0
    generalize f.names.length = m at *
    go_enter Tryz.func39, Tryz.ntmps39
    go_wp2_with fail
    refine (HTW2.out _ HB0.out).mono ?_
    rintro e wx ⟨rfl, rfl⟩
    go_wp2_with fail
    go_ret
    exact ⟨rfl, HB0.out⟩
end Go.Proofs.YtkgonoejnochjaaGreatDoor
namespace Go.Proofs.YtkgonoejnochjaaGreatDoor
open Go.RowKit RM
set_option maxHeartbeats 2000000 in
theorem qright7_any (t : Bool) (A : Option Addr) (c : Nat) (fs : List Fac) (w : World) (hF : Facs w A fs) :
 Calls Tryz.prog 19 #[.agg (sv t A fs.length c)] w fun e w' => e = .returned (.bool (rightS t fs)) ∧ Below w.heap.size w w' := by
 have r0 := RowAt.new w 24 (sv t A fs.length c)
 have HB0 : Hid (Below w.heap.size w (w.alloc (.cells (sv t A fs.length c) 24))) := (Below.refl _ _).alloc (Nat.le_refl _) _
 have HS : Hid (∀ W, RowAt W w.heap.size 24 (sv t A fs.length c) → W.cell? ⟨w.heap.size, 0, none⟩ = some (.bool t) ∧ W.cell? ⟨w.heap.size, 1, none⟩ = some (.slice A fs.length c)) := fun W h => shape_cells h
 obtain ⟨c0, c1⟩ := HS.out _ r0
 generalize sv t A fs.length c = V at *
 by_cases h1 : fs.length < 1
 ·rw [rightS_low h1]
  clear hF
  generalize fs.length = n at *
  go_enter Tryz.func19, Tryz.ntmps19
  go_wp2_with fail
  go_ret
  exact ⟨rfl, HB0.out⟩
 ·have h3 : 1 ≤ fs.length := by omega
  by_cases h2 : 8 < fs.length
  ·rw [rightS_high h2]
   clear hF h1
   generalize fs.length = n at *
   go_enter Tryz.func19, Tryz.ntmps19
   go_wp2_with fail
   go_ret
   exact ⟨rfl, HB0.out⟩
  ·have h4 : fs.length ≤ 8 := by omega
   clear h1 h2
   have hd1 : decide ((fs.length : Int) < 1) = false := decide_eq_false (by omega)
   have hd2 : decide (8 < (fs.length : Int)) = false := decide_eq_false (by omega)
   by_cases h5 : t = false ∧ ¬ fs.length = 1
   ·obtain ⟨rfl, h6⟩ := h5
    rw [rightS_one h6]
    have hd3 : ((fs.length : Int) != 1) = true := by simp; omega
    clear hF h3 h4 h6
    generalize fs.length = n at *
    go_enter Tryz.func19, Tryz.ntmps19
    go_wp2_with fail
    go_ret
    exact ⟨rfl, HB0.out⟩
   ·have h7 : t = true ∨ fs.length = 1 := by
     cases t with
     | true => exact .inl rfl
     | false => exact .inr (by apply Classical.byContradiction; intro h; exact h5 ⟨rfl, h⟩)
    clear h5
    have HBAD : Hid (∀ k, k < fs.length → facB (fs.getD k f0) = false → rightS t fs = false) := fun k => rightS_bad
    have HEND : Hid ((∀ k, k < fs.length → facB (fs.getD k f0) = true) → rightS t fs = true) := rightS_end h3 h4 h7
    have HF : Hid (∀ W, Below w.heap.size w W → Facs W A fs) := fun W h => hF.below h
    clear hF
    have h8 : (t = false ∧ ((fs.length : Int) != 1) = false) ∨ t = true := by
     rcases h7 with rfl | h7
     ·exact .inr rfl
     ·cases t with
      | true => exact .inr rfl
      | false => exact .inl ⟨rfl, by simp; omega⟩
    generalize hn : fs.length = n at *
    have HN := Lib.hid hn; clear hn
    have H4 := Lib.hid h4
    clear h7 h3 h4
    generalize rightS t fs = res at *
    go_enter Tryz.func19, Tryz.ntmps19
    rcases h8 with ⟨rfl, hd3⟩ | rfl
    ·go_wp2_with fail
     clear c0 c1 hd1 hd2 hd3
     go_loopw [3] (fun kv wr => ∃ k : Nat, k ≤ n ∧ kv = .int .i64 k ∧ RowAt wr w.heap.size 24 V ∧ Hid (∀ j, j < k → facB (fs.getD j f0) = true) ∧ Hid (Below w.heap.size w wr)) (fun kv _ => n - (intOf kv).toNat)
     case atStart => exact ⟨0, by omega, rfl, r0, fun j hj => by omega, HB0⟩
     case round =>
          clear r0 HB0
          obtain ⟨k, hk, rfl, r1, HK, HB1⟩ := hrel
          have h4 := H4.out
          obtain ⟨c0, c1⟩ := HS.out _ r1
          by_cases hlt : k < n
          ·have hFk := HF.out _ HB1.out
           obtain ⟨b, o, rfl, _, hr⟩ := hFk.at (k := k) (by rw [HN.out]; exact hlt)
           have hrg := hr k (by rw [HN.out]; exact hlt)
           have hok := hFk.okAt (i := k) (by rw [HN.out]; exact hlt)
           have hl := hok.rows
           have HOK := Lib.hid hok
           clear hr hFk hok
           have HKN : Hid (facB (fs.getD k f0) = true → ∀ j, j < k + 1 → facB (fs.getD j f0) = true) := fun h j hj => by
            by_cases e : j = k
            ·subst e; exact h
            ·exact HK.out j (by omega)
           have HR := Lib.hid (HBAD.out k hlt)
           generalize fs.getD k f0 = f at *
           go_wp2_with (refine wpList_loadFacIn (by rfl) _ rfl b (o + k * 67) rfl f hl hrg ?_)
           refine (qfactor_any f _ HOK.out).mono ?_
           rintro e w3 ⟨rfl, hb⟩
           have r3 := r1.below hb r1.lt
           have HB3 := Lib.hid (HB1.out.trans (hb.mono HB1.out.size))
           clear hb r1 hrg c0 c1 HB1 HOK
           cases hv : facB f with
           | false =>
             have HR2 := Lib.hid (HR.out hv)
             clear hv HR HKN
             go_wp2_with fail
             go_ret
             exact ⟨ret_eq (bool_eq HR2.out.symm), HB3.out⟩
           | true =>
             have HKN2 := Lib.hid (HKN.out hv)
             clear hv HR HKN
             go_wp2_with fail
             go_roundw
             case rel => exact ⟨k + 1, by omega, by go_num, r3, HKN2, HB3⟩
             case measure => simp [intOf]; omega
          ·have e : k = n := by omega
           subst e
           have HE2 := Lib.hid (HEND.out HK.out)
           go_wp2_with fail
           go_ret
           exact ⟨ret_eq (bool_eq HE2.out.symm), HB1.out⟩
    ·go_wp2_with fail
     clear c0 c1 hd1 hd2
     go_loopw [3] (fun kv wr => ∃ k : Nat, k ≤ n ∧ kv = .int .i64 k ∧ RowAt wr w.heap.size 24 V ∧ Hid (∀ j, j < k → facB (fs.getD j f0) = true) ∧ Hid (Below w.heap.size w wr)) (fun kv _ => n - (intOf kv).toNat)
     case atStart => exact ⟨0, by omega, rfl, r0, fun j hj => by omega, HB0⟩
     case round =>
          clear r0 HB0
          obtain ⟨k, hk, rfl, r1, HK, HB1⟩ := hrel
          have h4 := H4.out
          obtain ⟨c0, c1⟩ := HS.out _ r1
          by_cases hlt : k < n
          ·have hFk := HF.out _ HB1.out
           obtain ⟨b, o, rfl, _, hr⟩ := hFk.at (k := k) (by rw [HN.out]; exact hlt)
           have hrg := hr k (by rw [HN.out]; exact hlt)
           have hok := hFk.okAt (i := k) (by rw [HN.out]; exact hlt)
           have hl := hok.rows
           have HOK := Lib.hid hok
           clear hr hFk hok
           have HKN : Hid (facB (fs.getD k f0) = true → ∀ j, j < k + 1 → facB (fs.getD j f0) = true) := fun h j hj => by
            by_cases e : j = k
            ·subst e; exact h
            ·exact HK.out j (by omega)
           have HR := Lib.hid (HBAD.out k hlt)
           generalize fs.getD k f0 = f at *
           go_wp2_with (refine wpList_loadFacIn (by rfl) _ rfl b (o + k * 67) rfl f hl hrg ?_)
           refine (qfactor_any f _ HOK.out).mono ?_
           rintro e w3 ⟨rfl, hb⟩
           have r3 := r1.below hb r1.lt
           have HB3 := Lib.hid (HB1.out.trans (hb.mono HB1.out.size))
           clear hb r1 hrg c0 c1 HB1 HOK
           cases hv : facB f with
           | false =>
             have HR2 := Lib.hid (HR.out hv)
             clear hv HR HKN
             go_wp2_with fail
             go_ret
             exact ⟨ret_eq (bool_eq HR2.out.symm), HB3.out⟩
           | true =>
             have HKN2 := Lib.hid (HKN.out hv)
             clear hv HR HKN
             go_wp2_with fail
             go_roundw
             case rel => exact ⟨k + 1, by omega, by go_num, r3, HKN2, HB3⟩
             case measure => simp [intOf]; omega
          ·have e : k = n := by omega
           subst e
           have HE2 := Lib.hid (HEND.out HK.out)
           go_wp2_with fail
           go_ret
           exact ⟨ret_eq (bool_eq HE2.out.symm), HB1.out⟩
end Go.Proofs.YtkgonoejnochjaaGreatDoor
namespace Go.Proofs.YtkgonoejnochjaaGreatDoor
open Go.RowKit RM
end Go.Proofs.YtkgonoejnochjaaGreatDoor

