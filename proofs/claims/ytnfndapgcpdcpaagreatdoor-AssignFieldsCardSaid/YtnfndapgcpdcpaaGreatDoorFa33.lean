/- Texts that all the claims need. Conditions: those that each states. -/

import Derived.Test.YtnfndapgcpdcpaaGreatDoorFa8
import Derived.Test.YtnfndapgcpdcpaaGreatDoorFa10
set_option linter.unusedSimpArgs false
set_option linter.unusedVariables false
set_option maxRecDepth 100000
set_option maxHeartbeats 40000000
namespace Go.Proofs.YtnfndapgcpdcpaaGreatDoor
section
open Go.RowKit RM
end
section
open Go.RowKit RM
section
variable {w w' : World} {g q B : Nat} {xs : List Nat}
end
end
section
open Go.RowKit RM
end
section
open Go.RowKit RM
end
section
open Go.RowKit RM
theorem hlattice_any (n : Int) (l : List Nat) (hl : RW l) (w : World) (hT : Tab w) :
 Calls Tryz.prog 126 #[.agg (rv n l)] w fun e w' => e = .returned (.bool (latB n l)) ∧ Below w.heap.size w w' := by
 have hr1 := RelAt.new w n l
 have hc0 := hr1.cell0
 have hb : Below w.heap.size w (w.alloc (.cells (rv n l) 62)) := (zB _ _).alloc (zL _) _
 have HB := zh hb; clear hb
 by_cases h1 : n < 1
 ·rw [latB_low h1]
  go_enter Tryz.func126, Tryz.ntmps126
  go_wp2_with fail
  go_ret
  exact ⟨rfl, HB.out⟩
 ·by_cases h2 : 64 < n
  ·rw [latB_high h2]
   have h3 : 1 ≤ n := by omega
   go_enter Tryz.func126, Tryz.ntmps126
   go_wp2_with fail
   go_ret
   exact ⟨rfl, HB.out⟩
  ·have h3 : 1 ≤ n := by omega
   have h4 : n ≤ 64 := by omega
   have hp : ((pts n : Nat) : Int) = n := pts_in (by omega) h4
   have HO : Hid (∀ w, Calls Tryz.prog 164 #[.agg (rv n l)] w fun e w' => e = .returned (.bool (ordR n l)) ∧ Below w.heap.size w w') := rorder_any 64 sort_64 n l hl (pts_le n)
   cases hord : ordR n l with
   | false =>
     rw [latB_ord hord]
     rw [hord] at HO
     clear hp
     go_enter Tryz.func126, Tryz.ntmps126
     go_wp2_with (refine wpList_loadRel (by rfl) _ rfl w.heap.size rfl n l hl hr1 ?_)
     refine (HO.out _).mono ?_
     rintro e w1 ⟨rfl, hb1⟩
     have HB1 := zh (HB.out.trans (hb1.mono (by simp))); clear hb1
     go_wp2_with fail
     go_ret
     exact ⟨rfl, HB1.out⟩
   | true =>
     rw [hord] at HO
     have HYES : Hid ((∀ a, a < pts n → ∀ b, b < a → latT n l a b = true) → latB n l = true) := fun h => latB_yes h3 h4 hord h
     have HNO : Hid (∀ a b, a < pts n → b < a → latT n l a b = false → latB n l = false) := fun a b ha hb h => latB_pair ha hb h
     have HUP : Hid (∀ W, Tab W → Calls Tryz.prog 137 #[.agg (rv n l), .func (.func 138) #[] #[]] W fun e w' => ∃ g, e = .returned (.slice (some ⟨g, 0, none⟩) (pts n) (pts n)) ∧ SideAt w' g (upL n l) ∧ Below W.heap.size W w') := fun W h => hup_any n l hl W h
     have HDN : Hid (∀ W, Calls Tryz.prog 137 #[.agg (rv n l), .func (.func 139) #[] #[]] W fun e w' => ∃ g, e = .returned (.slice (some ⟨g, 0, none⟩) (pts n) (pts n)) ∧ SideAt w' g (dnL n l) ∧ Below W.heap.size W w') := fun W => hdn_any n l hl W
     have HBU : Hid (∀ (g : Nat) (i j : Nat) w, SideAt w g (upL n l) → Calls Tryz.prog 165 #[.slice (some ⟨g, 0, none⟩) (pts n) (pts n), .int .i64 (i : Int), .int .i64 (j : Int)] w fun e w' => e = .returned (.tuple #[.int .i64 (((joinR n l i j).getD 0 : Nat) : Int), .bool (joinR n l i j).isSome]) ∧ Below w.heap.size w w') := fun g i j w h => hbound_up n l g i j w h
     have HBD : Hid (∀ (g : Nat) (i j : Nat) w, SideAt w g (dnL n l) → Calls Tryz.prog 165 #[.slice (some ⟨g, 0, none⟩) (pts n) (pts n), .int .i64 (i : Int), .int .i64 (j : Int)] w fun e w' => e = .returned (.tuple #[.int .i64 (((meetR n l i j).getD 0 : Nat) : Int), .bool (meetR n l i j).isSome]) ∧ Below w.heap.size w w') := fun g i j w h => hbound_dn n l g i j w h
     have HLT : Hid (∀ i j : Nat, latT n l i j = ((joinR n l i j).isSome && (meetR n l i j).isSome)) := fun _ _ => rfl
     have HT := zh hT; clear hT hord
     generalize latB n l = res at *
     generalize latT n l = T at *
     generalize joinR n l = J at *
     generalize meetR n l = M at *
     generalize upL n l = xu at *
     generalize dnL n l = xd at *
     have hc0' := hc0
     rw [← hp] at hc0 h3 h4
     have HPN := zh hp; clear hp
     generalize pts n = p at *
     go_enter Tryz.func126, Tryz.ntmps126
     go_wp2_with (refine wpList_loadRel (by rfl) _ rfl w.heap.size rfl n l hl hr1 ?_)
     refine (HO.out _).mono ?_
     rintro e w1 ⟨rfl, hb1⟩
     have r1 := hr1.below hb1 hr1.lt
     have HB1 := zh (HB.out.trans (hb1.mono (by simp))); clear hb1 hc0 hr1 HB hc0'
     go_wp2_with fail
     obtain ⟨S, HS, pW, keepS⟩ := ex_gen w1
     have pR := fun w' h => r1.below (pW w' h) r1.lt
     have PB : Hid (∀ w', S w' → Below w.heap.size w w') := fun w' h => HB1.out.trans ((pW w' h).mono HB1.out.size)
     clear pW r1 HB1
     refine wp_region_ord S [(0, true), (2, true), (1, false), (3, false), (4, true), (5, true)] (by kernel_rfl) (by kernel_rfl) rfl (by kernel_rfl) HS.out ?_
     generalize w1.drew = V at HS ⊢
     iterate 2
      (refine wpOrd_step (zO rfl) ?_)
      (first
           | (refine wpOrd_skip (by rfl) ?_)
           | (refine wpOrd_take (by rfl) (take_loadRel _ rfl _ rfl _ _ hl pR) ?_)
           | (refine wpOrd_take (v := ?_) (by rfl) ?_ ?_; rotate_left 1; (intro wx hSx; go_simp; try with_reducible rfl)))
      (try simp only [Act.put, zA4, zA5, zA6])
     (refine wpOrd_solo (zO rfl) ?_)
     intro K hK
     go_simp
     go_at_call 137
     refine (HUP.out _ (HT.out.below (PB.out _ HS.out))).mono ?_
     rintro e w2 ⟨gu, rfl, su, hb⟩
     have hS := keepS _ _ HS.out hb
     clear HS
     have HS := zh hS; clear hS hb
     refine hK.out _ _ HS.out ?_
     clear hK K
     (try simp only [Act.put, zA4, zA5, zA6])
     (refine wpOrd_solo (zO rfl) ?_)
     intro K hK
     go_simp
     go_at_call 137
     refine (HDN.out _).mono ?_
     rintro e w3 ⟨gd, rfl, sd, hb⟩; have su3 := su.below hb su.lt; clear su
     have hS := keepS _ _ HS.out hb
     clear HS
     have HS := zh hS; clear hS hb
     refine hK.out _ _ HS.out ?_
     clear hK K
     (try simp only [Act.put, zA4, zA5, zA6])
     iterate 2
      (refine wpOrd_step (zO rfl) ?_)
      (first
           | (refine wpOrd_skip (by rfl) ?_)
           | (refine wpOrd_take (v := ?_) (by rfl) ?_ ?_; rotate_left 1; (intro wx hSx; go_simp; try with_reducible rfl)))
      (try simp only [Act.put, zA4, zA5, zA6])
     refine wpOrd_done ?_
     have HB3 := zh (PB.out _ HS.out)
     have r3 := pR _ HS.out
     clear pR PB HS keepS HUP HDN
     have hc3 := r3.cell0
     rw [← HPN.out] at hc3
     clear r3
     go_wp2_with fail
     clear hc3
     go_loopw [5, 6, 7, 8, 9, 10, 30, 34] (fun _ _ _ _ _ _ iv _ wr => ∃ i : Nat, i ≤ p ∧ iv = .int .i64 i ∧ SideAt wr gu xu ∧ SideAt wr gd xd ∧ Hid (Below w.heap.size w wr) ∧ Hid (∀ a, a < i → ∀ b, b < a → T a b = true)) (fun _ _ _ _ _ _ iv _ _ => p - (intOf iv).toNat)
     case atStart => exact ⟨0, by omega, rfl, su3, sd, HB3, fun a ha => by omega⟩
     case round =>
      clear su3 sd HB3
      obtain ⟨i, hi, rfl, su, sd, HB, HA⟩ := hrel
      by_cases hlt : i < p
      ·go_wp2_with fail
       obtain ⟨wo, rfl⟩ : ∃ wo : World, wo = wr := ⟨_, rfl⟩
       go_loopw [6, 7, 8, 9, 10, 34] (fun _ _ _ _ _ jv wr => ∃ j : Nat, j ≤ i ∧ jv = .int .i64 j ∧ SideAt wr gu xu ∧ SideAt wr gd xd ∧ Hid (Below w.heap.size w wr) ∧ Hid (∀ b, b < j → T i b = true)) (fun _ _ _ _ _ jv _ => i - (intOf jv).toNat)
       case atStart => exact ⟨0, by omega, rfl, su, sd, HB, fun b hb => by omega⟩
       case round =>
           clear su sd HB
           obtain ⟨j, hj, rfl, su, sd, HB, HJ⟩ := hrel
           by_cases hji : j < i
           ·have HTT := zh (HLT.out i j)
            have HU := zh (HBU.out gu i j)
            have HD := zh (HBD.out gd i j)
            have HN := zh (HNO.out i j hlt hji)
            generalize (J (i : Int) (j : Int)).isSome = b1 at *
            generalize (M (i : Int) (j : Int)).isSome = b2 at *
            generalize (J (i : Int) (j : Int)).getD 0 = v1 at *
            generalize (M (i : Int) (j : Int)).getD 0 = v2 at *
            go_wp2_with fail
            refine (HU.out _ su).mono ?_
            rintro e w4 ⟨rfl, hb4⟩
            have su4 := su.below hb4 su.lt
            have sd4 := sd.below hb4 sd.lt
            have HB4 := zh (HB.out.trans (hb4.mono HB.out.size)); clear hb4 su sd HB
            go_wp2_with fail
            refine (HD.out _ sd4).mono ?_
            rintro e w5 ⟨rfl, hb5⟩
            have su5 := su4.below hb5 su4.lt
            have sd5 := sd4.below hb5 sd4.lt
            have HB5 := zh (HB4.out.trans (hb5.mono HB4.out.size)); clear hb5 su4 sd4 HB4
            cases b1 with
            | false =>
              have HR := zh (HN.out HTT.out)
              go_wp2_with fail
              go_ret
              exact ⟨ret_eq (bool_eq HR.out.symm), HB5.out⟩
            | true =>
              cases b2 with
              | false =>
                have HR := zh (HN.out HTT.out)
                go_wp2_with fail
                go_ret
                exact ⟨ret_eq (bool_eq HR.out.symm), HB5.out⟩
              | true =>
                have HJ2 : Hid (∀ b, b < j + 1 → T i b = true) := fun b hb => by
                   by_cases h : b < j
                   ·exact HJ.out b h
                   ·obtain rfl : b = j := by omega
                    exact HTT.out
                go_wp2_with fail
                go_roundw
                case rel => exact ⟨j + 1, by omega, by go_num, su5, sd5, HB5, HJ2⟩
                case measure => simp [intOf]; omega
           ·have hjj : j = i := by omega
            subst hjj
            have HA2 : Hid (∀ a, a < j + 1 → ∀ b, b < a → T a b = true) := fun a ha => by
               by_cases h : a < j
               ·exact HA.out a h
               ·obtain rfl : a = j := by omega
                exact HJ.out
            go_wp2_with fail
            go_roundw
            case rel => exact ⟨j + 1, by omega, by go_num, su, sd, HB, HA2⟩
            case measure => simp [intOf]; omega
      ·have hpi : i = p := by omega
       subst hpi
       have HR := zh (HYES.out HA.out)
       go_wp2_with fail
       go_ret
       exact ⟨ret_eq (bool_eq HR.out.symm), HB.out⟩
end
section
open Go.RowKit RM
section
variable {p : Nat} {R : Int → Int → Bool} {a b c : Nat}
end
section
variable {n : Int} {l : List Nat} {a b : Nat}
end
end
end Go.Proofs.YtnfndapgcpdcpaaGreatDoor
