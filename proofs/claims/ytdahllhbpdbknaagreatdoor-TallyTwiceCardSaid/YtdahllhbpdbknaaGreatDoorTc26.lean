/- Texts that all the claims need. Conditions: those that each states. -/

import Derived.Test.YtdahllhbpdbknaaGreatDoorTc11
import Derived.Test.YtdahllhbpdbknaaGreatDoorTc25
set_option linter.unusedSimpArgs false
set_option linter.unusedVariables false
set_option maxRecDepth 100000
set_option maxHeartbeats 40000000
namespace Go.Proofs.YtdahllhbpdbknaaGreatDoor
section
open Go.RowKit RM
section
variable {a b c : Nat}
end
section
variable {t : Bool} {fs : List Fac} {a b c : List Nat}
end
section
variable {t : Bool} {fs : List Fac} {a b : List Nat}
end
end
section
open Go.RowKit RM
section
variable {w w' : World} {A : Option Addr} {fs : List Fac}
end
section
variable {ops : Array Oper} {rest : List Oper} {o : Oper} {a : Act} {w : World} {Q : Exit → Act → World → Prop}
end
section
variable {o : Oper} {a : Act} {S : World → Prop}
end
end
section
open Go.RowKit RM
theorem valid_any (f : Fac) (w : World) (hT : Tab w) (hf : FacOk w f) :
 Calls Tryz.prog 73 #[.agg (fv f)] w fun e w' => e = .returned (.bool (facB f)) ∧ Below w.heap.size w w' := by
 have HNM : Hid (∀ W, Below w.heap.size w W → Calls Tryz.prog 88 #[.slice f.A f.names.length f.c] W fun e w' => e = .returned (.bool (namedB f.names)) ∧ Below W.heap.size W w') := fun W h => named_any _ _ _ W (hf.strs.below h)
 have HNEW : Hid (∀ w, Calls Tryz.prog 82 #[.int .i64 f.n] w fun e w' => e = .returned (.agg (rv ((pts f.n : Nat) : Int) zs)) ∧ Below w.heap.size w w') := new_any f.n
 have HGR : Hid (∀ w, Calls Tryz.prog 89 #[.agg (rv f.n f.l)] w fun e w' => e = .returned (.bool (rightB f.n f.l)) ∧ Below w.heap.size w w') := gright_any f.n f.l hf.rows
 have HLT : Hid (∀ w, Tab w → Calls Tryz.prog 90 #[.agg (rv f.n f.l)] w fun e w' => e = .returned (.bool (latB f.n f.l)) ∧ Below w.heap.size w w') := hlattice_any f.n f.l hf.rows
 have hf0 := run_field0 (pts f.n) zs
 have hF : facB f = (namedB f.names && relB f.kind f.n f.l f.names.length) := rfl
 have HT := zh hT; clear hT
 have hl := hf.rows
 have r0 := RowAt.new w 61 (fv f)
 have HB0 : Hid (Below w.heap.size w (w.alloc (.cells (fv f) 61))) := (zB _ _).alloc (zL _) _
 have HC : Hid (∀ W, RowAt W w.heap.size 61 (fv f) → W.cell? ⟨w.heap.size, 0, none⟩ = some (.int .i64 f.kind) ∧ W.cell? ⟨w.heap.size, 1, none⟩ = some (.slice f.A f.names.length f.c) ∧ W.cell? ⟨w.heap.size, 2, none⟩ = some (.int .i64 f.n) ∧ W.rangeAt w.heap.size 2 (rvl f.n f.l)) := fun W h => fac_cells h
 rw [hF]
 clear hF hf
 generalize fv f = V at *
 generalize f.kind = kd at *
 generalize f.n = n at *
 generalize f.l = l at *
 generalize f.A = A at *
 generalize f.c = c at *
 generalize f.names = xs at *
 cases hn : namedB xs with
 | false =>
   rw [hn] at HNM
   rw [Bool.false_and]
   clear hn
   obtain ⟨c0, c1, c2, c3⟩ := HC.out _ r0
   generalize xs.length = m at *
   go_enter Tryz.func73, Tryz.ntmps73
   go_wp2_with fail
   refine (HNM.out _ HB0.out).mono ?_
   rintro e w1 ⟨rfl, hb⟩
   have r1 := r0.below hb r0.lt
   have HB1 := zh (HB0.out.trans (hb.mono HB0.out.size))
   go_wp2_with fail
   go_ret
   exact ⟨rfl, HB1.out⟩
 | true =>
   rw [hn] at HNM
   rw [Bool.true_and]
   clear hn
   have H12 : Hid (kd = 1 ∨ kd = 2 → relB kd n l xs.length = ((pts n : Int) == 0)) := fun h => by rw [relB_12 h, pts_zero_eq]
   have H3 : Hid (kd = 3 → relB kd n l xs.length = (decide (pts n = xs.length) && rightB n l)) := fun h => by rw [h]; exact relB_3
   have H4 : Hid (kd = 4 → relB kd n l xs.length = (decide (pts n = xs.length) && latB n l)) := fun h => by rw [h]; exact relB_4
   have HNO : Hid (¬ kd = 1 → ¬ kd = 2 → ¬ kd = 3 → ¬ kd = 4 → relB kd n l xs.length = false) := relB_no
   generalize relB kd n l xs.length = res at *
   generalize xs.length = m at *
   generalize rightB n l = rb at *
   generalize latB n l = lb at *
   generalize rv ((pts n : Nat) : Int) zs = rz at *
   generalize pts n = p at *
   obtain ⟨c0, c1, c2, c3⟩ := HC.out _ r0
   go_enter Tryz.func73, Tryz.ntmps73
   go_wp2_with fail
   refine (HNM.out _ HB0.out).mono ?_
   rintro e w1 ⟨rfl, hb⟩
   have r1 := r0.below hb r0.lt
   have HB1 := zh (HB0.out.trans (hb.mono HB0.out.size))
   clear c0 c1 c2 c3
   obtain ⟨c0, c1, c2, c3⟩ := HC.out _ r1
   clear hb r0 HB0
   go_wp2_with fail
   refine (HNEW.out _).mono ?_
   rintro e w2 ⟨rfl, hb⟩
   have r2 := r1.below hb r1.lt
   have HB2 := zh (HB1.out.trans (hb.mono HB1.out.size))
   clear c0 c1 c2 c3
   obtain ⟨c0, c1, c2, c3⟩ := HC.out _ r2
   clear hb r1 HB1
   by_cases e1 : kd = 1
   ·have HR := zh (H12.out (.inl e1))
    clear H12 H3 H4 HNO
    go_wp2_with fail
    go_ret
    exact ⟨ret_eq (bool_eq HR.out.symm), HB2.out⟩
   ·by_cases e2 : kd = 2
    ·have HR := zh (H12.out (.inr e2))
     clear H12 H3 H4 HNO
     go_wp2_with fail
     go_ret
     exact ⟨ret_eq (bool_eq HR.out.symm), HB2.out⟩
    ·by_cases e3 : kd = 3
     ·have HR := zh (H3.out e3)
      clear H12 H3 H4 HNO
      by_cases hpm : p = m
      ·have HR2 : Hid (res = rb) := by
        show res = rb
        rw [HR.out, zE hpm]; rfl
       clear HR
       go_wp2_with (refine wpList_loadRelIn (by rfl) _ rfl w.heap.size 2 rfl n l hl c3 ?_)
       refine (HGR.out _).mono ?_
       rintro e w3 ⟨rfl, hb⟩
       have r3 := r2.below hb r2.lt
       have HB3 := zh (HB2.out.trans (hb.mono HB2.out.size))
       go_wp2_with fail
       go_ret
       exact ⟨ret_eq (bool_eq HR2.out.symm), HB3.out⟩
      ·have HR2 : Hid (res = false) := by
        show res = false
        rw [HR.out, zF hpm]; rfl
       clear HR
       go_wp2_with fail
       go_ret
       exact ⟨ret_eq (bool_eq HR2.out.symm), HB2.out⟩
     ·by_cases e4 : kd = 4
      ·have HR := zh (H4.out e4)
       clear H12 H3 H4 HNO
       by_cases hpm : p = m
       ·have HR2 : Hid (res = lb) := by
         show res = lb
         rw [HR.out, zE hpm]; rfl
        clear HR
        go_wp2_with (refine wpList_loadRelIn (by rfl) _ rfl w.heap.size 2 rfl n l hl c3 ?_)
        refine (HLT.out _ (HT.out.below HB2.out)).mono ?_
        rintro e w3 ⟨rfl, hb⟩
        have r3 := r2.below hb r2.lt
        have HB3 := zh (HB2.out.trans (hb.mono HB2.out.size))
        go_wp2_with fail
        go_ret
        exact ⟨ret_eq (bool_eq HR2.out.symm), HB3.out⟩
       ·have HR2 : Hid (res = false) := by
         show res = false
         rw [HR.out, zF hpm]; rfl
        clear HR
        go_wp2_with fail
        go_ret
        exact ⟨ret_eq (bool_eq HR2.out.symm), HB2.out⟩
      ·have HR := zh (HNO.out e1 e2 e3 e4)
       clear H12 H3 H4 HNO
       go_wp2_with fail
       go_ret
       exact ⟨ret_eq (bool_eq HR.out.symm), HB2.out⟩
end
section
open Go.RowKit RM
theorem sright_any (t : Bool) (A : Option Addr) (c : Nat) (fs : List Fac) (w : World) (hT : Tab w) (hF : Facs w A fs) :
 Calls Tryz.prog 60 #[.agg (sv t A fs.length c)] w fun e w' => e = .returned (.bool (rightS t fs)) ∧ Below w.heap.size w w' := by
 have HT := zh hT; clear hT
 have r0 := RowAt.new w 24 (sv t A fs.length c)
 have HB0 : Hid (Below w.heap.size w (w.alloc (.cells (sv t A fs.length c) 24))) := (zB _ _).alloc (zL _) _
 obtain ⟨c0, c1⟩ := shape_cells r0
 clear r0
 generalize sv t A fs.length c = V at *
 by_cases h1 : fs.length < 1
 ·rw [rightS_low h1]
  clear hF
  generalize fs.length = n at *
  go_enter Tryz.func60, Tryz.ntmps60
  go_wp2_with fail
  go_ret
  exact ⟨rfl, HB0.out⟩
 ·have h3 : 1 ≤ fs.length := by omega
  by_cases h2 : 8 < fs.length
  ·rw [rightS_high h2]
   clear hF h1
   generalize fs.length = n at *
   go_enter Tryz.func60, Tryz.ntmps60
   go_wp2_with fail
   go_ret
   exact ⟨rfl, HB0.out⟩
  ·have h4 : fs.length ≤ 8 := by omega
   clear h1 h2
   by_cases h5 : t = false ∧ 1 < fs.length
   ·obtain ⟨rfl, h6⟩ := h5
    rw [rightS_one (by omega)]
    clear hF
    generalize fs.length = n at *
    go_enter Tryz.func60, Tryz.ntmps60
    go_wp2_with fail
    go_ret
    exact ⟨rfl, HB0.out⟩
   ·have h7 : t = true ∨ fs.length = 1 := by
     cases t with
     | true => exact .inl rfl
     | false => exact .inr (by have : ¬ 1 < fs.length := fun h => h5 ⟨rfl, h⟩; omega)
    clear h5
    have HBAD : Hid (∀ k, k < fs.length → facB (fs.getD k f0) = false → rightS t fs = false) := fun k => rightS_bad
    have HEND : Hid ((∀ k, k < fs.length → facB (fs.getD k f0) = true) → rightS t fs = true) := rightS_end h3 h4 h7
    have HF : Hid (∀ W, Below w.heap.size w W → Facs W A fs) := fun W h => hF.below h
    clear hF
    have HG : Hid (fs.length = fs.length) := rfl
    generalize hn : fs.length = n at *
    have HN := zh hn; clear hn
    generalize rightS t fs = res at *
    have hd1 : decide ((n : Int) < 1) = false := zF (by omega)
    have hd2 : decide (8 < (n : Int)) = false := zF (by omega)
    have h8 : (t = false ∧ decide (1 < (n : Int)) = false) ∨ (t = true ∧ decide (1 < (n : Int)) = false) ∨ (t = true ∧ decide (1 < (n : Int)) = true) := by
     rcases h7 with rfl | h7
     ·by_cases h9 : 1 < n
      ·exact .inr (.inr ⟨rfl, zE (by omega)⟩)
      ·exact .inr (.inl ⟨rfl, zF (by omega)⟩)
     ·cases t with
      | true => exact .inr (.inl ⟨rfl, zF (by omega)⟩)
      | false => exact .inl ⟨rfl, zF (by omega)⟩
    have H4 := zh h4
    clear h7 h3 h4 HG
    go_enter Tryz.func60, Tryz.ntmps60
    rcases h8 with ⟨rfl, hd3⟩ | ⟨rfl, hd3⟩ | ⟨rfl, hd3⟩
    all_goals
     go_wp2_with fail
     clear c0 c1 hd1 hd2 hd3
     go_loopw [5, 27] (fun _ kv wr => ∃ k : Nat, k ≤ n ∧ kv = .int .i64 k ∧ Hid (∀ j, j < k → facB (fs.getD j f0) = true) ∧ Hid (Below w.heap.size w wr)) (fun _ kv _ => n - (intOf kv).toNat)
     case atStart => exact ⟨0, by omega, rfl, fun j hj => by omega, HB0⟩
     case round =>
          obtain ⟨k, hk, rfl, HK, HB1⟩ := hrel
          clear HB0
          have h4 := H4.out
          by_cases hlt : k < n
          ·have hFk := HF.out _ HB1.out
           obtain ⟨b, o, rfl, _, hr⟩ := hFk.at (k := k) (by rw [HN.out]; exact hlt)
           have hrg := hr k (by rw [HN.out]; exact hlt)
           have hl := (hFk.okAt (i := k) (by rw [HN.out]; exact hlt)).rows
           have HOK : Hid (∀ W, Below w.heap.size w W → FacOk W (fs.getD k f0)) := fun W h => (HF.out W h).okAt (by rw [HN.out]; exact hlt)
           clear hr hFk
           have HKN : Hid (facB (fs.getD k f0) = true → ∀ j, j < k + 1 → facB (fs.getD j f0) = true) := fun h j hj => by
            by_cases e : j = k
            ·subst e; exact h
            ·exact HK.out j (by omega)
           have HR := zh (HBAD.out k hlt)
           generalize fs.getD k f0 = f at *
           go_wp2_with (first
            | (refine wpList_loadFacIn (by rfl) _ rfl b (o + k * 67) rfl f hl hrg ?_)
            | (refine wpList_storeFac (by rfl) _ _ rfl wr.heap.size rfl f hl rfl _ zero_fac_size (RowAt.new _ _ _) ?_; intro w2 r2 he; have HB2 := zh (below_made HB1.out HB1.out.size he); clear he)
            | (refine wpList_loadFac (by rfl) _ rfl wr.heap.size rfl f hl r2 ?_))
           refine (valid_any f _ (HT.out.below HB2.out) (HOK.out _ HB2.out)).mono ?_
           rintro e w3 ⟨rfl, hb⟩
           have HB3 := zh (HB2.out.trans (hb.mono HB2.out.size))
           clear hb r2
           cases hv : facB f with
           | false =>
             have HR2 := zh (HR.out hv)
             clear hv HR HKN
             go_wp2_with fail
             go_ret
             exact ⟨ret_eq (bool_eq HR2.out.symm), HB3.out⟩
           | true =>
             have HKN2 := zh (HKN.out hv)
             clear hv HR HKN
             go_wp2_with fail
             go_roundw
             case rel => exact ⟨k + 1, by omega, by go_num, HKN2, HB3⟩
             case measure => simp [intOf]; omega
          ·have e : k = n := by omega
           subst e
           have HE2 := zh (HEND.out HK.out)
           go_wp2_with fail
           go_ret
           exact ⟨ret_eq (bool_eq HE2.out.symm), HB1.out⟩
end
section
open Go.RowKit RM
end
section
open Go.RowKit RM
end
section
open Go.RowKit RM
end
section
open Go.RowKit RM
end
end Go.Proofs.YtdahllhbpdbknaaGreatDoor
