/- Texts that all the claims need. Conditions: those that each states. -/

import Derived.Test.YtnfndapgcpdcpaaGreatDoorFa12
import Derived.Test.YtnfndapgcpdcpaaGreatDoorFa33
set_option linter.unusedSimpArgs false
set_option linter.unusedVariables false
set_option maxRecDepth 100000
set_option maxHeartbeats 40000000
namespace Go.Proofs.YtnfndapgcpdcpaaGreatDoor
section
open Go.RowKit RM
section
variable {a b c : Nat}
end
section
variable {t : Bool} {fs : List Fac} {a b c : List Nat}
end
section
variable {t : Bool} {fs : List Fac} {a b : List Nat}
end
end
section
open Go.RowKit RM
section
variable {w w' : World} {A : Option Addr} {fs : List Fac}
end
section
variable {ops : Array Oper} {rest : List Oper} {o : Oper} {a : Act} {w : World} {Q : Exit → Act → World → Prop}
end
section
variable {o : Oper} {a : Act} {S : World → Prop}
end
end
section
open Go.RowKit RM
theorem valid_any (f : Fac) (w : World) (hT : Tab w) (hf : FacOk w f) :
 Calls Tryz.prog 96 #[.agg (fv f)] w fun e w' => e = .returned (.bool (facB f)) ∧ Below w.heap.size w w' := by
 have HNM : Hid (∀ W, Below w.heap.size w W → Calls Tryz.prog 123 #[.slice f.A f.names.length f.c] W fun e w' => e = .returned (.bool (namedB f.names)) ∧ Below W.heap.size W w') := fun W h => named_any _ _ _ W (hf.strs.below h)
 have HNEW : Hid (∀ w, Calls Tryz.prog 124 #[.int .i64 f.n] w fun e w' => e = .returned (.agg (rv ((pts f.n : Nat) : Int) zs)) ∧ Below w.heap.size w w') := new_any f.n
 have HGR : Hid (∀ w, Calls Tryz.prog 125 #[.agg (rv f.n f.l)] w fun e w' => e = .returned (.bool (rightB f.n f.l)) ∧ Below w.heap.size w w') := gright_any f.n f.l hf.rows
 have HLT : Hid (∀ w, Tab w → Calls Tryz.prog 126 #[.agg (rv f.n f.l)] w fun e w' => e = .returned (.bool (latB f.n f.l)) ∧ Below w.heap.size w w') := hlattice_any f.n f.l hf.rows
 have hf0 := run_field0 (pts f.n) zs
 have hF : facB f = (namedB f.names && relB f.kind f.n f.l f.names.length) := rfl
 have HT := zh hT; clear hT
 have hl := hf.rows
 have r0 := RowAt.new w 64 (fv f)
 have HB0 : Hid (Below w.heap.size w (w.alloc (.cells (fv f) 64))) := (zB _ _).alloc (zL _) _
 have HC : Hid (∀ W, RowAt W w.heap.size 64 (fv f) → W.cell? ⟨w.heap.size, 0, none⟩ = some (.int .i64 f.kind) ∧ W.cell? ⟨w.heap.size, 1, none⟩ = some (.slice f.A f.names.length f.c) ∧ W.cell? ⟨w.heap.size, 2, none⟩ = some (.int .i64 f.n) ∧ W.rangeAt w.heap.size 2 (rvl f.n f.l)) := fun W h => fac_cells h
 rw [hF]
 clear hF hf
 generalize fv f = V at *
 generalize f.kind = kd at *
 generalize f.n = n at *
 generalize f.l = l at *
 generalize f.A = A at *
 generalize f.c = c at *
 generalize f.names = xs at *
 cases hn : namedB xs with
 | false =>
   rw [hn] at HNM
   rw [Bool.false_and]
   clear hn
   obtain ⟨c0, c1, c2, c3⟩ := HC.out _ r0
   generalize xs.length = m at *
   go_enter Tryz.func96, Tryz.ntmps96
   go_wp2_with fail
   refine (HNM.out _ HB0.out).mono ?_
   rintro e w1 ⟨rfl, hb⟩
   have r1 := r0.below hb r0.lt
   have HB1 := zh (HB0.out.trans (hb.mono HB0.out.size))
   go_wp2_with fail
   go_ret
   exact ⟨rfl, HB1.out⟩
 | true =>
   rw [hn] at HNM
   rw [Bool.true_and]
   clear hn
   have H12 : Hid (kd = 1 ∨ kd = 2 → relB kd n l xs.length = ((pts n : Int) == 0)) := fun h => by rw [relB_12 h, pts_zero_eq]
   have H3 : Hid (kd = 3 → relB kd n l xs.length = (decide (pts n = xs.length) && rightB n l)) := fun h => by rw [h]; exact relB_3
   have H4 : Hid (kd = 4 → relB kd n l xs.length = (decide (pts n = xs.length) && latB n l)) := fun h => by rw [h]; exact relB_4
   have HNO : Hid (¬ kd = 1 → ¬ kd = 2 → ¬ kd = 3 → ¬ kd = 4 → relB kd n l xs.length = false) := relB_no
   generalize relB kd n l xs.length = res at *
   generalize xs.length = m at *
   generalize rightB n l = rb at *
   generalize latB n l = lb at *
   generalize rv ((pts n : Nat) : Int) zs = rz at *
   generalize pts n = p at *
   obtain ⟨c0, c1, c2, c3⟩ := HC.out _ r0
   go_enter Tryz.func96, Tryz.ntmps96
   go_wp2_with fail
   refine (HNM.out _ HB0.out).mono ?_
   rintro e w1 ⟨rfl, hb⟩
   have r1 := r0.below hb r0.lt
   have HB1 := zh (HB0.out.trans (hb.mono HB0.out.size))
   clear c0 c1 c2 c3
   obtain ⟨c0, c1, c2, c3⟩ := HC.out _ r1
   clear hb r0 HB0
   go_wp2_with fail
   refine (HNEW.out _).mono ?_
   rintro e w2 ⟨rfl, hb⟩
   have r2 := r1.below hb r1.lt
   have HB2 := zh (HB1.out.trans (hb.mono HB1.out.size))
   clear c0 c1 c2 c3
   obtain ⟨c0, c1, c2, c3⟩ := HC.out _ r2
   clear hb r1 HB1
   by_cases e1 : kd = 1
   ·have HR := zh (H12.out (.inl e1))
    clear H12 H3 H4 HNO
    go_wp2_with fail
    go_ret
    exact ⟨ret_eq (bool_eq HR.out.symm), HB2.out⟩
   ·by_cases e2 : kd = 2
    ·have HR := zh (H12.out (.inr e2))
     clear H12 H3 H4 HNO
     go_wp2_with fail
     go_ret
     exact ⟨ret_eq (bool_eq HR.out.symm), HB2.out⟩
    ·by_cases e3 : kd = 3
     ·have HR := zh (H3.out e3)
      clear H12 H3 H4 HNO
      by_cases hpm : p = m
      ·have HR2 : Hid (res = rb) := by
        show res = rb
        rw [HR.out, zE hpm]; rfl
       clear HR
       go_wp2_with (refine wpList_loadRelIn (by rfl) _ rfl w.heap.size 2 rfl n l hl c3 ?_)
       refine (HGR.out _).mono ?_
       rintro e w3 ⟨rfl, hb⟩
       have r3 := r2.below hb r2.lt
       have HB3 := zh (HB2.out.trans (hb.mono HB2.out.size))
       go_wp2_with fail
       go_ret
       exact ⟨ret_eq (bool_eq HR2.out.symm), HB3.out⟩
      ·have HR2 : Hid (res = false) := by
        show res = false
        rw [HR.out, zF hpm]; rfl
       clear HR
       go_wp2_with fail
       go_ret
       exact ⟨ret_eq (bool_eq HR2.out.symm), HB2.out⟩
     ·by_cases e4 : kd = 4
      ·have HR := zh (H4.out e4)
       clear H12 H3 H4 HNO
       by_cases hpm : p = m
       ·have HR2 : Hid (res = lb) := by
         show res = lb
         rw [HR.out, zE hpm]; rfl
        clear HR
        go_wp2_with (refine wpList_loadRelIn (by rfl) _ rfl w.heap.size 2 rfl n l hl c3 ?_)
        refine (HLT.out _ (HT.out.below HB2.out)).mono ?_
        rintro e w3 ⟨rfl, hb⟩
        have r3 := r2.below hb r2.lt
        have HB3 := zh (HB2.out.trans (hb.mono HB2.out.size))
        go_wp2_with fail
        go_ret
        exact ⟨ret_eq (bool_eq HR2.out.symm), HB3.out⟩
       ·have HR2 : Hid (res = false) := by
         show res = false
         rw [HR.out, zF hpm]; rfl
        clear HR
        go_wp2_with fail
        go_ret
        exact ⟨ret_eq (bool_eq HR2.out.symm), HB2.out⟩
      ·have HR := zh (HNO.out e1 e2 e3 e4)
       clear H12 H3 H4 HNO
       go_wp2_with fail
       go_ret
       exact ⟨ret_eq (bool_eq HR.out.symm), HB2.out⟩
end
section
open Go.RowKit RM
theorem sright_any (t : Bool) (A : Option Addr) (c : Nat) (fs : List Fac) (w : World) (hT : Tab w) (hF : Facs w A fs) :
 Calls Tryz.prog 70 #[.agg (sv t A fs.length c)] w fun e w' => e = .returned (.bool (rightS t fs)) ∧ Below w.heap.size w w' := by
 have HT := zh hT; clear hT
 have r0 := RowAt.new w 53 (sv t A fs.length c)
 have HB0 : Hid (Below w.heap.size w (w.alloc (.cells (sv t A fs.length c) 53))) := (zB _ _).alloc (zL _) _
 obtain ⟨c0, c1⟩ := shape_cells r0
 clear r0
 generalize sv t A fs.length c = V at *
 by_cases h1 : fs.length < 1
 ·rw [rightS_low h1]
  clear hF
  generalize fs.length = n at *
  go_enter Tryz.func70, Tryz.ntmps70
  go_wp2_with fail
  go_ret
  exact ⟨rfl, HB0.out⟩
 ·have h3 : 1 ≤ fs.length := by omega
  by_cases h2 : 8 < fs.length
  ·rw [rightS_high h2]
   clear hF h1
   generalize fs.length = n at *
   go_enter Tryz.func70, Tryz.ntmps70
   go_wp2_with fail
   go_ret
   exact ⟨rfl, HB0.out⟩
  ·have h4 : fs.length ≤ 8 := by omega
   clear h1 h2
   by_cases h5 : t = false ∧ 1 < fs.length
   ·obtain ⟨rfl, h6⟩ := h5
    rw [rightS_one (by omega)]
    clear hF
    generalize fs.length = n at *
    go_enter Tryz.func70, Tryz.ntmps70
    go_wp2_with fail
    go_ret
    exact ⟨rfl, HB0.out⟩
   ·have h7 : t = true ∨ fs.length = 1 := by
     cases t with
     | true => exact .inl rfl
     | false => exact .inr (by have : ¬ 1 < fs.length := fun h => h5 ⟨rfl, h⟩; omega)
    clear h5
    have HBAD : Hid (∀ k, k < fs.length → facB (fs.getD k f0) = false → rightS t fs = false) := fun k => rightS_bad
    have HEND : Hid ((∀ k, k < fs.length → facB (fs.getD k f0) = true) → rightS t fs = true) := rightS_end h3 h4 h7
    have HF : Hid (∀ W, Below w.heap.size w W → Facs W A fs) := fun W h => hF.below h
    clear hF
    have HG : Hid (fs.length = fs.length) := rfl
    generalize hn : fs.length = n at *
    have HN := zh hn; clear hn
    generalize rightS t fs = res at *
    have hd1 : decide ((n : Int) < 1) = false := zF (by omega)
    have hd2 : decide (8 < (n : Int)) = false := zF (by omega)
    have h8 : (t = false ∧ decide (1 < (n : Int)) = false) ∨ (t = true ∧ decide (1 < (n : Int)) = false) ∨ (t = true ∧ decide (1 < (n : Int)) = true) := by
     rcases h7 with rfl | h7
     ·by_cases h9 : 1 < n
      ·exact .inr (.inr ⟨rfl, zE (by omega)⟩)
      ·exact .inr (.inl ⟨rfl, zF (by omega)⟩)
     ·cases t with
      | true => exact .inr (.inl ⟨rfl, zF (by omega)⟩)
      | false => exact .inl ⟨rfl, zF (by omega)⟩
    have H4 := zh h4
    clear h7 h3 h4 HG
    go_enter Tryz.func70, Tryz.ntmps70
    rcases h8 with ⟨rfl, hd3⟩ | ⟨rfl, hd3⟩ | ⟨rfl, hd3⟩
    all_goals
     go_wp2_with fail
     clear c0 c1 hd1 hd2 hd3
     go_loopw [5, 27] (fun _ kv wr => ∃ k : Nat, k ≤ n ∧ kv = .int .i64 k ∧ Hid (∀ j, j < k → facB (fs.getD j f0) = true) ∧ Hid (Below w.heap.size w wr)) (fun _ kv _ => n - (intOf kv).toNat)
     case atStart => exact ⟨0, by omega, rfl, fun j hj => by omega, HB0⟩
     case round =>
          obtain ⟨k, hk, rfl, HK, HB1⟩ := hrel
          clear HB0
          have h4 := H4.out
          by_cases hlt : k < n
          ·have hFk := HF.out _ HB1.out
           obtain ⟨b, o, rfl, _, hr⟩ := hFk.at (k := k) (by rw [HN.out]; exact hlt)
           have hrg := hr k (by rw [HN.out]; exact hlt)
           have hl := (hFk.okAt (i := k) (by rw [HN.out]; exact hlt)).rows
           have HOK : Hid (∀ W, Below w.heap.size w W → FacOk W (fs.getD k f0)) := fun W h => (HF.out W h).okAt (by rw [HN.out]; exact hlt)
           clear hr hFk
           have HKN : Hid (facB (fs.getD k f0) = true → ∀ j, j < k + 1 → facB (fs.getD j f0) = true) := fun h j hj => by
            by_cases e : j = k
            ·subst e; exact h
            ·exact HK.out j (by omega)
           have HR := zh (HBAD.out k hlt)
           generalize fs.getD k f0 = f at *
           go_wp2_with (first
            | (refine wpList_loadFacIn (by rfl) _ rfl b (o + k * 67) rfl f hl hrg ?_)
            | (refine wpList_storeFac (by rfl) _ _ rfl wr.heap.size rfl f hl rfl _ zero_fac_size (RowAt.new _ _ _) ?_; intro w2 r2 he; have HB2 := zh (below_made HB1.out HB1.out.size he); clear he)
            | (refine wpList_loadFac (by rfl) _ rfl wr.heap.size rfl f hl r2 ?_))
           refine (valid_any f _ (HT.out.below HB2.out) (HOK.out _ HB2.out)).mono ?_
           rintro e w3 ⟨rfl, hb⟩
           have HB3 := zh (HB2.out.trans (hb.mono HB2.out.size))
           clear hb r2
           cases hv : facB f with
           | false =>
             have HR2 := zh (HR.out hv)
             clear hv HR HKN
             go_wp2_with fail
             go_ret
             exact ⟨ret_eq (bool_eq HR2.out.symm), HB3.out⟩
           | true =>
             have HKN2 := zh (HKN.out hv)
             clear hv HR HKN
             go_wp2_with fail
             go_roundw
             case rel => exact ⟨k + 1, by omega, by go_num, HKN2, HB3⟩
             case measure => simp [intOf]; omega
          ·have e : k = n := by omega
           subst e
           have HE2 := zh (HEND.out HK.out)
           go_wp2_with fail
           go_ret
           exact ⟨ret_eq (bool_eq HE2.out.symm), HB1.out⟩
end
section
open Go.RowKit RM
theorem sfitsE_any (t : Bool) (A : Option Addr) (c : Nat) (fs : List Fac) (e : List Nat) (he : EW e) (w : World) (hT : Tab w) (hF : Facs w A fs) :
 Calls Tryz.prog 31 #[.agg (sv t A fs.length c), .agg (uv e)] w fun x w' => x = .returned (.bool (fitsE t fs e)) ∧ Below w.heap.size w w' := by
 have HT := zh hT; clear hT
 have r0 : RowAt ((w.alloc (.cells (sv t A fs.length c) 53)).alloc (.cells (uv e) 41)) w.heap.size 53 (sv t A fs.length c) := (RowAt.new w _ _).alloc _
 have q0 : RowAt ((w.alloc (.cells (sv t A fs.length c) 53)).alloc (.cells (uv e) 41)) (w.heap.size + 1) 41 (uv e) := by
  have := RowAt.new (w.alloc (.cells (sv t A fs.length c) 53)) 41 (uv e)
  simpa using this
 have HB0 : Hid (Below w.heap.size w ((w.alloc (.cells (sv t A fs.length c) 53)).alloc (.cells (uv e) 41))) := ((zB _ _).alloc (zL _) _).alloc (by simp) _
 have HRI : Hid (∀ W, Below w.heap.size w W → Calls Tryz.prog 70 #[.agg (sv t A fs.length c)] W fun x w' => x = .returned (.bool (rightS t fs)) ∧ Below W.heap.size W w') := fun W h => sright_any t A c fs W (HT.out.below h) (hF.below h)
 have HS : Hid (∀ W, RowAt W w.heap.size 53 (sv t A fs.length c) → W.cell? ⟨w.heap.size, 0, none⟩ = some (.bool t) ∧ W.cell? ⟨w.heap.size, 1, none⟩ = some (.slice A fs.length c)) := fun W h => shape_cells h
 have HF : Hid (∀ W, Below w.heap.size w W → Facs W A fs) := fun W h => hF.below h
 clear hF
 cases hr : rightS t fs with
 | false =>
   rw [fits_no hr]
   rw [hr] at HRI
   clear hr HF
   generalize fs.length = n at *
   go_enter Tryz.func31, Tryz.ntmps31
   go_upto_region 1 with fail
   generalize (w.alloc (.cells (sv t A n c) 53)).alloc (.cells (uv e) 41) = w0 at *
   go_wp2_with (refine wpList_loadShape (by rfl) _ rfl w.heap.size rfl t A n c r0 ?_)
   refine (HRI.out _ HB0.out).mono ?_
   rintro e w1 ⟨rfl, hb⟩
   have HB1 := zh (HB0.out.trans (hb.mono HB0.out.size))
   go_wp2_with fail
   go_ret
   exact ⟨rfl, HB1.out⟩
 | true =>
   have hlen := right_len hr
   have HBAD : Hid (∀ k, k < fs.length → wordB (fs.getD k f0) (e.getD k 0) = false → fitsE t fs e = false) := fun k hk h => fits_bad hk hlen.2 h
   have HEND : Hid ((∀ k, k < fs.length → wordB (fs.getD k f0) (e.getD k 0) = true) → fitsE t fs e = decide (eZ e fs.length = List.replicate 8 0)) := fits_fin he hr
   have HEW : Hid (∀ k, EW (eZ e k)) := eZ_ew he
   have HEA : Hid (∀ k, k < 8 → (uv (eZ e k))[k]? = some (.int .u64 ((e.getD k 0 : Nat) : Int))) := fun k hk => by
    rw [ev_at (eZ_ew he k) k hk, eZ_at he hk, if_neg (by omega)]
   have HNX : Hid (∀ k, (uv (eZ e k)).setIfInBounds k (.int .u64 0) = uv (eZ e (k + 1))) := fun k => uv_set (eZ e k) k 0
   have HLT := zh he.lt
   have h8 := hlen.2
   rw [hr] at HRI
   clear hr hlen
   have HE0 : Hid (eZ e 0 = e) := rfl
   generalize fitsE t fs e = res at *
   generalize hn : fs.length = n at *
   have HN := zh hn; clear hn
   go_enter Tryz.func31, Tryz.ntmps31
   go_upto_region 1 with fail
   generalize (w.alloc (.cells (sv t A n c) 53)).alloc (.cells (uv e) 41) = w0 at *
   go_wp2_with (refine wpList_loadShape (by rfl) _ rfl w.heap.size rfl t A n c r0 ?_)
   refine (HRI.out _ HB0.out).mono ?_
   rintro e w1 ⟨rfl, hb⟩
   have r1 := r0.below hb r0.lt
   have q1 := q0.below hb q0.lt
   have HB1 := zh (HB0.out.trans (hb.mono HB0.out.size))
   clear hb r0 q0 HB0
   obtain ⟨c0, c1⟩ := HS.out _ r1
   rw [← HE0.out] at q1
   go_wp2_with fail
   clear c0 c1 r1 HRI HS
   go_loopw [5, 6, 13] (fun _ _ kv wr => ∃ k : Nat, k ≤ n ∧ kv = .int .i64 k ∧ RowAt wr (w.heap.size + 1) 41 (uv (eZ e k)) ∧ Hid (∀ j, j < k → wordB (fs.getD j f0) (e.getD j 0) = true) ∧ Hid (Below w.heap.size w wr)) (fun _ _ kv _ => n - (intOf kv).toNat)
   case atStart => exact ⟨0, by omega, rfl, q1, fun j hj => by omega, HB1⟩
   case round =>
    clear q1 HB1
    obtain ⟨k, hk, rfl, q1, HK, HB1⟩ := hrel
    by_cases hlt : k < n
    ·have hFk := HF.out _ HB1.out
     obtain ⟨b, o, rfl, _, hr⟩ := hFk.at (k := k) (by rw [HN.out]; exact hlt)
     have hrg := hr k (by rw [HN.out]; exact hlt)
     have hl := (hFk.okAt (i := k) (by rw [HN.out]; exact hlt)).rows
     have HOK : Hid (∀ W, Below w.heap.size w W → FacOk W (fs.getD k f0)) := fun W h => (HF.out W h).okAt (by rw [HN.out]; exact hlt)
     clear hr hFk
     have HKN : Hid (wordB (fs.getD k f0) (e.getD k 0) = true → ∀ j, j < k + 1 → wordB (fs.getD j f0) (e.getD j 0) = true) := fun h j hj => by
      by_cases e : j = k
      ·subst e; exact h
      ·exact HK.out j (by omega)
     have HR := zh (HBAD.out k hlt)
     have hk8 : (k : Int) < 8 := by omega
     have hea := HEA.out k (by omega)
     have hnx := HNX.out k
     have hx := HLT.out k
     have HWF : Hid (∀ W, Below w.heap.size w W → Calls Tryz.prog 71 #[.agg (fv (fs.getD k f0)), .int .u64 ((e.getD k 0 : Nat) : Int)] W fun x w' => x = .returned (.bool (wordB (fs.getD k f0) (e.getD k 0))) ∧ Below W.heap.size W w') := fun W h => sfits_any _ _ hx W (HT.out.below h) (HOK.out W h)
     clear hx HOK
     generalize wordB (fs.getD k f0) (e.getD k 0) = bw at *
     generalize e.getD k 0 = x at *
     generalize fs.getD k f0 = f at *
     have HNX2 := zh hnx; clear hnx
     have HEA2 := zh hea; clear hea
     generalize uv (eZ e k) = U at *
     go_wp2_with (first | (refine wpList_loadFacIn (by rfl) _ rfl b (o + k * 67) rfl f hl hrg ?_) | (refine wpList_storeFac (by rfl) _ _ rfl wr.heap.size rfl f hl rfl _ zero_fac_size (RowAt.new _ _ _) ?_; intro w2 r2 he) | (refine wpList_loadFac (by rfl) _ rfl wr.heap.size rfl f hl r2 ?_))
     have hgs : w.heap.size + 1 < wr.heap.size := q1.lt
     have q2 := (q1.alloc (.cells Tryz.zeroCells64 64)).other he (by omega)
     have HB2 := zh (below_made HB1.out HB1.out.size he); clear he q1 HB1
     obtain ⟨S, HS, pW, keepS⟩ := ex_gen w2
     have pF := fun w' h => r2.below (pW w' h) r2.lt
     have pQ := fun w' h => q2.below (pW w' h) q2.lt
     have cE : ∀ w', S w' → w'.cell? ⟨w.heap.size + 1, k, none⟩ = some (.int .u64 (x : Int)) := fun w' h => ((pQ w' h).cell k).trans HEA2.out
     have PB : Hid (∀ w', S w' → Below w.heap.size w w') := fun w' h => HB2.out.trans ((pW w' h).mono HB2.out.size)
     have PQ := zh pQ
     clear pW r2 q2 HB2 pQ
     refine wp_region_ord S [(0, true), (1, true), (2, true), (3, true), (4, false), (5, true)] (by kernel_rfl) (by kernel_rfl) rfl (by kernel_rfl) HS.out ?_
     generalize w2.drew = V at HS ⊢
     iterate 4
      (refine wpOrd_step (zO rfl) ?_)
      (first
       | (refine wpOrd_skip (by rfl) ?_)
       | (refine wpOrd_take (by rfl) (take_loadFac _ rfl _ rfl _ hl pF) ?_)
       | (refine wpOrd_take (v := ?_) (by rfl) ?_ ?_; rotate_left 1; (intro wx hSx; have hc_0 := cE wx hSx; go_simp; try with_reducible rfl)))
      (try simp only [Act.put, zA4, zA5, zA6])
     (refine wpOrd_solo (zO rfl) ?_)
     intro K hK
     go_simp
     go_at_call 71
     refine (HWF.out _ (PB.out _ HS.out)).mono ?_
     rintro e w5 ⟨rfl, hb⟩
     have hS := keepS _ _ HS.out hb
     clear HS
     have HS := zh hS; clear hS hb
     refine hK.out _ _ HS.out ?_
     clear hK K
     (try simp only [Act.put, zA4, zA5, zA6])
     iterate 1
      (refine wpOrd_step (zO rfl) ?_)
      (first
       | (refine wpOrd_skip (by rfl) ?_)
       | (refine wpOrd_take (v := ?_) (by rfl) ?_ ?_; rotate_left 1; (intro wx hSx; go_simp; try with_reducible rfl)))
      (try simp only [Act.put, zA4, zA5, zA6])
     refine wpOrd_done ?_
     have HB5 := zh (PB.out _ HS.out)
     have q5 := PQ.out _ HS.out
     clear pF cE PB PQ HS keepS
     cases bw with
     | false =>
       have HR2 := zh (HR.out rfl)
       clear HR HKN
       go_wp2_with fail
       go_ret
       exact ⟨ret_eq (bool_eq HR2.out.symm), HB5.out⟩
     | true =>
       have HKN2 := zh (HKN.out rfl)
       clear HR HKN
       have hce : w5.cell? ⟨w.heap.size + 1, k, none⟩ = some (.int .u64 (x : Int)) := (q5.cell k).trans HEA2.out
       have hfe := q5.free k
       have q6 := q5.put k (.int .u64 0)
       rw [HNX2.out] at q6
       have HB6 := zh (HB5.out.trans (((Else.setCell w5 ⟨w.heap.size + 1, k, none⟩ (.int .u64 0)).below (by show w.heap.size ≤ w.heap.size + 1; omega)).mono (zL _)))
       clear HB5 q5
       go_wp2_with fail
       go_roundw
       case rel => exact ⟨k + 1, by omega, by go_num, q6, HKN2, HB6⟩
       case measure => simp [intOf]; omega
    ·have e1 : k = n := by omega
     subst e1
     have HE2 := zh (HEND.out HK.out)
     have hew := HEW.out k
     have heq := fun w => run_eql_elem hew EW.zeros w
     rw [← zero_elem] at heq
     generalize decide (eZ e k = List.replicate 8 0) = bd at *
     go_wp2_with (refine wpList_loadElem (by rfl) _ rfl (w.heap.size + 1) rfl _ hew q1 ?_)
     go_ret
     exact ⟨ret_eq (bool_eq HE2.out.symm), HB1.out⟩
end
section
open Go.RowKit RM
theorem selement_any (t : Bool) (A : Option Addr) (c : Nat) (fs : List Fac) (f : FuncId) (hf : ∀ args w, (callFunc f args).run Tryz.prog w = .ok (.enter f args) w) (F : Fac → Nat) (hlt : ∀ g, F g < 18446744073709551616)
 (w : World) (hT : Tab w) (hF : Facs w A fs) (H : ∀ g W, facB g = true → Tab W → FacOk W g → Calls Tryz.prog f #[.agg (fv g)] W fun x w' => x = .returned (.int .u64 ((F g : Nat) : Int)) ∧ Below W.heap.size W w') :
 Calls Tryz.prog 75 #[.agg (sv t A fs.length c), .func (.func f) #[] #[]] w fun x w' => x = .returned (.agg (uv (endE t fs F))) ∧ Below w.heap.size w w' := by
 have HT := zh hT; clear hT
 have z8 := EW.zeros
 have r0 : RowAt ((w.alloc (.cells (sv t A fs.length c) 53)).alloc (.cells (uv (List.replicate 8 0)) 41)) w.heap.size 53 (sv t A fs.length c) := (RowAt.new w _ _).alloc _
 have q0 : RowAt ((w.alloc (.cells (sv t A fs.length c) 53)).alloc (.cells (uv (List.replicate 8 0)) 41)) (w.heap.size + 1) 41 (uv (List.replicate 8 0)) := by
  have := RowAt.new (w.alloc (.cells (sv t A fs.length c) 53)) 41 (uv (List.replicate 8 0))
  simpa using this
 have HB0 : Hid (Below w.heap.size w ((w.alloc (.cells (sv t A fs.length c) 53)).alloc (.cells (uv (List.replicate 8 0)) 41))) := ((zB _ _).alloc (zL _) _).alloc (by simp) _
 have HRI : Hid (∀ W, Below w.heap.size w W → Calls Tryz.prog 70 #[.agg (sv t A fs.length c)] W fun x w' => x = .returned (.bool (rightS t fs)) ∧ Below W.heap.size W w') := fun W h => sright_any t A c fs W (HT.out.below h) (hF.below h)
 have HS : Hid (∀ W, RowAt W w.heap.size 53 (sv t A fs.length c) → W.cell? ⟨w.heap.size, 0, none⟩ = some (.bool t) ∧ W.cell? ⟨w.heap.size, 1, none⟩ = some (.slice A fs.length c)) := fun W h => shape_cells h
 have HF : Hid (∀ W, Below w.heap.size w W → Facs W A fs) := fun W h => hF.below h
 have HH := zh H; clear H hF
 cases hr : rightS t fs with
 | false =>
   rw [endE_no hr]
   rw [hr] at HRI
   clear hr HF
   generalize fs.length = n at *
   rw [← zero_elem] at r0 q0 HB0
   go_enter Tryz.func75, Tryz.ntmps75
   go_upto_region 1 with fail
   rw [zero_elem] at r0 q0 HB0 ⊢
   generalize (w.alloc (.cells (sv t A n c) 53)).alloc (.cells (uv (List.replicate 8 0)) 41) = w0 at *
   go_wp2_with (refine wpList_loadShape (by rfl) _ rfl w.heap.size rfl t A n c r0 ?_)
   refine (HRI.out _ HB0.out).mono ?_
   rintro e w1 ⟨rfl, hb⟩
   have q1 := q0.below hb q0.lt
   have HB1 := zh (HB0.out.trans (hb.mono HB0.out.size))
   go_wp2_with (refine wpList_storeElem (by rfl) _ _ rfl (w.heap.size + 1) rfl _ z8 (by rw [← zero_elem]; rfl) _ z8 q1 ?_; intro w2 q2 he)
   exact bodyPost_ret (ret_elem rfl _ _ (w.heap.size + 1) _ z8 rfl q2) rfl ⟨rfl, HB1.out.trans (he.below (by omega))⟩
 | true =>
   rw [endE_yes hr]
   have hlen := right_len hr
   have HV : Hid (∀ k, k < fs.length → facB (fs.getD k f0) = true) := fun k hk => right_fac hr hk
   have HEW : Hid (∀ k, EW (sdTo (fun i => F (fs.getD i f0)) 8 k)) := sdTo_ew fun i => hlt _
   have HZ : Hid (sdTo (fun i => F (fs.getD i f0)) 8 0 = List.replicate 8 0) := sdTo_zero _ 8
   have HNX : Hid (∀ k, (uv (sdTo (fun i => F (fs.getD i f0)) 8 k)).setIfInBounds k (.int .u64 ((F (fs.getD k f0) : Nat) : Int)) = uv (sdTo (fun i => F (fs.getD i f0)) 8 (k + 1))) := fun k => by rw [uv_set, ← sdTo_set]
   rw [hr] at HRI
   clear hr hlt
   generalize sdTo (fun i => F (fs.getD i f0)) 8 = G at *
   generalize hn : fs.length = n at *
   have HN := zh hn; clear hn
   rw [← zero_elem] at r0 q0 HB0
   go_enter Tryz.func75, Tryz.ntmps75
   go_upto_region 1 with fail
   rw [zero_elem] at r0 q0 HB0 ⊢
   generalize (w.alloc (.cells (sv t A n c) 53)).alloc (.cells (uv (List.replicate 8 0)) 41) = w0 at *
   go_wp2_with (refine wpList_loadShape (by rfl) _ rfl w.heap.size rfl t A n c r0 ?_)
   refine (HRI.out _ HB0.out).mono ?_
   rintro e w1 ⟨rfl, hb⟩
   have r1 := r0.below hb r0.lt
   have q1 := q0.below hb q0.lt
   have HB1 := zh (HB0.out.trans (hb.mono HB0.out.size))
   clear hb r0 q0 HB0
   have hs1 := q1.lt
   obtain ⟨c0, c1⟩ := HS.out _ r1
   have hlen2 := hlen.2
   go_upto_region 4 with fail
   rw [zero_elem]
   have p1 : RowAt (w1.alloc (.cells (uv (List.replicate 8 0)) 41)) w1.heap.size 41 (uv (List.replicate 8 0)) := RowAt.new _ _ _
   have q2 := q1.alloc (.cells (uv (List.replicate 8 0)) 41)
   have r2 := r1.alloc (.cells (uv (List.replicate 8 0)) 41)
   have HB2 := zh (HB1.out.alloc HB1.out.size (.cells (uv (List.replicate 8 0)) 41))
   obtain ⟨d0, d1⟩ := HS.out _ r2
   clear c0 c1 r1 r2 q1 HB1 HRI
   generalize w1.alloc (.cells (uv (List.replicate 8 0)) 41) = w9 at *
   rw [← HZ.out] at p1
   have hg1 : w.heap.size ≤ w1.heap.size := by omega
   have hg2 : w.heap.size + 1 ≠ w1.heap.size := by omega
   generalize w1.heap.size = gE at *
   go_wp2_with fail
   clear d0 d1 HS
   go_loopw [6, 7, 15] (fun _ _ kv wr => ∃ k : Nat, k ≤ n ∧ kv = .int .i64 k ∧ RowAt wr gE 41 (uv (G k)) ∧ RowAt wr (w.heap.size + 1) 41 (uv (List.replicate 8 0)) ∧ Hid (Below w.heap.size w wr)) (fun _ _ kv _ => n - (intOf kv).toNat)
   case atStart => exact ⟨0, by omega, rfl, p1, q2, HB2⟩
   case round =>
    clear p1 q2 HB2
    obtain ⟨k, hk, rfl, p1, q1, HB1⟩ := hrel
    by_cases hlt : k < n
    ·have hk8 : (k : Int) < 8 := by omega
     have hFk := HF.out _ HB1.out
     obtain ⟨b, o, rfl, _, hr⟩ := hFk.at (k := k) (by rw [HN.out]; exact hlt)
     have hrg := hr k (by rw [HN.out]; exact hlt)
     have hl := (hFk.okAt (i := k) (by rw [HN.out]; exact hlt)).rows
     have HOK : Hid (∀ W, Below w.heap.size w W → FacOk W (fs.getD k f0)) := fun W h => (HF.out W h).okAt (by rw [HN.out]; exact hlt)
     clear hr hFk
     have hnx := HNX.out k
     have hv := HV.out k hlt
     have HWF : Hid (∀ W, Below w.heap.size w W → Calls Tryz.prog f #[.agg (fv (fs.getD k f0))] W fun x w' => x = .returned (.int .u64 ((F (fs.getD k f0) : Nat) : Int)) ∧ Below W.heap.size W w') := fun W h => HH.out _ W hv (HT.out.below h) (HOK.out W h)
     have hcE := ev_at (HEW.out k) k (by omega)
     have HCE := zh hcE; clear hcE hv HOK
     generalize (G k).getD k 0 = x0 at *
     generalize F (fs.getD k f0) = x at *
     generalize fs.getD k f0 = f at *
     have HNX2 := zh hnx; clear hnx
     go_wp2_with (first | (refine wpList_loadFacIn (by rfl) _ rfl b (o + k * 67) rfl f hl hrg ?_) | (refine wpList_storeFac (by rfl) _ _ rfl wr.heap.size rfl f hl rfl _ zero_fac_size (RowAt.new _ _ _) ?_; intro w2 r2 he; have p2 := (p1.alloc (.cells Tryz.zeroCells64 64)).other he (Nat.ne_of_lt p1.lt); have q2 := (q1.alloc (.cells Tryz.zeroCells64 64)).other he (Nat.ne_of_lt q1.lt); have HB2 := zh (below_made HB1.out HB1.out.size he); clear he q1 p1 HB1) | (refine wpList_loadFac (by rfl) _ rfl wr.heap.size rfl f hl r2 ?_))
     refine (HWF.out _ HB2.out).mono ?_
     rintro e w3 ⟨rfl, hb⟩
     have p3 := p2.below hb p2.lt
     have q3 := q2.below hb q2.lt
     have HB3 := zh (HB2.out.trans (hb.mono HB2.out.size))
     clear hb r2 p2 q2 HB2
     have hce : w3.cell? ⟨gE, k, none⟩ = some (.int .u64 (x0 : Int)) := (p3.cell k).trans HCE.out
     have hfe := p3.free k
     have p6 := p3.put k (.int .u64 (x : Int))
     have q6 := q3.far (p := ⟨gE, k, none⟩) (fun e => hg2 e.symm) (.int .u64 (x : Int))
     rw [HNX2.out] at p6
     have HB6 := zh (HB3.out.trans (((Else.setCell w3 ⟨gE, k, none⟩ (.int .u64 (x : Int))).below hg1).mono (zL _)))
     clear HB3 p3 q3
     go_wp2_with fail
     go_roundw
     case rel => exact ⟨k + 1, by omega, by go_num, p6, q6, HB6⟩
     case measure => simp [intOf]; omega
    ·have e1 : k = n := by omega
     subst e1
     have hew := HEW.out k
     go_wp2_with (first | (refine wpList_loadElem (by rfl) _ rfl gE rfl _ hew p1 ?_) | (refine wpList_storeElem (by rfl) _ _ rfl (w.heap.size + 1) rfl _ hew rfl _ z8 q1 ?_; intro w7 q7 he))
     exact bodyPost_ret (ret_elem rfl _ _ (w.heap.size + 1) _ hew rfl q7) rfl ⟨rfl, HB1.out.trans (he.below (by omega))⟩
end
section
open Go.RowKit RM
theorem sbottomE_any (t : Bool) (A : Option Addr) (c : Nat) (fs : List Fac) (w : World) (hT : Tab w) (hF : Facs w A fs) :
 Calls Tryz.prog 38 #[.agg (sv t A fs.length c)] w fun x w' => x = .returned (.agg (uv (endE t fs botW))) ∧ Below w.heap.size w w' := by
 have z8 := EW.zeros
 have he8 := endE_ew t fs botW_lt
 have r0 : RowAt ((w.alloc (.cells (sv t A fs.length c) 53)).alloc (.cells (uv (List.replicate 8 0)) 41)) w.heap.size 53 (sv t A fs.length c) := (RowAt.new w _ _).alloc _
 have q0 : RowAt ((w.alloc (.cells (sv t A fs.length c) 53)).alloc (.cells (uv (List.replicate 8 0)) 41)) (w.heap.size + 1) 41 (uv (List.replicate 8 0)) := by
  have := RowAt.new (w.alloc (.cells (sv t A fs.length c) 53)) 41 (uv (List.replicate 8 0))
  simpa using this
 have HB0 : Hid (Below w.heap.size w ((w.alloc (.cells (sv t A fs.length c) 53)).alloc (.cells (uv (List.replicate 8 0)) 41))) := ((zB _ _).alloc (zL _) _).alloc (by simp) _
 have HEL : Hid (∀ W, Below w.heap.size w W → Calls Tryz.prog 75 #[.agg (sv t A fs.length c), .func (.func 76) #[] #[]] W fun x w' => x = .returned (.agg (uv (endE t fs botW))) ∧ Below W.heap.size W w') := fun W h =>
  selement_any t A c fs 76 (fun _ _ => by kernel_rfl) botW botW_lt W (hT.below h) (hF.below h) fun g W _ h1 h2 => sbottom_any g W h1 h2
 clear hF hT
 generalize endE t fs botW = res at *
 generalize fs.length = n at *
 rw [← zero_elem] at r0 q0 HB0
 go_enter Tryz.func38, Tryz.ntmps38
 go_upto_region 1 with fail
 rw [zero_elem] at r0 q0 HB0 ⊢
 generalize (w.alloc (.cells (sv t A n c) 53)).alloc (.cells (uv (List.replicate 8 0)) 41) = w0 at *
 go_wp2_with (refine wpList_loadShape (by rfl) _ rfl w.heap.size rfl t A n c r0 ?_)
 refine (HEL.out _ HB0.out).mono ?_
 rintro e w1 ⟨rfl, hb⟩
 have q1 := q0.below hb q0.lt
 have HB1 := zh (HB0.out.trans (hb.mono HB0.out.size))
 clear hb q0 r0 HB0
 go_wp2_with (refine wpList_storeElem (by rfl) _ _ rfl (w.heap.size + 1) rfl _ he8 rfl _ z8 q1 ?_; intro w2 q2 he)
 exact bodyPost_ret (ret_elem rfl _ _ (w.heap.size + 1) _ he8 rfl q2) rfl ⟨rfl, HB1.out.trans (he.below (by omega))⟩
end
section
open Go.RowKit RM
end
end Go.Proofs.YtnfndapgcpdcpaaGreatDoor
