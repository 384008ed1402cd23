/- Texts that SpellNodeCard need. Conditions: those that each states. -/

import Derived.Test.YtkgonoejnochjaaGreatDoorY18
import Derived.Test.YtkgonoejnochjaaGreatDoorY36
import Derived.Test.YtkgonoejnochjaaGreatDoorY49
set_option linter.unusedSimpArgs false
set_option linter.unusedVariables false
set_option maxRecDepth 8000
namespace Go.Proofs.YtkgonoejnochjaaGreatDoor
namespace SP
open TM
theorem nmd_yes {names : List ByteArray} {v i : Nat} (h : MM.hasN v (i : Int) = true) : nmdTo names v (i + 1) = nmdTo names v i ++ [⟨names.getD i ⟨#[]⟩, 0⟩] := by
 unfold nmdTo
 rw [List.range_succ, List.filter_append, List.map_append]
 congr 1
 simp [h]
theorem nmd_no {names : List ByteArray} {v i : Nat} (h : MM.hasN v (i : Int) = false) : nmdTo names v (i + 1) = nmdTo names v i := by
 unfold nmdTo
 rw [List.range_succ, List.filter_append, List.map_append]
 simp [h]
end SP
open Go.RowKit LX TR TM SP
set_option maxRecDepth 100000 in
set_option maxHeartbeats 1600000 in
theorem qnamed_any (A : Option Addr) (c : Nat) (names : List ByteArray) (v : Nat) (hv : v < 18446744073709551616) (w : World) (hn : names.length ≤ 2147483648) (hA : Strs w A names) :
 Calls Tryz.prog 64 #[.slice A names.length c, .int .u64 (v : Int)] w fun e w' => ∃ Y dd, e = .returned (.slice Y (nmd names v).length dd) ∧ (nmd names v).length ≤ dd ∧ SlC w' (fun k => w.heap.size ≤ k) Y (wcs (nmd names v)) ∧ Below w.heap.size w w' := by
 have HH := Lib.hid (fun (i : Nat) W => refHas_any v hv (i : Int) W)
 have HST : Hid (∀ W, Below w.heap.size w W → Strs W A names) := fun W h => hA.below h
 have HY := Lib.hid (fun i (h : MM.hasN v ((i : Nat) : Int) = true) => nmd_yes (names := names) h)
 have HNO := Lib.hid (fun i (h : MM.hasN v ((i : Nat) : Int) = false) => nmd_no (names := names) h)
 have HLE := Lib.hid (nmd_le names v)
 clear hA
 unfold nmd
 generalize hm : names.length = n at *
 have HN := Lib.hid hm; clear hm
 go_enter Tryz.func64, Tryz.ntmps64
 go_wp2_with fail
 go_loopw [5, 6] (fun ov iv wr => ∃ (i m : Nat) (Y : Option Addr) (dd : Nat), i ≤ n ∧ iv = .int .i64 i ∧ ov = .slice Y m dd ∧ Hid (m = (nmdTo names v i).length) ∧ m ≤ i ∧ Hid (wr.ownsRow w.heap.size 54 2 (.slice Y m dd) m (wcs (nmdTo names v i))) ∧ Hid (Below w.heap.size w wr)) (fun _ iv _ => n - (intOf iv).toNat)
 case atStart => exact ⟨0, 0, none, 0, by omega, rfl, rfl, rfl, by omega, World.ownsRow_nil _ _ _ _, Below.refl _ _⟩
 case round =>
  obtain ⟨i, m, Y, dd, hi, rfl, rfl, HM, hmi, HO, HW⟩ := hrel
  by_cases hlt : i < n
  ·obtain ⟨bb, o, rfl, hbb, hc⟩ := Sl.at_ (HST.out wr HW.out) (by
        intro h0
        have h1 := congrArg List.length h0
        unfold scells at h1
        rw [List.length_map, HN.out] at h1
        simp at h1
        omega)
   have q0 : wr.cell? ⟨bb, o + i, none⟩ = some (.string (names.getD i ⟨#[]⟩)) := hc i _ (by
        unfold scells
        rw [List.getElem?_map, List.getD_eq_getElem?_getD, List.getElem?_eq_getElem (by rw [HN.out]; exact hlt)]; rfl)
   have HC := Lib.hid (HH.out i wr)
   have HY2 := Lib.hid (HY.out i)
   have HN2 := Lib.hid (HNO.out i)
   have hin : (i : Int) < (n : Int) := by omega
   clear hc
   generalize MM.hasN v (i : Int) = hb at *
   generalize names.getD i ⟨#[]⟩ = s at *
   cases hb
   ·have HT := Lib.hid (HN2.out rfl)
    clear HY2 HN2
    go_wp2_with fail
    refine HC.out.mono ?_
    rintro e w' ⟨rfl, rfl⟩
    go_wp2_with fail
    go_roundw
    case rel => exact ⟨i + 1, m, Y, dd, by omega, by go_num, rfl, by show m = _; rw [HT.out]; exact HM.out, by omega, by rw [HT.out]; exact HO, HW⟩
    case measure => simp [intOf]; omega
   ·have HT := Lib.hid (HY2.out rfl)
    clear HY2 HN2
    go_wp2_with fail
    refine HC.out.mono ?_
    rintro e w' ⟨rfl, rfl⟩
    go_wp2_with (at_builtin; refine wpList_more _ rfl _ _ 25 rfl 54 (.agg #[.string ⟨#[]⟩, .int .i64 0]) 2 24 Tryz.underlying25 infoWord rfl (by decide) (by decide) w.heap.size Y m dd (wcs (nmdTo names v i)) rfl (own_below HO.out ((Below.refl _ _).alloc (Nat.le_refl _) _) (Nat.le_refl _)) wr.heap.size 1 1 (wcells ⟨s, 0⟩) rfl rfl (by decide) ?c0 (wc_one _) ?c2 ?c3 ?_; (case c0 => intro j u hu; rw [cell_of_row _ wr.heap.size j _ 54 (0, 0) (heap_alloc_new wr _)]; simpa [wcells] using hu); (case c2 => omega); (case c3 => have := HW.out.size; simp; omega); intro A2 c2 w2 hown2 hb2 _)
    go_roundw
    case rel =>
     refine ⟨i + 1, m + 1, A2, c2, by omega, by go_num, rfl, ?_, by omega, ?_, (HW.out.alloc HW.out.size _).trans hb2⟩
     ·show m + 1 = _
      rw [HT.out, List.length_append, ← HM.out]; rfl
     ·show w2.ownsRow _ _ _ _ _ _
      rw [HT.out, wcs_append, wcs_one]
      exact hown2
    case measure => simp [intOf]; omega
  ·obtain rfl : i = n := by omega
   have HCP := Lib.hid (own_cap_le HO.out)
   have HMM := HM.out
   go_wp2_with fail
   go_ret
   rw [← HMM]
   exact ⟨Y, dd, rfl, HCP.out, SlC.of_own HO.out fun k h _ => h, HW.out⟩
end Go.Proofs.YtkgonoejnochjaaGreatDoor
namespace Go.Proofs.YtkgonoejnochjaaGreatDoor
open Go.RowKit RM
end Go.Proofs.YtkgonoejnochjaaGreatDoor
namespace Go.Proofs.YtkgonoejnochjaaGreatDoor
open Go.RowKit RM
set_option maxHeartbeats 1000000 in
theorem qword7_any (f : Fac) (hv : facB f = true) (x : Nat) (hx : x < 18446744073709551616) (w : World) (hf : FacOk w f) :
 Calls Tryz.prog 63 #[.agg (fv f), .int .u64 (x : Int)] w fun e w' => e = .returned (.bool (wordB f x)) ∧ Below w.heap.size w w' := by
 have HRG : Hid (∀ w, Calls Tryz.prog 68 #[.int .i64 (f.names.length : Int), .int .u64 (x : Int)] w fun e w' => e = .returned (.tuple #[.int .i64 (RG.lv f.names.length x), .bool (RG.lvB f.names.length x)]) ∧ Below w.heap.size w w') := fun w => refLevel_any _ x w
 have HBL : Hid (∀ w, Calls Tryz.prog 101 #[.int .i64 (f.names.length : Int)] w fun e w' => e = .returned (.int .u64 (MM.belowN f.names.length : Int)) ∧ Below w.heap.size w w') := refBelow_any _
 have HSB : Hid (∀ w, Calls Tryz.prog 109 #[.int .u64 (x : Int), .int .u64 (MM.belowN f.names.length : Int)] w fun e w' => e = .returned (.bool (MM.subN x (MM.belowN f.names.length))) ∧ Below w.heap.size w w') := refSub_any _ _ hx (RG.rbelowN_lt _)
 have HGC : Hid (∀ w, Calls Tryz.prog 110 #[.agg (rv f.n f.l), .int .u64 (x : Int)] w fun e w' => e = .returned (.int .u64 ((gClose f.n f.l x : Nat) : Int)) ∧ Below w.heap.size w w') := fun w => qclose_any f.n f.l hf.rows x hx w
 have HPT : Hid (∀ w, Calls Tryz.prog 69 #[.agg (rv f.n f.l), .int .u64 (x : Int)] w fun e w' => e = .returned (.tuple #[.int .i64 (((ptO f.n f.l x).getD 0 : Nat) : Int), .bool (ptO f.n f.l x).isSome]) ∧ Below w.heap.size w w') := fun w => qpoint_any f.n f.l hf.rows x w
 have HG3 : Hid (f.kind = 3 → gClosed f.n f.l x = (((gClose f.n f.l x : Nat) : Int) == (x : Int))) := fun h => by
  rcases facB_kind hv with e | e | ⟨e, h2⟩ | ⟨e, _⟩
  ·omega
  ·omega
  ·unfold gClosed
   rw [h2, Bool.true_and, Bool.eq_iff_iff]
   simp
   omega
  ·omega
 have hF : wordB f x = if f.kind = 1 then RG.lvB f.names.length x else if f.kind = 2 then MM.subN x (MM.belowN f.names.length) else if f.kind = 3 then gClosed f.n f.l x else (ptO f.n f.l x).isSome := rfl
 clear hv
 have hl := hf.rows
 have r0 := RowAt.new w 51 (fv f)
 have HB0 : Hid (Below w.heap.size w (w.alloc (.cells (fv f) 51))) := (Below.refl _ _).alloc (Nat.le_refl _) _
 have HC : Hid (∀ W, RowAt W w.heap.size 51 (fv f) → W.cell? ⟨w.heap.size, 0, none⟩ = some (.int .i64 f.kind) ∧ W.cell? ⟨w.heap.size, 1, none⟩ = some (.slice f.A f.names.length f.c) ∧ W.cell? ⟨w.heap.size, 2, none⟩ = some (.int .i64 f.n) ∧ W.rangeAt w.heap.size 2 (rvl f.n f.l)) := fun W h => fac_cells h
 rw [hF]
 clear hF hf
 generalize fv f = V at *
 generalize f.kind = kd at *
 generalize f.n = n at *
 generalize f.l = l at *
 generalize f.A = A at *
 generalize f.c = c at *
 generalize RG.lv f.names.length x = lv1 at *
 generalize RG.lvB f.names.length x = b1 at *
 generalize MM.subN x (MM.belowN f.names.length) = b2 at *
 generalize MM.belowN f.names.length = bl at *
 generalize gClosed n l x = b3 at *
 generalize gClose n l x = g3 at *
 generalize (ptO n l x).isSome = b4 at *
 generalize (ptO n l x).getD 0 = k4 at *
 generalize f.names.length = m at *
 obtain ⟨c0, c1, c2, c3⟩ := HC.out _ r0
 by_cases e1 : kd = 1
 ·rw [if_pos e1]
  go_enter Tryz.func63, Tryz.ntmps63
  go_wp2_with fail
  refine (HRG.out _).mono ?_
  rintro e w1 ⟨rfl, hb⟩
  have r1 := r0.below hb r0.lt
  have HB1 := Lib.hid (HB0.out.trans (hb.mono HB0.out.size))
  go_wp2_with fail
  go_ret
  exact ⟨rfl, HB1.out⟩
 ·by_cases e2 : kd = 2
  ·rw [if_neg e1, if_pos e2]
   go_enter Tryz.func63, Tryz.ntmps63
   go_wp2_with fail
   refine (HBL.out _).mono ?_
   rintro e w1 ⟨rfl, hb⟩
   have r1 := r0.below hb r0.lt
   have HB1 := Lib.hid (HB0.out.trans (hb.mono HB0.out.size))
   go_wp2_with fail
   refine (HSB.out _).mono ?_
   rintro e w2 ⟨rfl, hb⟩
   have r2 := r1.below hb r1.lt
   have HB2 := Lib.hid (HB1.out.trans (hb.mono HB1.out.size))
   go_wp2_with fail
   go_ret
   exact ⟨rfl, HB2.out⟩
  ·by_cases e3 : kd = 3
   ·rw [if_neg e1, if_neg e2, if_pos e3]
    have HG := Lib.hid (HG3.out e3)
    go_enter Tryz.func63, Tryz.ntmps63
    go_wp2_with (refine wpList_loadRelIn (by rfl) _ rfl w.heap.size 2 rfl n l hl c3 ?_)
    refine (HGC.out _).mono ?_
    rintro e w1 ⟨rfl, hb⟩
    have r1 := r0.below hb r0.lt
    have HB1 := Lib.hid (HB0.out.trans (hb.mono HB0.out.size))
    go_wp2_with fail
    go_ret
    exact ⟨ret_eq (bool_eq HG.out.symm), HB1.out⟩
   ·rw [if_neg e1, if_neg e2, if_neg e3]
    go_enter Tryz.func63, Tryz.ntmps63
    go_wp2_with (refine wpList_loadRelIn (by rfl) _ rfl w.heap.size 2 rfl n l hl c3 ?_)
    refine (HPT.out _).mono ?_
    rintro e w1 ⟨rfl, hb⟩
    have r1 := r0.below hb r0.lt
    have HB1 := Lib.hid (HB0.out.trans (hb.mono HB0.out.size))
    go_wp2_with fail
    go_ret
    exact ⟨rfl, HB1.out⟩
end Go.Proofs.YtkgonoejnochjaaGreatDoor
namespace Go.Proofs.YtkgonoejnochjaaGreatDoor
open Go.RowKit RM
theorem fits_slot_no {t : Bool} {fs : List Fac} {e : List Nat} {k : Nat} (hk : k < 8) (h : slotB fs e k = false) : fitsE t fs e = false := by
 unfold fitsE
 rw [show (List.range 8).all (slotB fs e) = false by
  rw [List.all_eq_false]
  exact ⟨k, List.mem_range.2 hk, by rw [h]; simp⟩, Bool.and_false]
set_option maxRecDepth 20000 in
set_option maxHeartbeats 4000000 in
theorem qfitsE_any (t : Bool) (A : Option Addr) (c : Nat) (fs : List Fac) (e : List Nat) (he : EW e) (w : World) (hF : Facs w A fs) :
 Calls Tryz.prog 28 #[.agg (sv t A fs.length c), .agg (uv e)] w fun x w' => x = .returned (.bool (fitsE t fs e)) ∧ Below w.heap.size w w' := by
 have r0 : RowAt ((w.alloc (.cells (sv t A fs.length c) 24)).alloc (.cells (uv e) 34)) w.heap.size 24 (sv t A fs.length c) := (RowAt.new w _ _).alloc _
 have q0 : RowAt ((w.alloc (.cells (sv t A fs.length c) 24)).alloc (.cells (uv e) 34)) (w.heap.size + 1) 34 (uv e) := by
  have := RowAt.new (w.alloc (.cells (sv t A fs.length c) 24)) 34 (uv e)
  simpa using this
 have HB0 : Hid (Below w.heap.size w ((w.alloc (.cells (sv t A fs.length c) 24)).alloc (.cells (uv e) 34))) := ((Below.refl _ _).alloc (Nat.le_refl _) _).alloc (by simp) _
 have HRI : Hid (∀ W, Below w.heap.size w W → Calls Tryz.prog 19 #[.agg (sv t A fs.length c)] W fun x w' => x = .returned (.bool (rightS t fs)) ∧ Below W.heap.size W w') := fun W h => qright7_any t A c fs W (hF.below h)
 have HSH : Hid (∀ W, RowAt W w.heap.size 24 (sv t A fs.length c) → W.cell? ⟨w.heap.size, 0, none⟩ = some (.bool t) ∧ W.cell? ⟨w.heap.size, 1, none⟩ = some (.slice A fs.length c)) := fun W h => shape_cells h
 have HF : Hid (∀ W, Below w.heap.size w W → Facs W A fs) := fun W h => hF.below h
 clear hF
 cases hr : rightS t fs with
 | false =>
   rw [fits_no hr]
   rw [hr] at HRI
   clear hr HF
   generalize fs.length = n at *
   go_enter Tryz.func28, Tryz.ntmps28
   go_upto_region 1 with fail
   generalize (w.alloc (.cells (sv t A n c) 24)).alloc (.cells (uv e) 34) = w0 at *
   go_wp2_with (refine wpList_loadShape (by rfl) _ rfl w.heap.size rfl t A n c r0 ?_)
   refine (HRI.out _ HB0.out).mono ?_
   rintro e w1 ⟨rfl, hb⟩
   have HB1 := Lib.hid (HB0.out.trans (hb.mono HB0.out.size))
   go_wp2_with fail
   go_ret
   exact ⟨rfl, HB1.out⟩
 | true =>
   have HV : Hid (∀ k, k < fs.length → facB (fs.getD k f0) = true) := fun k hk => right_fac hr hk
   have HBAD : Hid (∀ k, k < 8 → slotB fs e k = false → fitsE t fs e = false) := fun k hk h => fits_slot_no hk h
   have HEND : Hid ((∀ k, k < 8 → slotB fs e k = true) → fitsE t fs e = true) := fun h => fits_iff.2 ⟨hr, h⟩
   have HSI : Hid (∀ k, k < fs.length → slotB fs e k = wordB (fs.getD k f0) (e.getD k 0)) := fun k hk => slot_in hk
   have HSO : Hid (∀ k, ¬ k < fs.length → slotB fs e k = (e.getD k 0 == 0)) := fun k hk => by unfold slotB; rw [if_neg hk]
   have HEA : Hid (∀ k, k < 8 → (uv e)[k]? = some (.int .u64 ((e.getD k 0 : Nat) : Int))) := fun k hk => ev_at he k hk
   have HLT := Lib.hid he.lt
   have h8 := (right_len hr).2
   rw [hr] at HRI
   clear hr he
   generalize slotB fs e = sl at *
   generalize fitsE t fs e = res at *
   generalize hn : fs.length = n at *
   have HN := Lib.hid hn; clear hn
   generalize uv e = U at *
   go_enter Tryz.func28, Tryz.ntmps28
   go_upto_region 1 with fail
   generalize (w.alloc (.cells (sv t A n c) 24)).alloc (.cells U 34) = w0 at *
   go_wp2_with (refine wpList_loadShape (by rfl) _ rfl w.heap.size rfl t A n c r0 ?_)
   refine (HRI.out _ HB0.out).mono ?_
   rintro e w1 ⟨rfl, hb⟩
   have r1 := r0.below hb r0.lt
   have q1 := q0.below hb q0.lt
   have HB1 := Lib.hid (HB0.out.trans (hb.mono HB0.out.size))
   clear hb r0 q0 HB0
   go_wp2_with fail
   clear HRI
   go_loopw [5] (fun kv wr => ∃ k : Nat, k ≤ 8 ∧ kv = .int .i64 k ∧ RowAt wr w.heap.size 24 (sv t A n c) ∧ RowAt wr (w.heap.size + 1) 34 U ∧ Hid (∀ j, j < k → sl j = true) ∧ Hid (Below w.heap.size w wr)) (fun kv _ => 8 - (intOf kv).toNat)
   case atStart => exact ⟨0, by omega, rfl, r1, q1, fun j hj => by omega, HB1⟩
   case round =>
    clear r1 q1 HB1
    obtain ⟨k, hk, rfl, r1, q1, HK, HB1⟩ := hrel
    by_cases hk8n : k < 8
    ·have hk8 : (k : Int) < 8 := by omega
     have HKN : Hid (sl k = true → ∀ j, j < k + 1 → sl j = true) := fun h j hj => by
      by_cases e : j = k
      ·subst e; exact h
      ·exact HK.out j (by omega)
     have HR := Lib.hid (HBAD.out k hk8n)
     have HEA2 := Lib.hid (HEA.out k hk8n)
     have hx := HLT.out k
     obtain ⟨S, HS, pW, keepS⟩ := ex_gen wr
     have PR : Hid (∀ w', S w' → RowAt w' w.heap.size 24 (sv t A n c)) := fun w' h => r1.below (pW w' h) r1.lt
     have PQ : Hid (∀ w', S w' → RowAt w' (w.heap.size + 1) 34 U) := fun w' h => q1.below (pW w' h) q1.lt
     have cS : ∀ w', S w' → w'.cell? ⟨w.heap.size, 1, none⟩ = some (.slice A n c) := fun w' h => (HSH.out _ (PR.out w' h)).2
     have cE : ∀ w', S w' → w'.cell? ⟨w.heap.size + 1, k, none⟩ = some (.int .u64 ((e.getD k 0 : Nat) : Int)) := fun w' h => ((PQ.out w' h).cell k).trans HEA2.out
     have PB : Hid (∀ w', S w' → Below w.heap.size w w') := fun w' h => HB1.out.trans ((pW w' h).mono HB1.out.size)
     clear pW r1 q1
     by_cases hlt : k < n
     ·have hFk := HF.out _ HB1.out
      obtain ⟨b, o, rfl, _, hr⟩ := hFk.at (k := k) (by rw [HN.out]; exact hlt)
      have hrg := hr k (by rw [HN.out]; exact hlt)
      have hl := (hFk.okAt (i := k) (by rw [HN.out]; exact hlt)).rows
      have HOK : Hid (∀ W, Below w.heap.size w W → FacOk W (fs.getD k f0)) := fun W h => (HF.out W h).okAt (by rw [HN.out]; exact hlt)
      clear hr hFk
      clear HB1
      have hsl := HSI.out k hlt
      have hv := HV.out k hlt
      have hkn : decide ((k : Int) < (n : Int)) = true := decide_eq_true (by omega)
      have hkn2 : decide ((n : Int) ≤ (k : Int)) = false := decide_eq_false (by omega)
      have hkn3 : decide (n ≤ k) = false := decide_eq_false (by omega)
      have HWF : Hid (∀ W, Below w.heap.size w W → Calls Tryz.prog 63 #[.agg (fv (fs.getD k f0)), .int .u64 ((e.getD k 0 : Nat) : Int)] W fun x w' => x = .returned (.bool (wordB (fs.getD k f0) (e.getD k 0))) ∧ Below W.heap.size W w') := fun W h => qword7_any _ hv _ hx W (HOK.out W h)
      have HRG : Hid (∀ W, Below w.heap.size w W → W.rangeAt b (o + k * 67) (fcells (fs.getD k f0))) := fun W h => (HF.out W h).rng (by rw [HN.out]; exact hlt)
      have pF := fun w' h => HRG.out w' (PB.out w' h)
      rw [hsl] at HR HKN
      clear hsl hv hx HOK HRG hrg
      generalize wordB (fs.getD k f0) (e.getD k 0) = bw at *
      generalize e.getD k 0 = x at *
      generalize fs.getD k f0 = f at *
      go_wp2_with fail
      cases bw
      all_goals
       refine wp_region_ord S [(0, true), (1, true), (2, true), (3, true), (4, true), (5, true), (6, true), (7, true), (8, true), (9, true), (10, true), (11, true), (12, true), (13, true), (14, false), (15, true), (16, true), (17, true), (18, true), (19, true), (20, true), (21, true), (22, true), (23, true), (24, true), (25, true), (26, true), (27, true), (28, true), (29, true)] (by kernel_rfl) (by kernel_rfl) rfl (by kernel_rfl) HS.out ?_
       generalize wr.drew = V at HS ⊢
       iterate 14
        (refine wpOrd_step (o := ?_) ?_ ?_; rotate_left 1; (simp only [zA1, zA2, zA3]; with_reducible rfl))
        (first
         | (refine wpOrd_skip (by rfl) ?_)
         | (refine wpOrd_take (by rfl) (take_loadFacIn _ rfl _ _ rfl _ hl pF) ?_)
         | (refine wpOrd_take (v := ?_) (by rfl) ?_ ?_; rotate_left 1; (intro wx hSx; have hc_0 := cS wx hSx; have hc_1 := cE wx hSx; go_simp; try with_reducible rfl)))
        (try simp only [Act.put, zA4, zA5, zA6])
       (refine wpOrd_solo (o := ?_) ?_ ?_; rotate_left 1; (simp only [zA1, zA2, zA3]; with_reducible rfl))
       intro K hK
       go_simp
       go_at_call 63
       refine (HWF.out _ (PB.out _ HS.out)).mono ?_
       rintro e w5 ⟨rfl, hb⟩
       have hS := keepS _ _ HS.out hb
       clear HS
       have HS := Lib.hid hS; clear hS hb
       refine hK.out _ _ HS.out ?_
       clear hK K
       (try simp only [Act.put, zA4, zA5, zA6])
       iterate 15
        (refine wpOrd_step (o := ?_) ?_ ?_; rotate_left 1; (simp only [zA1, zA2, zA3]; with_reducible rfl))
        (first
         | (refine wpOrd_skip (by rfl) ?_)
         | (refine wpOrd_take (v := ?_) (by rfl) ?_ ?_; rotate_left 1; (intro wx hSx; have hc_0 := cS wx hSx; have hc_1 := cE wx hSx; go_simp; try with_reducible rfl)))
        (try simp only [Act.put, zA4, zA5, zA6])
       refine wpOrd_done ?_
       have HB5 := Lib.hid (PB.out _ HS.out)
       have r5 := PR.out _ HS.out
       have q5 := PQ.out _ HS.out
       clear pF cS cE PB PR PQ HS keepS hkn hkn2 hkn3
      ·have HR2 := Lib.hid (HR.out rfl)
       clear HR HKN
       go_wp2_with fail
       go_ret
       exact ⟨ret_eq (bool_eq HR2.out.symm), HB5.out⟩
      ·have HKN2 := Lib.hid (HKN.out rfl)
       clear HR HKN
       go_wp2_with fail
       go_roundw
       case rel => exact ⟨k + 1, by omega, by go_num, r5, q5, HKN2, HB5⟩
       case measure => simp [intOf]; omega
     ·clear HB1
      have hsl := HSO.out k hlt
      have hkn : decide ((k : Int) < (n : Int)) = false := decide_eq_false (by omega)
      have hkn2 : decide ((n : Int) ≤ (k : Int)) = true := decide_eq_true (by omega)
      have hkn3 : decide (n ≤ k) = true := decide_eq_true (by omega)
      rw [hsl] at HR HKN
      clear hsl
      have hxb : (((e.getD k 0 : Nat) : Int) != 0) = !(e.getD k 0 == 0) := by
       rw [Bool.eq_iff_iff]; simp
      generalize (e.getD k 0 == 0) = bw at *
      generalize e.getD k 0 = x at *
      go_wp2_with fail
      cases bw
      all_goals
       simp only [Bool.not_true, Bool.not_false] at hxb
       refine wp_region_ord S [(0, true), (1, true), (2, true), (3, true), (4, true), (5, true), (6, true), (7, true), (8, true), (9, true), (10, true), (11, true), (12, true), (13, true), (14, false), (15, true), (16, true), (17, true), (18, true), (19, true), (20, true), (21, true), (22, true), (23, true), (24, true), (25, true), (26, true), (27, true), (28, true), (29, true)] (by kernel_rfl) (by kernel_rfl) rfl (by kernel_rfl) HS.out ?_
       generalize wr.drew = V at HS ⊢
       iterate 14
        (refine wpOrd_step (o := ?_) ?_ ?_; rotate_left 1; (simp only [zA1, zA2, zA3]; with_reducible rfl))
        (first
         | (refine wpOrd_skip (by rfl) ?_)
         | (refine wpOrd_take (v := ?_) (by rfl) ?_ ?_; rotate_left 1; (intro wx hSx; have hc_0 := cS wx hSx; have hc_1 := cE wx hSx; go_simp; try with_reducible rfl)))
        (try simp only [Act.put, zA4, zA5, zA6])
       (refine wpOrd_solo (o := ?_) ?_ ?_; rotate_left 1; (simp only [zA1, zA2, zA3]; with_reducible rfl))
       intro K hK
       go_simp
       refine hK.out _ _ HS.out ?_
       clear hK K
       (try simp only [Act.put, zA4, zA5, zA6])
       iterate 15
        (refine wpOrd_step (o := ?_) ?_ ?_; rotate_left 1; (simp only [zA1, zA2, zA3]; with_reducible rfl))
        (first
         | (refine wpOrd_skip (by rfl) ?_)
         | (refine wpOrd_take (v := ?_) (by rfl) ?_ ?_; rotate_left 1; (intro wx hSx; have hc_0 := cS wx hSx; have hc_1 := cE wx hSx; go_simp; try with_reducible rfl)))
        (try simp only [Act.put, zA4, zA5, zA6])
       refine wpOrd_done ?_
       have HB5 := Lib.hid (PB.out _ HS.out)
       have r5 := PR.out _ HS.out
       have q5 := PQ.out _ HS.out
       clear cS cE PB PR PQ HS keepS hkn hkn2 hkn3 hxb
      ·have HR2 := Lib.hid (HR.out rfl)
       clear HR HKN
       go_wp2_with fail
       go_ret
       exact ⟨ret_eq (bool_eq HR2.out.symm), HB5.out⟩
      ·have HKN2 := Lib.hid (HKN.out rfl)
       clear HR HKN
       go_wp2_with fail
       go_roundw
       case rel => exact ⟨k + 1, by omega, by go_num, r5, q5, HKN2, HB5⟩
       case measure => simp [intOf]; omega
    ·have e1 : k = 8 := by omega
     subst e1
     have HE2 := Lib.hid (HEND.out HK.out)
     go_wp2_with fail
     go_ret
     exact ⟨ret_eq (bool_eq HE2.out.symm), HB1.out⟩
end Go.Proofs.YtkgonoejnochjaaGreatDoor
namespace Go.Proofs.YtkgonoejnochjaaGreatDoor
open Go.RowKit RM
end Go.Proofs.YtkgonoejnochjaaGreatDoor

