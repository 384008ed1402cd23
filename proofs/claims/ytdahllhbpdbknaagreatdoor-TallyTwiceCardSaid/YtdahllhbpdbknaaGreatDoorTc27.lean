/- Texts that all the claims need. Conditions: those that each states. -/

import Derived.Test.YtdahllhbpdbknaaGreatDoorTc14
import Derived.Test.YtdahllhbpdbknaaGreatDoorTc26
set_option linter.unusedSimpArgs false
set_option linter.unusedVariables false
set_option maxRecDepth 100000
set_option maxHeartbeats 40000000
namespace Go.Proofs.YtdahllhbpdbknaaGreatDoor
section
open Go.RowKit RM Go.Maps
theorem tablesOf_any (t : Bool) (A : Option Addr) (c : Nat) (fs : List Fac) (w : World) (hT : Tab w) (hF : Facs w A fs) :
 Calls Tryz.prog 42 #[.agg (sv t A fs.length c)] w fun e w' => ((rightS t fs = false ∧ e = .returned (.slice none 0 0)) ∨ (rightS t fs = true ∧ ∃ tb, e = .returned (.slice (some ⟨tb, 0, none⟩) 8 8) ∧ TblsAt w' w.heap.size tb fs)) ∧ Below w.heap.size w w' := by
 have hr1 := RowAt.new w 24 (sv t A fs.length c)
 have hb1 : Below w.heap.size w (w.alloc (.cells (sv t A fs.length c) 24)) := (zB _ _).alloc (zL _) _
 have HRT := zh (sright_any t A c fs _ (hT.below hb1) (hF.below hb1))
 obtain ⟨c0, c1⟩ := shape_cells hr1
 have HB1 := zh hb1
 have hs1 : (w.alloc (.cells (sv t A fs.length c) 24)).heap.size = w.heap.size + 1 := by simp
 have HS1 := zh hs1; clear hs1
 have HR1 := zh hr1
 have HF : Hid (∀ W, Below w.heap.size w W → Facs W A fs) := zh fun W h => hF.below h
 clear hb1 hF hT hr1
 refine cHid fun Q' hQ => ?_
 have HQ := zh hQ; clear hQ
 go_enter Tryz.func42, Tryz.ntmps42
 cases hrt : rightS t fs with
 | false =>
   rw [hrt] at HRT HQ
   clear hrt
   go_wp2_with (go_at_call 60; refine HRT.out.mono ?_; rintro e w2 ⟨rfl, hb2⟩; have HB2 := zh hb2; clear hb2)
   exact HQ.out _ _ ⟨.inl ⟨by trivial, rfl⟩, HB1.out.trans (HB2.out.mono HB1.out.size)⟩
 | true =>
   rw [hrt] at HRT HQ
   have hr8 : fs.length ≤ 8 ∧ ∀ f ∈ fs, facB f = true := by
    unfold rightS at hrt
    simp only [Bool.and_eq_true, decide_eq_true_eq, List.all_eq_true] at hrt
    exact ⟨hrt.1.1.2, hrt.2⟩
   clear hrt
   have HFB := zh hr8.2
   have h8 := hr8.1
   clear hr8
   obtain ⟨i0, hi, hz0, hz1, hz2⟩ := info_parts infoTb
   have hbytes : i0.bytes * 8 ≤ 281474976710656 := by rw [hz2]; omega
   have h8l : (8 : Nat) ≤ maxLen := by unfold maxLen; omega
   go_wp2_with (first
    | (go_at_call 60; refine HRT.out.mono ?_; rintro e w2 ⟨rfl, hb2⟩; have HB2 := zh hb2; clear hb2; have hle2 := HB2.out.size)
    | (at_make; refine wpList_make_full _ rfl _ _ 98 rfl w2.heap.size 104 i0 _ 2 Tryz.underlying98 hi hz0 hz1 .i64 .i64 _ _ 8 rfl rfl rfl rfl hbytes h8l (zL _) ?_; intro w3 hown hgr; obtain ⟨c0', c1'⟩ := shape_cells ((HR1.out.below HB2.out HR1.out.lt).grown hgr (by intro e; cases e)); have HO3 := zh (own_full hown); have HB3 : Hid (Below w2.heap.size w2 w3) := zh ((zB w2.heap.size w2).grown hgr (zL _) (fun j hj => by cases hj)); clear hown hgr))
   have HTK0 : Hid (TK w3 (w2.heap.size + 1) fs 0 (madeCells (Value.agg #[.map none, .slice none 0 0]).cells (8 * 2)).toList.toArray) := zh (TK.zero _ _ _ (by kernel_rfl) (fun i hi => by
    match i, hi with
    | 0, _ => exact ⟨by kernel_rfl, by kernel_rfl⟩
    | 1, _ => exact ⟨by kernel_rfl, by kernel_rfl⟩
    | 2, _ => exact ⟨by kernel_rfl, by kernel_rfl⟩
    | 3, _ => exact ⟨by kernel_rfl, by kernel_rfl⟩
    | 4, _ => exact ⟨by kernel_rfl, by kernel_rfl⟩
    | 5, _ => exact ⟨by kernel_rfl, by kernel_rfl⟩
    | 6, _ => exact ⟨by kernel_rfl, by kernel_rfl⟩
    | 7, _ => exact ⟨by kernel_rfl, by kernel_rfl⟩
    | i + 8, hi => omega))
   generalize (madeCells (Value.agg #[.map none, .slice none 0 0]).cells (8 * 2)).toList.toArray = cur0 at *
   have h12 := HB1.out.size
   have HB03 : Hid (Below w.heap.size w w3) := zh ((HB1.out.trans (HB2.out.mono (by rw [HS1.out]; omega))).trans (HB3.out.mono (by rw [HS1.out] at hle2; omega)))
   have hgt : w.heap.size ≤ w2.heap.size := by omega
   obtain ⟨gt, hgt2⟩ : ∃ gt, gt = w2.heap.size := ⟨_, rfl⟩
   rw [← hgt2] at HO3 HTK0 hgt ⊢
   have HGT := zh hgt
   clear hgt hgt2 h12 hle2 HB2 HB3 HS1 HB1 HR1 HRT c0 c1 c0' c1' hi hz0 hz1 hz2 hbytes h8l
   obtain ⟨n, hn⟩ : ∃ n, n = fs.length := ⟨_, rfl⟩
   have HN := zh hn
   rw [← hn] at h8 ⊢
   clear hn
   go_loopw [4, 5, 13] (fun _ _ kv wr => ∃ (k : Nat) (cur : Array Value), k ≤ n ∧ kv = .int .i64 k ∧ Hid (RowAt wr gt 104 cur) ∧ Hid (TK wr (gt + 1) fs k cur) ∧ Hid (Below w.heap.size w wr)) (fun _ _ kv _ => n - (intOf kv).toNat)
   case atStart => exact ⟨0, cur0, by omega, rfl, HO3, HTK0, HB03⟩
   case round =>
    clear HO3 HTK0 HB03
    obtain ⟨k, cur, hk, rfl, HR, HTK, HB⟩ := hrel
    by_cases hlt : k < n
    ·have hFk := HF.out _ HB.out
     obtain ⟨b, o, rfl, _, hr⟩ := hFk.at (k := k) (by rw [← HN.out]; exact hlt)
     have hrg := hr k (by rw [← HN.out]; exact hlt)
     have hl := (hFk.okAt (i := k) (by rw [← HN.out]; exact hlt)).rows
     have HV := zh (HFB.out _ (getD_memF (i := k) (by rw [← HN.out]; exact hlt)))
     clear hr hFk
     have HSK := zh fun (h : ¬ (fs.getD k f0).kind = 4) => HTK.out.skip h
     have HPT := zh fun W mb jb c (h : TK W (gt + 1) fs k cur) (hk : (fs.getD k f0).kind = 4) (hT : TabAt W (gt + 1) mb jb (fs.getD k f0).n (fs.getD k f0).l) => h.put (c := c) hk hT
     have HSZ := zh HTK.out.1
     generalize fs.getD k f0 = f at *
     have hgl := HR.out.lt
     go_upto_region 7 with (first
      | (refine wpList_loadFacIn (by rfl) _ rfl b (o + k * 67) rfl f hl hrg ?_)
      | (refine wpList_storeFac (by rfl) _ _ rfl wr.heap.size rfl f hl rfl _ zero_fac_size (RowAt.new _ _ _) ?_; intro w4 r4 he; have HB4 : Hid (Below wr.heap.size wr w4) := zh (((zB _ _).alloc (zL _) _).trans (he.below (zL _))); have HR4 := zh r4; clear he r4))
     obtain ⟨k0, _, _, k3⟩ := fac_cells HR4.out
     have HR5 := zh (HR.out.below HB4.out hgl)
     have HTK5 := zh (HTK.out.same fun b _ hb => HB4.out.block b hb)
     have HB5 : Hid (Below w.heap.size w w4) := zh (HB.out.trans (HB4.out.mono HB.out.size))
     have hg4 := HB4.out.size
     have hsl : gt + 1 ≤ w4.heap.size := by omega
     have HSL := zh hsl; clear hsl hg4
     by_cases h4 : f.kind = 4
     ·have hlat : latB f.n f.l = true := by
       rcases facB_kind HV.out with h | h | h | h
       ·omega
       ·omega
       ·omega
       ·exact h.2
      have HTO := zh (tableOf_any f.n f.l hl hlat w4)
      have HPT2 := zh fun W mb jb c h hT => HPT.out W mb jb c h h4 hT
      have hk4 : (f.kind == 4) = true := by rw [h4]; rfl
      obtain ⟨m0, s0, hm, hs, _⟩ := HTK.out.2 k (by omega)
      have HM0 := zh hm; have HS0 := zh hs; clear hm hs
      clear hlat HPT HSK h4 HV
      generalize f.kind = kd at *
      generalize f.n = nf at *
      generalize f.l = lf at *
      have hkn : (k : Int) < 8 := by omega
      go_wp2_with (first
       | (refine wpList_loadRelIn (by rfl) _ rfl wr.heap.size 2 rfl nf lf hl k3 ?_)
       | (go_at_call 61; refine HTO.out.mono ?_; rintro e w6 ⟨mb, jb, jc, rfl, hta, hb6⟩; have HTA := zh hta; have HB6 := zh hb6; clear hta hb6; have HR6 := zh (HR5.out.below HB6.out HR5.out.lt); have e0 := (HR6.out.cell (k * 2)).trans HM0.out; have e1 := (HR6.out.cell (k * 2 + 1)).trans HS0.out; have z0 := HR6.out.free (k * 2); have z1 := HR6.out.free (k * 2 + 1)))
      have HE : Hid (Mut gt w6 ((w6.setCell ⟨gt, k * 2, none⟩ (.map (some mb))).setCell ⟨gt, k * 2 + 1, none⟩ (.slice (some ⟨jb, 0, none⟩) (pts nf) jc))) := zh ((Mut.of_set w6 gt _ _).trans (Mut.of_set _ gt _ _))
      have hsl := HSL.out
      go_roundw
      case rel =>
       refine ⟨k + 1, _, by omega, by go_num, zh ((HR6.out.put (k * 2) (.map (some mb))).put (k * 2 + 1) (.slice (some ⟨jb, 0, none⟩) (pts nf) jc)), zh (HPT2.out _ mb jb jc ?_ ?_), zh ((HB5.out.trans (HB6.out.mono HB5.out.size)).trans (HE.out.below HGT.out (zM HB5.out.size HB6.out.size)))⟩
       ·exact HTK5.out.same fun b h1 h2 => (HE.out.block b (zT h2 HB6.out.size) (by omega)).trans (HB6.out.block b h2)
       ·exact (HTA.out.mono hsl).mut HE.out (by omega)
      case measure => simp [intOf]; omega
     ·have HS2 := zh fun W (h : TK W (gt + 1) fs k cur) => HSK.out
      have hk4 : (f.kind == 4) = false := by simpa using h4
      have HSK2 := zh (HSK.out h4)
      clear HPT HSK h4 HV HS2
      generalize f.kind = kd at *
      go_wp2_with fail
      go_roundw
      case rel =>
       exact ⟨k + 1, cur, by omega, by go_num, HR5, zh (HSK2.out.same fun b _ hb => HB4.out.block b hb), HB5⟩
      case measure => simp [intOf]; omega
    ·obtain rfl : k = n := by omega
     go_wp2_with fail
     refine HQ.out _ _ ⟨.inr ⟨by trivial, gt, rfl, ?_⟩, HB.out⟩
     have h2 : TblsAt wr gt gt fs := ⟨cur, zL _, HR.out, by
      rw [← HN.out]
      exact HTK.out.mono (by omega)⟩
     exact h2.mono HGT.out
end
end Go.Proofs.YtdahllhbpdbknaaGreatDoor
