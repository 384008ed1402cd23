/- Texts that all the claims need. Conditions: those that each states. -/
import Derived.Carry
import Derived.ChangeArms
import Derived.Deep.DeepHandedRow
import Derived.Deep.Slices
import Derived.OpenShut
import Derived.ProofKit
import Derived.SliceStrings
import Derived.Test.YtppcjocmjpbmmaaGreatDoorCk23
set_option linter.unusedSimpArgs false
set_option linter.unusedVariables false
set_option maxRecDepth 100000
set_option maxHeartbeats 40000000
namespace Go.Proofs.YtppcjocmjpbmmaaGreatDoor
section
open Go.ChangeShapes Go.WideShapes Go.ChangeAt Go.RowKit RM
theorem runG_ew {J M : List Nat → List Nat → List Nat} (hJ : ∀ a b, EW a → EW b → EW (J a b)) (hM : ∀ a b, EW a → EW b → EW (M a b)) {v : List (List Nat)} (hv : ∀ e ∈ v, EW e) :
 ∀ (l : List In) (st : List (List Nat)) (sz mx m s : Nat) (st' : List (List Nat)), roomG l sz mx = some (m, s) → st.length = sz → (∀ e ∈ st, EW e) → runG J M v l st = some st' → (∀ e ∈ st', EW e) ∧ st'.length = s
 | [], st, sz, mx, m, s, st', h, hl, he, hr => by
   unfold roomG at h
   unfold runG at hr
   simp only [Option.some.injEq, Prod.mk.injEq] at h hr
   subst hr
   exact ⟨he, by omega⟩
 | i :: l, st, sz, mx, m, s, st', h, hl, he, hr => by
   unfold roomG at h
   unfold runG at hr
   by_cases h1 : i.op = 1
   ·rw [if_pos (.inl h1)] at h
    rw [if_pos h1] at hr
    split at hr
    ·rename_i hn
     refine runG_ew hJ hM hv l _ _ _ _ _ _ h (by rw [zA7, hl]; rfl) (fun e hm => ?_) hr
     rcases List.mem_append.1 hm with hm | hm
     ·exact he e hm
     ·rw [List.mem_singleton] at hm
      subst hm
      exact hv _ (eget_mem (by omega))
    ·cases hr
   ·rw [if_neg h1] at hr
    by_cases h2 : i.op = 2
    ·rw [if_pos (.inr h2)] at h
     rw [if_pos h2] at hr
     refine runG_ew hJ hM hv l _ _ _ _ _ _ h (by rw [zA7, hl]; rfl) (fun e hm => ?_) hr
     rcases List.mem_append.1 hm with hm | hm
     ·exact he e hm
     ·rw [List.mem_singleton] at hm
      subst hm
      exact i.e.2
    ·rw [if_neg (fun h => by rcases h with h | h <;> contradiction)] at h
     rw [if_neg h2] at hr
     split at h
     ·split at h
      ·cases h
      ·rename_i hn
       have hk : st.length - i.n.toNat + (i.n.toNat - 1) < st.length := by omega
       refine runG_ew hJ hM hv l _ _ _ _ _ _ h (by rw [repS_len _ _ (by omega)]; omega) ?_ hr
       split
       ·exact repS_ew hJ he hk
       ·exact repS_ew hM he hk
     ·cases h
theorem evG_ew (fs : List Fac) {v : List (List Nat)} (hv : ∀ e ∈ v, EW e) (l : List In) : EW ((evG fs v l).getD z8) := by
 unfold evG
 split
 ·rename_i hr
  cases hg : roomG l 0 0 with
  | none => rw [hg] at hr; cases hr
  | some r =>
    obtain ⟨m, s⟩ := r
    rw [hg] at hr
    have hs : s = 1 := by simpa [rgtB] using hr
    cases hrun : runG (joinE fs) meetE v l [] with
    | none => exact EW.zeros
    | some st =>
      have := runG_ew (fun a b ha hb => joinE_ew fs ha hb) (fun a b ha _ => meetE_ew b ha) hv l [] 0 0 m s st hg rfl (by simp) hrun
      exact this.1 _ (eget_mem (by omega))
 ·exact EW.zeros
theorem codeRuns_pre (t : Bool) (SA : Option Addr) (sc : Nat) (fs : List Fac) (LA : Option Addr) (lc : Nat) (l : List In) (VA : Option Addr) (vc : Nat) (v : List (List Nat)) (w : World) (hT : Tab w) (hF : Facs w SA fs) (hL : Ls insC w LA l)
 (hV : Sl w w.heap.size VA (escells v)) (hE : ∀ e ∈ v, EW e)
 (HALV : ∀ W, Below w.heap.size w W → Calls Tryz.prog 5 #[] W fun e w' => e = .returned (.bool true) ∧ Below W.heap.size W w') :
 Calls Tryz.prog 3 #[.agg (sv t SA fs.length sc), .slice LA l.length lc, .slice VA v.length vc] w fun e w' => e = .returned (.bool true) ∧ Below w.heap.size w w' := by
 have r0 := RowAt.new w 24 (sv t SA fs.length sc)
 have hb : Below w.heap.size w (w.alloc (.cells (sv t SA fs.length sc) 24)) := (zB _ _).alloc (zL _) _
 have HSZ := zh (show w.heap.size ≤ w.heap.size from zL _)
 refine cHid fun Q' hQ => ?_
 have HQ := zh hQ; clear hQ
 have HBG : Hid (∀ W, Below w.heap.size w W → Calls Tryz.prog 4 #[.agg (sv t SA fs.length sc)] W fun x w' => x = .returned (.bool (bigShB fs)) ∧ Below W.heap.size W w') := fun W h => bigS_any t SA sc fs W (hF.below h)
 have HAL := zh HALV
 have HLN : Hid (l.length ≤ 200 → v.length ≤ 100 → ∀ W, Below w.heap.size w W → Calls Tryz.prog 6 #[.agg (sv t SA fs.length sc), .slice LA l.length lc, .slice VA v.length vc] W fun e w' => e = .returned (.tuple #[.agg (uv ((evG fs v l).getD z8)), .bool (evG fs v l).isSome]) ∧ Below W.heap.size W w') := fun h1 h2 W h =>
  codeEval_any t SA sc fs LA lc l VA vc v W (hT.below h) (hF.below h) (by omega) (hL.below h) (by omega) ((hV.below h).mono h.size) hE
 have HQN : Hid (l.length ≤ 200 → v.length ≤ 100 → ∀ W, Below w.heap.size w W → Calls Tryz.prog 7 #[.agg (sv t SA fs.length sc), .slice LA l.length lc, .slice VA v.length vc] W fun e w' => e = .returned (.tuple #[.agg (uv ((evG fs v l).getD z8)), .bool (evG fs v l).isSome]) ∧ Below W.heap.size W w') := fun h1 h2 W h =>
  qcodeEval_any t SA sc fs LA lc l VA vc v W (hF.below h) (by omega) (hL.below h) (by omega) ((hV.below h).mono h.size) hE
 have HRN : Hid (l.length ≤ 200 → ∀ W, Below w.heap.size w W → Calls Tryz.prog 8 #[.slice LA l.length lc] W fun e w' => e = .returned (.bool (rgtB (roomG l 0 0))) ∧ Below W.heap.size W w') := fun h1 W h =>
  codeRight_any LA lc l W (by omega) (hL.below h)
 have HRQ : Hid (l.length ≤ 200 → ∀ W, Below w.heap.size w W → Calls Tryz.prog 9 #[.slice LA l.length lc] W fun e w' => e = .returned (.bool (rgtB (roomG l 0 0))) ∧ w' = W) := fun h1 W h =>
  qcodeRight_any LA lc l W (by omega) (hL.below h)
 have HVN : Hid (l.length ≤ 200 → ∀ W, Below w.heap.size w W → Calls Tryz.prog 11 #[.slice LA l.length lc] W fun e w' => ∃ A' c', e = .returned (.slice A' (vset l).length c') ∧ Sl w' w'.heap.size A' (icells (vset l)) ∧ Below W.heap.size W w') := fun h1 W h =>
  codeVars_any LA lc l W (by omega) (hL.below h)
 have HVQ : Hid (l.length ≤ 200 → ∀ W, Below w.heap.size w W → Calls Tryz.prog 12 #[.slice LA l.length lc] W fun e w' => ∃ A' c', e = .returned (.slice A' (vset l).length c') ∧ Sl w' w'.heap.size A' (icells (vset l)) ∧ Below W.heap.size W w') := fun h1 W h =>
  qcodeVars_any LA lc l W (by omega) (hL.below h)
 have hvl : (vset l).length ≤ l.length := by
  exact zM (zM (Lib.compact_length_le _) (by rw [List.length_mergeSort]; exact zL _)) (varsL_len l)
 have hew := evG_ew fs hE l
 have heq : ∀ W, (binOp .eql 31 (.agg (uv ((evG fs v l).getD z8))) (.agg (uv ((evG fs v l).getD z8)))).run Tryz.prog W = .ok (.bool true) W := fun W => by
  rw [run_eql_elem hew hew]
  simp
 have HIN : Hid (l.length ≤ 200 → ∀ A1 c1 A2 c2 W, Sl W W.heap.size A1 (icells (vset l)) → Sl W W.heap.size A2 (icells (vset l)) → Calls Tryz.prog 10 #[.slice A1 (vset l).length c1, .slice A2 (vset l).length c2] W fun e w' => e = .returned (.bool true) ∧ Below W.heap.size W w') := zh fun h1 A1 c1 A2 c2 W hs1 hs2 => by
  have := ints_any A1 A2 c1 c2 (vset l) (vset l) W (by omega) hs1 hs2
  simpa using this
 have HES := zh (uv8_size hew)
 have HE1 := zh (uv8_one ((evG fs v l).getD z8))
 clear hT hF hL hV hE HALV hew
 go_enter Tryz.func3, Tryz.ntmps3
 go_upto_region 1 with fail
 change Code.wp _ _ _ _ (w.alloc (.cells (sv t SA fs.length sc) 24))
 generalize w.alloc (.cells (sv t SA fs.length sc) 24) = w1 at *
 have HB1 := zh hb
 have HR0 := zh r0
 clear hb r0
 have HBG1 := zh (HBG.out w1 HB1.out)
 clear HBG
 generalize bigShB fs = bb at *
 generalize rgtB (roomG l 0 0) = rg at *
 generalize (evG fs v l).getD z8 = e8 at *
 generalize (evG fs v l).isSome = sm at *
 generalize icells (vset l) = ics at *
 generalize (vset l).length = m at *
 generalize l.length = n at *
 generalize v.length = k at *
 generalize fs.length = nf at *
 cases bb with
 | true =>
   go_wp2_with (first
    | (refine wpList_loadShape (by rfl) _ rfl w.heap.size rfl t SA nf sc HR0.out ?_)
    | (go_at_call 4; refine HBG1.out.mono ?_; rintro e w2 ⟨rfl, hb2⟩; have HB2 := zh (HB1.out.trans (hb2.mono HB1.out.size)); have HAL2 := zh (HAL.out w2 HB2.out); clear hb2)
    | (go_at_call 5; refine HAL2.out.mono ?_; rintro e w3 ⟨rfl, hb3⟩; have HB3 := zh (HB2.out.trans (hb3.mono HB2.out.size)); clear hb3))
   exact HQ.out _ _ ⟨rfl, HB3.out⟩
 | false =>
   by_cases h200 : 200 < n
   ·go_wp2_with (first
        | (refine wpList_loadShape (by rfl) _ rfl w.heap.size rfl t SA nf sc HR0.out ?_)
        | (go_at_call 4; refine HBG1.out.mono ?_; rintro e w2 ⟨rfl, hb2⟩; have HB2 := zh (HB1.out.trans (hb2.mono HB1.out.size)); have HAL2 := zh (HAL.out w2 HB2.out); clear hb2)
        | (go_at_call 5; refine HAL2.out.mono ?_; rintro e w3 ⟨rfl, hb3⟩; have HB3 := zh (HB2.out.trans (hb3.mono HB2.out.size)); clear hb3))
    exact HQ.out _ _ ⟨rfl, HB3.out⟩
   ·by_cases h100 : 100 < k
    ·go_wp2_with (first
         | (refine wpList_loadShape (by rfl) _ rfl w.heap.size rfl t SA nf sc HR0.out ?_)
         | (go_at_call 4; refine HBG1.out.mono ?_; rintro e w2 ⟨rfl, hb2⟩; have HB2 := zh (HB1.out.trans (hb2.mono HB1.out.size)); have HAL2 := zh (HAL.out w2 HB2.out); clear hb2)
         | (go_at_call 5; refine HAL2.out.mono ?_; rintro e w3 ⟨rfl, hb3⟩; have HB3 := zh (HB2.out.trans (hb3.mono HB2.out.size)); clear hb3))
     exact HQ.out _ _ ⟨rfl, HB3.out⟩
    ·have HLN2 := zh (HLN.out (by omega) (by omega))
     have HQN2 := zh (HQN.out (by omega) (by omega))
     have HRN2 := zh (HRN.out (by omega))
     have HRQ2 := zh (HRQ.out (by omega))
     have HVN2 := zh (HVN.out (by omega))
     have HVQ2 := zh (HVQ.out (by omega))
     have HIN2 := zh (HIN.out (by omega))
     clear HLN HQN HRN HRQ HVN HVQ HIN hvl
     go_upto_region 3 with (first
         | (refine wpList_loadShape (by rfl) _ rfl w.heap.size rfl t SA nf sc HR0.out ?_)
         | (go_at_call 4; refine HBG1.out.mono ?_; rintro e w2 ⟨rfl, hb2⟩; have HB2 := zh (HB1.out.trans (hb2.mono HB1.out.size)); have HR2 := zh (HR0.out.below hb2 HR0.out.lt); clear hb2))
     clear h200 h100
     have HLN3 := zh (HLN2.out w2 HB2.out)
     go_upto_region 4 with (first
         | (refine wpList_loadShape (by rfl) _ rfl w.heap.size rfl t SA nf sc HR2.out ?_)
         | (go_at_call 6; refine HLN3.out.mono ?_; rintro e w3 ⟨rfl, hb3⟩; have HB3 := zh hb3; clear hb3)
         | (refine wpList_stRow (by rfl) _ _ _ rfl w3.heap.size (uv e8) rfl rfl _ _ (RowAt.new _ _ _) (by rw [HES.out]; kernel_rfl) (by rw [HES.out]; rfl) HE1.out ?_; intro w4 r4 he; have HR4 := zh r4; have HB4 : Hid (Below w3.heap.size w3 w4) := zh (((zB _ _).alloc (zL _) _).trans (he.below (zL _))); clear r4 he))
     have HB24 := zh (HB3.out.trans (HB4.out.mono HB3.out.size))
     have HB04 := zh (HB2.out.trans (HB24.out.mono HB2.out.size))
     have HRS4 := zh (HR2.out.below HB24.out HR2.out.lt)
     have HQN4 := zh (HQN2.out w4 HB04.out)
     generalize w3.heap.size = g3 at *
     go_upto_region 5 with (first
         | (refine wpList_loadShape (by rfl) _ rfl w.heap.size rfl t SA nf sc HRS4.out ?_)
         | (go_at_call 7; refine HQN4.out.mono ?_; rintro e w5 ⟨rfl, hb5⟩; have HB5 := zh hb5; clear hb5)
         | (refine wpList_stRow (by rfl) _ _ _ rfl w5.heap.size (uv e8) rfl rfl _ _ (RowAt.new _ _ _) (by rw [HES.out]; kernel_rfl) (by rw [HES.out]; rfl) HE1.out ?_; intro w6 r6 he; have HR6 := zh r6; have HB6 : Hid (Below w5.heap.size w5 w6) := zh (((zB _ _).alloc (zL _) _).trans (he.below (zL _))); clear r6 he))
     have HB46 := zh (HB5.out.trans (HB6.out.mono HB5.out.size))
     have HB06 := zh (HB04.out.trans (HB46.out.mono HB04.out.size))
     have HRA6 := zh (HR4.out.below HB46.out HR4.out.lt)
     generalize w5.heap.size = g5 at *
     clear HB3 HB4 HB24 HB5 HB6 HR2 HRS4 HQN4 HLN3 HQN2 HLN2 HBG1 HR0 HR4 HB46 HB04 HB2 HB1
     have HRA : Hid (∀ W, Below w6.heap.size w6 W → RowAt W g3 31 (uv e8)) := zh fun W h => HRA6.out.below h HRA6.out.lt
     have HRB : Hid (∀ W, Below w6.heap.size w6 W → RowAt W g5 31 (uv e8)) := zh fun W h => HR6.out.below h HR6.out.lt
     have HRN6 := zh (HRN2.out w6 HB06.out)
     have HIE : Hid ((Tryz.prog.info? 31).map (·.size) = some (uv e8).size) := zh (by rw [HES.out]; kernel_rfl)
     clear HRA6 HR6 HRN2 HES HE1
     go_wp2_with (first
         | (go_at_call 8; refine HRN6.out.mono ?_; rintro e w7 ⟨rfl, hb7⟩; have HB7 := zh hb7; have HB07 := zh (HB06.out.trans (hb7.mono HB06.out.size)); have HRQ7 := zh (HRQ2.out w7 HB07.out); clear hb7)
         | (go_at_call 9; refine HRQ7.out.mono ?_; rintro e w8 ⟨rfl, rfl⟩; have HVN8 := zh (HVN2.out w8 HB07.out))
         | (go_at_call 11; refine HVN8.out.mono ?_; rintro e w9 ⟨A1, c1, rfl, hs1, hb9⟩; have HB9 := zh (HB7.out.trans (hb9.mono HB7.out.size)); have HB09 := zh (HB07.out.trans (hb9.mono HB07.out.size)); have HVQ9 := zh (HVQ2.out w9 HB09.out); have HS1 := zh hs1; clear hs1 hb9)
         | (go_at_call 12; refine HVQ9.out.mono ?_; rintro e w10 ⟨A2, c2, rfl, hs2, hb10⟩; have HB10 := zh (HB9.out.trans (hb10.mono HB9.out.size)); have HB010 := zh (HB09.out.trans (hb10.mono HB09.out.size)); have HIN10 := zh (HIN2.out A1 c1 A2 c2 w10 ((HS1.out.below hb10).mono hb10.size) hs2); clear hs2 hb10)
         | (go_at_call 10; refine HIN10.out.mono ?_; rintro e w11 ⟨rfl, hb11⟩; have HB11 := zh (HB10.out.trans (hb11.mono HB10.out.size)); have HB011 := zh (HB010.out.trans (hb11.mono HB010.out.size)); have HRA11 := zh (HRA.out w11 HB11.out); have HRB11 := zh (HRB.out w11 HB11.out); have HAL11 := zh (HAL.out w11 HB011.out); clear hb11)
         | (refine wpList_loadS (by first | rfl | kernel_rfl) 31 _ rfl g3 rfl _ _ _ HRA11.out Tryz.underlying31 rfl HIE.out ?_)
         | (refine wpList_loadS (by first | rfl | kernel_rfl) 31 _ rfl g5 rfl _ _ _ HRB11.out Tryz.underlying31 rfl HIE.out ?_)
         | (go_at_call 5; refine HAL11.out.mono ?_; rintro e w12 ⟨rfl, hb12⟩; have HB012 := zh (HB011.out.trans (hb12.mono HB011.out.size)); clear hb12))
     exact HQ.out _ _ ⟨rfl, HB012.out⟩
end
end Go.Proofs.YtppcjocmjpbmmaaGreatDoor
