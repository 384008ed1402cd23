/- Texts that all the claims need. Conditions: those that each states. -/

import Derived.Test.YteachpfpcceamaaGreatDoorSl15
set_option linter.unusedSimpArgs false
set_option linter.unusedVariables false
set_option maxRecDepth 100000
set_option maxHeartbeats 40000000
namespace Go.Proofs.YteachpfpcceamaaGreatDoor
section
open Go.RowKit RM
def shT (op : Int) : Bool := decide (op = 3)
def shF (s : Sc) (x : Cd) : List Fac :=
 if x.op = 1 then [⟨1, none, 0, x.txt, 0, zs⟩] else if x.op = 2 then [⟨2, none, 0, x.txt, 0, zs⟩] else if x.op = 3 then flat (dshF s x.ws)
 else if x.op = 4 then [⟨3, none, 0, x.txt, ((pts (x.ws.length : Nat) : Nat) : Int), relF x⟩] else if x.op = 5 then [⟨4, none, 0, x.txt, ((pts (x.ws.length : Nat) : Nat) : Int), relF x⟩] else []
theorem fac_own {w : World} {B : Nat} {X : Option Addr} {d : Nat} {xs : List ByteArray} (kd n : Int) (l : List Nat) (h : w.ownsRow B 9 1 (.slice X xs.length d) xs.length (scells xs)) (hl : RW l) (hm : xs.length ≤ 65536) : FacOk w ⟨kd, X, d, xs, n, l⟩ :=
 FacO.ok (B := B) (f := ⟨kd, X, d, xs, n, l⟩) ⟨h, hl⟩
theorem one_build (kd : Int) (X : Option Addr) (d : Nat) (xs : List ByteArray) (w : World) (hf : FacOk w ⟨kd, X, d, xs, 0, zs⟩) (hm : xs.length ≤ 65536) :
 Calls Tryz.prog 60 #[.agg ((Tryz.zeroCells100.setIfInBounds 0 (Value.int IntKind.i64 kd)).setIfInBounds 1 (.slice X xs.length d))] w fun e w' => ∃ A' c' gs, e = .returned (.agg (sv false A' gs.length c')) ∧ w'.ownsRow w.heap.size 100 67 (.slice A' gs.length c') gs.length (fscells gs) ∧
  (∀ g ∈ gs, FacO w' w.heap.size g) ∧ gs.map core = [⟨kd, none, 0, xs, 0, zs⟩].map core ∧ Below w.heap.size w w' := by
 have e : ((Tryz.zeroCells100.setIfInBounds 0 (Value.int IntKind.i64 kd)).setIfInBounds 1 (.slice X xs.length d)) = fv ⟨kd, X, d, xs, 0, zs⟩ := by
  have hz : Tryz.zeroCells100 = fv f0 := by kernel_rfl
  rw [hz]
  rfl
 rw [e]
 exact one_any ⟨kd, X, d, xs, 0, zs⟩ w hf hm
theorem take_build3 {P : Program} {S : World → Prop} {o : Oper} {a : Act} (t : TypeId) (i0 i1 i2 : Nat) (x0 x1 x2 : Operand) (ho : o.op = .build t #[(i0, x0), (i1, x1), (i2, x2)]) (v0 v1 v2 : Value) (h0 : a.eval x0 = v0) (h1 : a.eval x1 = v1) (h2 : a.eval x2 = v2) (cells : Array Value) (hc : P.built t [(i0, v0), (i1, v1), (i2, v2)] = some cells) : ∀ w, S w → (execOp a.eval o).run P w = .ok (.value (.agg cells)) w := fun w _ => by
 have hl : (#[(i0, x0), (i1, x1), (i2, x2)].map fun (x : Nat × Operand) => (x.1, a.eval x.2)).toList = [(i0, v0), (i1, v1), (i2, v2)] := by simp [h0, h1, h2]
 unfold execOp
 simp only [ho, Sem.run_bind]
 rw [run_build w t _ cells (by rw [hl]; exact hc)]
 rfl
theorem sshape_any (s : Sc) (x : Cd) (w : World) (h : ScOk w s) (hx : CdOk w w.heap.size x) (hsum : x.op = 3 → (flat (dshF s x.ws)).length ≤ 65536) :
 Calls Tryz.prog 17 #[.agg (scv s), .agg (cdv x)] w fun e w' => ∃ A' c' gs, e = .returned (.agg (sv (shT x.op) A' gs.length c')) ∧ w'.ownsRow w.heap.size 100 67 (.slice A' gs.length c') gs.length (fscells gs) ∧ (∀ g ∈ gs, FacO w' w.heap.size g) ∧ gs.map core = (shF s x).map core ∧ Below w.heap.size w w' := by
 have h3 := (three_rows w (scv s) (cdv x) (sv false none 0 0) 25 34 49)
 obtain ⟨r0, q0, z0, hb⟩ := h3
 refine cHid fun Q' hQ => ?_
 have HQ := zh hQ; clear hQ
 go_enter Tryz.func17, Tryz.ntmps17
 go_upto_region 1 with fail
 change Code.wp _ _ _ _ (((w.alloc (.cells (scv s) 25)).alloc (.cells (cdv x) 34)).alloc (.cells (sv false none 0 0) 49))
 generalize ((w.alloc (.cells (scv s) 25)).alloc (.cells (cdv x) 34)).alloc (.cells (sv false none 0 0) 49) = w1 at *
 have HOK := zh (h.below hb)
 have HX := zh (hx.below hb)
 have HRS := zh r0
 have HRC := zh q0
 have HRZ : Hid (RowAt w1 (w.heap.size + 1 + 1) 49 (sv false none 0 0)) := zh z0
 have HB := zh hb
 have hz := z0.lt
 have d0 := (cd_cells q0).1
 have d4 := (cd_cells q0).2.2.2.2.1
 have hws : x.ws.length ≤ 65536 := hx.wfew
 have HTM : Hid (x.txt.length = x.ws.length) := zh (by simp [Cd.txt])
 have HTL : Hid (x.txt.length ≤ 65536) := zh (by rw [HTM.out]; exact hws)
 have HTX0 : Hid (Calls Tryz.prog 61 #[.slice x.A x.ws.length x.c] w1 fun e w' => ∃ X d, e = .returned (.slice X x.ws.length d) ∧ w'.ownsRow w1.heap.size 9 1 (.slice X x.ws.length d) x.ws.length (scells x.txt) ∧ Below w1.heap.size w1 w') := zh (stexts_any x.A x.c x.ws w1 (by omega) (HX.out.ws.mono (by omega)))
 have HXF : Hid (∀ W, Below (w.heap.size + 1 + 1) w1 W → CdOk W w.heap.size x) := zh fun W hW => HX.out.below (hW.mono (by omega))
 have HTX : Hid (∀ W, Below (w.heap.size + 1 + 1) w1 W → Calls Tryz.prog 61 #[.slice x.A x.ws.length x.c] W fun e w' => ∃ X d, e = .returned (.slice X x.ws.length d) ∧ w'.ownsRow W.heap.size 9 1 (.slice X x.ws.length d) x.ws.length (scells x.txt) ∧ Below W.heap.size W w') := zh fun W hW => stexts_any x.A x.c x.ws W (by omega) ((HXF.out W hW).ws.mono (by have := hW.size; omega))
 have C0 : ∀ W, Below (w.heap.size + 1 + 1) w1 W → W.cell? ⟨w.heap.size + 1, 4, none⟩ = some (.slice x.A x.ws.length x.c) := fun W hW => (hW.cell (p := ⟨w.heap.size + 1, 4, none⟩) (by show w.heap.size + 1 < _; omega)).trans d4
 have C1 : ∀ W, Below (w.heap.size + 1 + 1) w1 W → RowAt W (w.heap.size + 1) 34 (cdv x) := fun W hW => HRC.out.below hW (by omega)
 have HCI := zh (cdinfo hx)
 have HWN := zh hx.wn
 have HSUM := zh hsum
 clear h hx r0 q0 z0 hb hsum
 by_cases h1 : x.op = 1
 ·have hxo := h1; clear h1
  have hkd : shF s x = [⟨1, none, 0, x.txt, 0, zs⟩] := by unfold shF; rw [hxo]; rfl
  have hst : shT x.op = false := by unfold shT; rw [hxo]; rfl
  rw [hkd, hst] at HQ
  have HON := zh fun (X : Option Addr) (d : Nat) (W : World) (h : FacOk W ⟨1, X, d, x.txt, 0, zs⟩) => one_build 1 X d x.txt W h HTL.out
  rw [hxo] at d0
  have HXO := zh hxo; clear hxo hkd hst
  go_wp2_with (first
   | (go_at_call 61; refine HTX0.out.mono ?_; rintro e w2 ⟨X, d, rfl, hown, hb2⟩; have HFO := zh (fac_own 1 0 zs (by rw [HTM.out]; exact hown) RW.zs HTL.out); have HB2 := zh hb2; have HOX := zh (HON.out X d w2); rw [HTM.out] at HOX; clear hown hb2)
   | (go_at_call 60; refine (HOX.out HFO.out).mono ?_; rintro e w3 ⟨A3, c3, gs, rfl, hown, hfo, hcr, hb3⟩; have HOW := zh hown; have HFF := zh hfo; have HCR := zh hcr; have HB3 := zh hb3; have HZ3 := zh ((HRZ.out.below HB2.out HRZ.out.lt).below hb3 (by have := HB2.out.size; have := HRZ.out.lt; omega)); clear hown hfo hcr hb3)
   | (refine wpList_storeShape (by rfl) _ _ rfl (w.heap.size + 1 + 1) rfl false A3 gs.length c3 rfl _ zero_shape_size HZ3.out ?_; intro wz rz he))
  have hke : ∀ {size n : Nat} {e : TypeId} {v : Value} {cs : List Value}, w3.ownsRow w2.heap.size e size v n cs → wz.ownsRow w.heap.size e size v n cs := fun h => own_mono (own_same h fun b _ hv => he.block b (by have := (h.lt b hv).1; have := HB2.out.size; have := HRZ.out.lt; omega)) (by have := HB.out.size; have := HB2.out.size; omega)
  exact bodyPost_ret (ret_shape rfl _ _ (w.heap.size + 1 + 1) false A3 gs.length c3 rfl rz) rfl (HQ.out _ _ ⟨A3, c3, gs, rfl, hke HOW.out, fun g hg => ⟨hke (HFF.out g hg).own, (HFF.out g hg).rows⟩, HCR.out, HB.out.trans ((HB2.out.mono HB.out.size).trans ((HB3.out.mono (by have := HB.out.size; have := HB2.out.size; omega)).trans (he.below (by omega))))⟩)
 by_cases h2 : x.op = 2
 ·have hxo := h2; clear h2
  have hkd : shF s x = [⟨2, none, 0, x.txt, 0, zs⟩] := by unfold shF; rw [hxo]; rfl
  have hst : shT x.op = false := by unfold shT; rw [hxo]; rfl
  rw [hkd, hst] at HQ
  have HON := zh fun (X : Option Addr) (d : Nat) (W : World) (h : FacOk W ⟨2, X, d, x.txt, 0, zs⟩) => one_build 2 X d x.txt W h HTL.out
  rw [hxo] at d0
  have HXO := zh hxo; clear hxo hkd hst
  go_wp2_with (first
   | (go_at_call 61; refine HTX0.out.mono ?_; rintro e w2 ⟨X, d, rfl, hown, hb2⟩; have HFO := zh (fac_own 2 0 zs (by rw [HTM.out]; exact hown) RW.zs HTL.out); have HB2 := zh hb2; have HOX := zh (HON.out X d w2); rw [HTM.out] at HOX; clear hown hb2)
   | (go_at_call 60; refine (HOX.out HFO.out).mono ?_; rintro e w3 ⟨A3, c3, gs, rfl, hown, hfo, hcr, hb3⟩; have HOW := zh hown; have HFF := zh hfo; have HCR := zh hcr; have HB3 := zh hb3; have HZ3 := zh ((HRZ.out.below HB2.out HRZ.out.lt).below hb3 (by have := HB2.out.size; have := HRZ.out.lt; omega)); clear hown hfo hcr hb3)
   | (refine wpList_storeShape (by rfl) _ _ rfl (w.heap.size + 1 + 1) rfl false A3 gs.length c3 rfl _ zero_shape_size HZ3.out ?_; intro wz rz he))
  have hke : ∀ {size n : Nat} {e : TypeId} {v : Value} {cs : List Value}, w3.ownsRow w2.heap.size e size v n cs → wz.ownsRow w.heap.size e size v n cs := fun h => own_mono (own_same h fun b _ hv => he.block b (by have := (h.lt b hv).1; have := HB2.out.size; have := HRZ.out.lt; omega)) (by have := HB.out.size; have := HB2.out.size; omega)
  exact bodyPost_ret (ret_shape rfl _ _ (w.heap.size + 1 + 1) false A3 gs.length c3 rfl rz) rfl (HQ.out _ _ ⟨A3, c3, gs, rfl, hke HOW.out, fun g hg => ⟨hke (HFF.out g hg).own, (HFF.out g hg).rows⟩, HCR.out, HB.out.trans ((HB2.out.mono HB.out.size).trans ((HB3.out.mono (by have := HB.out.size; have := HB2.out.size; omega)).trans (he.below (by omega))))⟩)
 by_cases h3 : x.op = 3
 ·have hkd : shF s x = flat (dshF s x.ws) := by unfold shF; rw [h3]; rfl
  have hst : shT x.op = true := by unfold shT; rw [h3]; rfl
  rw [hkd, hst] at HQ
  rw [h3] at d0
  have HSUM := zh (HSUM.out h3)
  have HXO := zh h3; clear h3 hkd hst h1 h2
  have HDN := zh (denoted_any s x.A x.c x.ws w1 HOK.out hws HWN.out (HX.out.ws.mono (by omega)))
  have HSHk : Hid (∀ y ∈ dshF s x.ws, ∀ W, Below w1.heap.size w1 W → ShOk W y) := zh fun y hy W hW => by
   obtain ⟨l, hl, rfl⟩ := dsh_mem hy
   exact (HOK.out.sh l hl).below hW
  have HLD : Hid ((dshF s x.ws).length ≤ 65536) := zh (zM (dshK_len s x.ws x.ws.length) hws)
  generalize dshF s x.ws = DF at *
  go_wp2_with (first
   | (refine wpList_loadS (by rfl) _ _ rfl w.heap.size rfl _ _ _ HRS.out Tryz.underlying25 rfl (by kernel_rfl) ?_)
   | (go_at_call 63; refine HDN.out.mono ?_; rintro e w2 ⟨X, d, rfl, hown, hb2⟩; have HB2 := zh hb2; have HPR := zh (product_any X d DF w2 (Sl.of_own hown) (fun y hy => HSHk.out y hy w2 hb2) HLD.out HSUM.out); clear hown hb2)
   | (go_at_call 62; refine HPR.out.mono ?_; rintro e w3 ⟨A3, c3, gs, rfl, hown, hfo, hcr, hb3⟩; have HOW := zh hown; have HFF := zh hfo; have HCR := zh hcr; have HB3 := zh hb3; have HZ3 := zh ((HRZ.out.below HB2.out HRZ.out.lt).below hb3 (by have := HB2.out.size; have := HRZ.out.lt; omega)); clear hown hfo hcr hb3)
   | (refine wpList_storeShape (by rfl) _ _ rfl (w.heap.size + 1 + 1) rfl true A3 gs.length c3 rfl _ zero_shape_size HZ3.out ?_; intro wz rz he))
  have hke : ∀ {size n : Nat} {e : TypeId} {v : Value} {cs : List Value}, w3.ownsRow w2.heap.size e size v n cs → wz.ownsRow w.heap.size e size v n cs := fun h => own_mono (own_same h fun b _ hv => he.block b (by have := (h.lt b hv).1; have := HB2.out.size; have := HRZ.out.lt; omega)) (by have := HB.out.size; have := HB2.out.size; omega)
  exact bodyPost_ret (ret_shape rfl _ _ (w.heap.size + 1 + 1) true A3 gs.length c3 rfl rz) rfl (HQ.out _ _ ⟨A3, c3, gs, rfl, hke HOW.out, fun g hg => ⟨hke (HFF.out g hg).own, (HFF.out g hg).rows⟩, HCR.out, HB.out.trans ((HB2.out.mono HB.out.size).trans ((HB3.out.mono (by have := HB.out.size; have := HB2.out.size; omega)).trans (he.below (by omega))))⟩)
 by_cases h4 : x.op = 4
 ·have hxo := h4; clear h4 h1 h2 h3
  have hkd : shF s x = [⟨3, none, 0, x.txt, ((pts (x.ws.length : Nat) : Nat) : Int), relF x⟩] := by unfold shF; rw [hxo]; rfl
  have hst : shT x.op = false := by unfold shT; rw [hxo]; rfl
  rw [hkd, hst] at HQ
  rw [hxo] at d0
  have HXO := zh hxo; clear hxo hkd hst
  go_upto_region 9 with fail
  clear d0 d4
  have HRZ0 : Hid (RowAt w1.drew (w.heap.size + 1 + 1) 49 (sv false none 0 0)) := HRZ
  have HSv0 : Hid (Below (w.heap.size + 1 + 1) w1 w1.drew) := zh (zB _ _).drew
  refine wp_region_ou (fun W => Below (w.heap.size + 1 + 1) w1 W) ((.take 0 (.take 1 (.take 3 (.solo 2 (.solo 4 (.take 5 (.solo 6 (.solo 7 .nil))))))))) (by kernel_rfl) (by kernel_rfl) rfl (by kernel_rfl) HSv0.out ?_
  generalize w1.drew = v0 at HRZ0 HSv0 ⊢
  iterate 3
   (refine wpOU_step (zO rfl) ?_)
   (first
    | (refine wpOU_skip (by rfl) ?_)
    | (refine wpOU_take (by rfl) (take_row _ _ rfl (w.heap.size + 1) rfl _ _ _ C1 Tryz.underlying34 rfl HCI.out) ?_)
    | (refine wpOU_take (v := ?_) (by rfl) ?_ ?_; rotate_left 1; (intro wx hSx; have hc_0 := C0 wx hSx; go_simp; try with_reducible rfl)))
   (try simp only [Act.put, zA4, zA5, zA6])
  (refine wpOU_solo (zO rfl) ?_)
  intro K hK
  go_simp
  go_at_call 61
  refine (HTX.out v0 HSv0.out).mono ?_
  rintro e v1 ⟨X, d, rfl, hown, hb⟩
  have HSv1 : Hid (Below (w.heap.size + 1 + 1) w1 v1) := zh (HSv0.out.trans (hb.mono (by have := HSv0.out.size; omega)))
  have HOW1 := zh hown
  have HZc : Hid (w1.heap.size ≤ v0.heap.size) := zh HSv0.out.size
  have HRZ1 := zh (HRZ0.out.below hb HRZ0.out.lt)
  clear hb hown
  refine hK.out _ _ HSv1.out ?_
  clear hK K
  (try simp only [Act.put, zA4, zA5, zA6])
  (refine wpOU_solo (zO rfl) ?_)
  intro K hK
  go_simp
  go_at_call 50
  refine (relation_any x v1 ((HXF.out v1 HSv1.out).mono (by have := HSv1.out.size; omega))).mono ?_
  rintro e v2 ⟨rfl, hb⟩
  have HSv2 : Hid (Below (w.heap.size + 1 + 1) w1 v2) := zh (HSv1.out.trans (hb.mono (by have := HSv1.out.size; omega)))
  have HOW2 := zh (own_below HOW1.out hb (zL _))
  have HRZ2 := zh (HRZ1.out.below hb HRZ1.out.lt)
  have HZd : Hid (w1.heap.size ≤ v2.heap.size) := zh HSv2.out.size
  clear hb
  refine hK.out _ _ HSv2.out ?_
  clear hK K
  (try simp only [Act.put, zA4, zA5, zA6])
  iterate 1
   (refine wpOU_step (zO rfl) ?_)
   (first
    | (refine wpOU_skip (by rfl) ?_)
    | (refine wpOU_take (by rfl) (take_row _ _ rfl (w.heap.size + 1) rfl _ _ _ C1 Tryz.underlying34 rfl HCI.out) ?_)
    | (refine wpOU_take (by rfl) (take_build3 _ _ _ _ _ _ _ rfl _ _ _ rfl rfl rfl _ (built_fac 3 _ (relF x) X d x.txt x.ws.length HTM.out (relF_rw x))) ?_)
    | (refine wpOU_take (v := ?_) (by rfl) ?_ ?_; rotate_left 1; (intro wx hSx; have hc_0 := C0 wx hSx; go_simp; try with_reducible rfl)))
   (try simp only [Act.put, zA4, zA5, zA6])
  (refine wpOU_solo (zO rfl) ?_)
  intro K hK
  go_simp
  go_at_call 60
  refine (one_any ⟨3, X, d, x.txt, ((pts (x.ws.length : Nat) : Nat) : Int), relF x⟩ v2 (fac_own 3 _ _ (by rw [HTM.out]; exact HOW2.out) (relF_rw x) HTL.out) HTL.out).mono ?_
  rintro e v3 ⟨A3, c3, gs, rfl, hown, hfo, hcr, hb⟩
  have HSv3 : Hid (Below (w.heap.size + 1 + 1) w1 v3) := zh (HSv2.out.trans (hb.mono (by have := HSv2.out.size; omega)))
  have HOW3 := zh hown; have HFF := zh hfo; have HCR := zh hcr
  have HRZ3 := zh (HRZ2.out.below hb HRZ2.out.lt)
  clear hb hown hfo hcr
  refine hK.out _ _ HSv3.out ?_
  clear hK K
  (try simp only [Act.put, zA4, zA5, zA6])
  (refine wpOU_solo (zO rfl) ?_)
  intro K hK
  rw [if_pos (by rfl)]
  refine wp_store_row _ _ _ rfl (w.heap.size + 1 + 1) (sv false A3 gs.length c3) rfl rfl _ _ HRZ3.out (by kernel_rfl) rfl (by simp [sv, Value.oneCell']) ?_
  have HRZ4 := zh (HRZ3.out.setRow (sv false A3 gs.length c3))
  have HSv4 : Hid (Below (w.heap.size + 1 + 1) w1 (v3.setRow (w.heap.size + 1 + 1) (sv false A3 gs.length c3))) := zh (HSv3.out.trans (Else.below (Else.setRow v3 _ _) (zL _)))
  have HKE : Hid (∀ {size n : Nat} {e : TypeId} {v : Value} {cs : List Value}, v3.ownsRow v2.heap.size e size v n cs → (v3.setRow (w.heap.size + 1 + 1) (sv false A3 gs.length c3)).ownsRow w.heap.size e size v n cs) := zh fun h => own_mono (own_same h fun b _ hv => setRow_other _ _ _ _ (by have := (h.lt b hv).1; have := HZd.out; have := HRZ.out.lt; omega)) (by have := HB.out.size; have := HZd.out; omega)
  refine hK.out _ _ HSv4.out ?_
  clear hK K
  (try simp only [Act.put, zA4, zA5, zA6])
  generalize v3.setRow (w.heap.size + 1 + 1) (sv false A3 gs.length c3) = v4 at *
  refine wpOU_done ?_
  go_wp2_with fail
  exact bodyPost_ret (ret_shape rfl _ _ (w.heap.size + 1 + 1) false A3 gs.length c3 rfl HRZ4.out) rfl (HQ.out _ _ ⟨A3, c3, gs, rfl, HKE.out HOW3.out, fun g hg => ⟨HKE.out (HFF.out g hg).own, (HFF.out g hg).rows⟩, HCR.out, HB.out.trans (HSv4.out.mono (by omega))⟩)
 by_cases h5 : x.op = 5
 ·have hxo := h5; clear h5 h1 h2 h3 h4
  have hkd : shF s x = [⟨4, none, 0, x.txt, ((pts (x.ws.length : Nat) : Nat) : Int), relF x⟩] := by unfold shF; rw [hxo]; rfl
  have hst : shT x.op = false := by unfold shT; rw [hxo]; rfl
  rw [hkd, hst] at HQ
  rw [hxo] at d0
  have HXO := zh hxo; clear hxo hkd hst
  go_upto_region 11 with fail
  clear d0 d4
  have HRZ0 : Hid (RowAt w1.drew (w.heap.size + 1 + 1) 49 (sv false none 0 0)) := HRZ
  have HSv0 : Hid (Below (w.heap.size + 1 + 1) w1 w1.drew) := zh (zB _ _).drew
  refine wp_region_ou (fun W => Below (w.heap.size + 1 + 1) w1 W) ((.take 0 (.take 1 (.take 3 (.solo 2 (.solo 4 (.take 5 (.solo 6 (.solo 7 .nil))))))))) (by kernel_rfl) (by kernel_rfl) rfl (by kernel_rfl) HSv0.out ?_
  generalize w1.drew = v0 at HRZ0 HSv0 ⊢
  iterate 3
   (refine wpOU_step (zO rfl) ?_)
   (first
    | (refine wpOU_skip (by rfl) ?_)
    | (refine wpOU_take (by rfl) (take_row _ _ rfl (w.heap.size + 1) rfl _ _ _ C1 Tryz.underlying34 rfl HCI.out) ?_)
    | (refine wpOU_take (v := ?_) (by rfl) ?_ ?_; rotate_left 1; (intro wx hSx; have hc_0 := C0 wx hSx; go_simp; try with_reducible rfl)))
   (try simp only [Act.put, zA4, zA5, zA6])
  (refine wpOU_solo (zO rfl) ?_)
  intro K hK
  go_simp
  go_at_call 61
  refine (HTX.out v0 HSv0.out).mono ?_
  rintro e v1 ⟨X, d, rfl, hown, hb⟩
  have HSv1 : Hid (Below (w.heap.size + 1 + 1) w1 v1) := zh (HSv0.out.trans (hb.mono (by have := HSv0.out.size; omega)))
  have HOW1 := zh hown
  have HZc : Hid (w1.heap.size ≤ v0.heap.size) := zh HSv0.out.size
  have HRZ1 := zh (HRZ0.out.below hb HRZ0.out.lt)
  clear hb hown
  refine hK.out _ _ HSv1.out ?_
  clear hK K
  (try simp only [Act.put, zA4, zA5, zA6])
  (refine wpOU_solo (zO rfl) ?_)
  intro K hK
  go_simp
  go_at_call 50
  refine (relation_any x v1 ((HXF.out v1 HSv1.out).mono (by have := HSv1.out.size; omega))).mono ?_
  rintro e v2 ⟨rfl, hb⟩
  have HSv2 : Hid (Below (w.heap.size + 1 + 1) w1 v2) := zh (HSv1.out.trans (hb.mono (by have := HSv1.out.size; omega)))
  have HOW2 := zh (own_below HOW1.out hb (zL _))
  have HRZ2 := zh (HRZ1.out.below hb HRZ1.out.lt)
  have HZd : Hid (w1.heap.size ≤ v2.heap.size) := zh HSv2.out.size
  clear hb
  refine hK.out _ _ HSv2.out ?_
  clear hK K
  (try simp only [Act.put, zA4, zA5, zA6])
  iterate 1
   (refine wpOU_step (zO rfl) ?_)
   (first
    | (refine wpOU_skip (by rfl) ?_)
    | (refine wpOU_take (by rfl) (take_row _ _ rfl (w.heap.size + 1) rfl _ _ _ C1 Tryz.underlying34 rfl HCI.out) ?_)
    | (refine wpOU_take (by rfl) (take_build3 _ _ _ _ _ _ _ rfl _ _ _ rfl rfl rfl _ (built_fac 4 _ (relF x) X d x.txt x.ws.length HTM.out (relF_rw x))) ?_)
    | (refine wpOU_take (v := ?_) (by rfl) ?_ ?_; rotate_left 1; (intro wx hSx; have hc_0 := C0 wx hSx; go_simp; try with_reducible rfl)))
   (try simp only [Act.put, zA4, zA5, zA6])
  (refine wpOU_solo (zO rfl) ?_)
  intro K hK
  go_simp
  go_at_call 60
  refine (one_any ⟨4, X, d, x.txt, ((pts (x.ws.length : Nat) : Nat) : Int), relF x⟩ v2 (fac_own 4 _ _ (by rw [HTM.out]; exact HOW2.out) (relF_rw x) HTL.out) HTL.out).mono ?_
  rintro e v3 ⟨A3, c3, gs, rfl, hown, hfo, hcr, hb⟩
  have HSv3 : Hid (Below (w.heap.size + 1 + 1) w1 v3) := zh (HSv2.out.trans (hb.mono (by have := HSv2.out.size; omega)))
  have HOW3 := zh hown; have HFF := zh hfo; have HCR := zh hcr
  have HRZ3 := zh (HRZ2.out.below hb HRZ2.out.lt)
  clear hb hown hfo hcr
  refine hK.out _ _ HSv3.out ?_
  clear hK K
  (try simp only [Act.put, zA4, zA5, zA6])
  (refine wpOU_solo (zO rfl) ?_)
  intro K hK
  rw [if_pos (by rfl)]
  refine wp_store_row _ _ _ rfl (w.heap.size + 1 + 1) (sv false A3 gs.length c3) rfl rfl _ _ HRZ3.out (by kernel_rfl) rfl (by simp [sv, Value.oneCell']) ?_
  have HRZ4 := zh (HRZ3.out.setRow (sv false A3 gs.length c3))
  have HSv4 : Hid (Below (w.heap.size + 1 + 1) w1 (v3.setRow (w.heap.size + 1 + 1) (sv false A3 gs.length c3))) := zh (HSv3.out.trans (Else.below (Else.setRow v3 _ _) (zL _)))
  have HKE : Hid (∀ {size n : Nat} {e : TypeId} {v : Value} {cs : List Value}, v3.ownsRow v2.heap.size e size v n cs → (v3.setRow (w.heap.size + 1 + 1) (sv false A3 gs.length c3)).ownsRow w.heap.size e size v n cs) := zh fun h => own_mono (own_same h fun b _ hv => setRow_other _ _ _ _ (by have := (h.lt b hv).1; have := HZd.out; have := HRZ.out.lt; omega)) (by have := HB.out.size; have := HZd.out; omega)
  refine hK.out _ _ HSv4.out ?_
  clear hK K
  (try simp only [Act.put, zA4, zA5, zA6])
  generalize v3.setRow (w.heap.size + 1 + 1) (sv false A3 gs.length c3) = v4 at *
  refine wpOU_done ?_
  go_wp2_with fail
  exact bodyPost_ret (ret_shape rfl _ _ (w.heap.size + 1 + 1) false A3 gs.length c3 rfl HRZ4.out) rfl (HQ.out _ _ ⟨A3, c3, gs, rfl, HKE.out HOW3.out, fun g hg => ⟨HKE.out (HFF.out g hg).own, (HFF.out g hg).rows⟩, HCR.out, HB.out.trans (HSv4.out.mono (by omega))⟩)
 ·have hkd : shF s x = [] := by unfold shF; rw [if_neg h1, if_neg h2, if_neg h3, if_neg h4, if_neg h5]
  have hst : shT x.op = false := by unfold shT; rw [zF h3]
  rw [hkd, hst] at HQ
  have n1 : (x.op == 1) = false := by simp [h1]
  have n2 : (x.op == 2) = false := by simp [h2]
  have n3 : (x.op == 3) = false := by simp [h3]
  have n4 : (x.op == 4) = false := by simp [h4]
  have n5 : (x.op == 5) = false := by simp [h5]
  clear h1 h2 h3 h4 h5 hkd hst
  generalize x.op = op at *
  go_wp2_with (first
   | (refine wpList_storeShape (by rfl) _ _ rfl (w.heap.size + 1 + 1) rfl false none 0 0 rfl _ zero_shape_size HRZ.out ?_; intro wz rz he))
  exact bodyPost_ret (ret_shape rfl _ _ (w.heap.size + 1 + 1) false none 0 0 rfl rz) rfl (HQ.out _ _ ⟨none, 0, [], rfl, World.ownsRow_nil _ _ _ _, (fun g hg => by cases hg), rfl, HB.out.trans (he.below (by omega))⟩)
end
section
open Go.RowKit RM
def ShKeep (w0 w w' : World) (A : Option Addr) (gs : List Fac) : Prop := ∀ W, Below w0.heap.size w0 W → (∀ b, w.heap.size ≤ b → b < w'.heap.size → W.heap[b]? = w'.heap[b]?) → Facs W A gs
theorem ShKeep.facs {w0 w w' : World} {A : Option Addr} {gs : List Fac} (h : ShKeep w0 w w' A gs) (h0 : Below w0.heap.size w0 w) (hb : Below w.heap.size w w') : Facs w' A gs := h w' (h0.trans (hb.mono h0.size)) fun _ _ _ => rfl
end
section
open Go.RowKit
structure Nt where
 k : Int
 p : Int
 s : ByteArray
 A : Option Addr
 n : Nat
 c : Nat
 B : Option Addr
 m : Nat
 d : Nat
def ntC (x : Nt) : List Value := [.int .i64 x.k, .int .i64 x.p, .string x.s, .slice x.A x.n x.c, .slice x.B x.m x.d]
def nt0 : Nt := ⟨0, 0, ⟨#[]⟩, none, 0, 0, none, 0, 0⟩
inductive NtOk (w : World) : Nt → Prop
 | mk (x : Nt) (ks : List Nt) (hm : x.m = ks.length) (hs : Ls ntC w x.B ks) (hn : x.n ≤ maxLen) (hl : ks.length ≤ maxLen) (hk : ∀ y ∈ ks, NtOk w y) (ws : List (ByteArray × Int)) (hw : x.n = ws.length) (hws : Ls wdC w x.A ws) : NtOk w x
theorem NtOk.lo {w w' : World} {x : Nt} (h : NtOk w x) (hb : Below w.heap.size w w') : NtOk w' x := by
 induction h with
 | mk x ks hm hs hn hl hk ws hw hws ih => exact .mk x ks hm (hs.below hb) hn hl ih ws hw (hws.below hb)
theorem many_some {w0 : World} {x : Nt} (h : NtOk w0 x) : ∀ w, Below w0.heap.size w0 w → Calls Tryz.prog 75 #[.agg (ntC x).toArray] w fun e w' => (∃ k : Int, e = .returned (.int .i64 k)) ∧ Below w.heap.size w w' := by
 induction h with
 | mk x ks hm hs hn hl hk ws hwn hws ih =>
   intro w hw
   clear hws
   clear hwn ws
   have HS := zh hs
   have HI : Hid (∀ i, i < ks.length → ∀ W, Below w0.heap.size w0 W → Calls Tryz.prog 75 #[.agg (ntC (ks.getD i nt0)).toArray] W fun e w' => (∃ k : Int, e = .returned (.int .i64 k)) ∧ Below W.heap.size W w') := zh fun i hi W hW => ih _ (getD_mem' hi) W hW
   have HW0 := zh hw
   have r0 := RowAt.new w 32 (ntC x).toArray
   have HB : Hid (Below w.heap.size w (w.alloc (.cells (ntC x).toArray 32))) := (zB _ _).alloc (zL _) _
   obtain ⟨k, p, s, A, n, c, B, m, d⟩ := x
   simp only at hm hs hn HS
   clear hs hk ih hw
   have HL := zh hm.symm
   have hl2 : m ≤ maxLen := by rw [hm]; exact hl
   clear hm hl
   unfold maxLen at hn hl2
   have c3 := (r0.cell 3).trans (show (ntC ⟨k, p, s, A, n, c, B, m, d⟩).toArray[3]? = some (.slice A n c) from rfl)
   have c4 := (r0.cell 4).trans (show (ntC ⟨k, p, s, A, n, c, B, m, d⟩).toArray[4]? = some (.slice B m d) from rfl)
   have hlt := r0.lt
   clear r0
   go_enter Tryz.func75, Tryz.ntmps75
   go_upto_region 1 with fail
   change Code.wp _ _ _ _ (w.alloc (.cells (ntC ⟨k, p, s, A, n, c, B, m, d⟩).toArray 32))
   generalize w.alloc (.cells (ntC ⟨k, p, s, A, n, c, B, m, d⟩).toArray 32) = w1 at *
   have HB1 : Hid (Below w0.heap.size w0 w1) := zh (HW0.out.trans (HB.out.mono HW0.out.size))
   have C4 : Hid (∀ W, Below w1.heap.size w1 W → W.cell? ⟨w.heap.size, 4, none⟩ = some (.slice B m d)) := zh fun W hW => (hW.cell (p := ⟨w.heap.size, 4, none⟩) hlt).trans c4
   clear c4
   go_wp2_with fail
   go_loopw [3, 4] (fun kv iv wr => ∃ (i : Nat) (a : Int), i ≤ m ∧ iv = .int .i64 i ∧ kv = .int .i64 a ∧ Hid (Below w1.heap.size w1 wr)) (fun _ iv _ => m - (intOf iv).toNat)
   case atStart => exact ⟨0, _, by omega, rfl, rfl, zh (zB _ _)⟩
   case round =>
    obtain ⟨i, a, hi, rfl, rfl, HW⟩ := hrel
    have q4 := C4.out wr HW.out
    by_cases hlt : i < m
    ·obtain ⟨b, o, rfl, _, hc⟩ := (HS.out.below (HB1.out.trans (HW.out.mono HB1.out.size))).at 5 (fun _ => rfl) (by omega) nt0 (i := i) (by rw [HL.out]; exact hlt)
     have HR := zh (hc i (by rw [HL.out]; exact hlt)); clear hc
     have HC := zh (HI.out i (by rw [HL.out]; exact hlt))
     generalize ks.getD i nt0 = y at *
     go_wp2_with (first
      | (refine wpList_ldIn (by rfl) _ _ rfl b (o + i * 5) rfl _ _ HR.out Tryz.underlying32 rfl (by kernel_rfl) ?_)
      | (go_at_call 75; refine (HC.out _ (HB1.out.trans (HW.out.mono HB1.out.size))).mono ?_; rintro e w2 ⟨⟨q, rfl⟩, hb⟩; have HW2 := zh (HW.out.trans (hb.mono HW.out.size)); clear hb))
     go_roundw
     case rel => exact ⟨i + 1, _, by omega, by go_num, rfl, HW2⟩
     case measure => simp [intOf]; omega
    ·obtain rfl : i = m := by omega
     go_wp2_with fail
     go_ret
     exact ⟨⟨_, rfl⟩, HB.out.trans (HW.out.mono HB.out.size)⟩
end
section
open Go.RowKit
theorem infoNt : (Tryz.prog.info? 32).map (fun i => (i.zero.isSome, i.size)) = some (true, 5) := by kernel_rfl
theorem ntC_one (x : Nt) : (ntC x).toArray.all (·.oneCell') = true := by simp [ntC, Value.oneCell']
theorem wpList_nts {ops : Array Oper} {rest : List Oper} {o : Oper} {a : Act} {w : World} {Q : Exit → Act → World → Prop} (hgd : Region.wanted o (yielded ops a.tmps) = true) (x y : Operand) (ho : o.op = .buildSlice 30 2 #[(0, x), (1, y)])
 (l r : Nt) (hx : a.eval x = .agg (ntC l).toArray) (hy : a.eval y = .agg (ntC r).toArray)
 (h : ∀ w', Ls ntC w' (some ⟨w.heap.size, 0, none⟩) [l, r] → Below w.heap.size w w' → wpList Tryz.prog ops Q rest (a.put o.dst (.slice (some ⟨w.heap.size, 0, none⟩) 2 2)) w') : wpList Tryz.prog ops Q (o :: rest) a w := by
 refine wpList_wanted hgd fun K hK => ?_
 cases hi : Tryz.prog.info? 32 with
 | none => have h0 := infoNt; rw [hi] at h0; cases h0
 | some i =>
   have h2 := infoNt
   rw [hi] at h2
   simp only [Option.map_some, Option.some.injEq, Prod.mk.injEq] at h2
   obtain ⟨z, hz⟩ := Option.isSome_iff_exists.1 h2.1
   have hs := h2.2
   refine wp_buildSlice 30 32 2 _ ho ([l, r].flatMap ntC).toArray i z Tryz.underlying30 hi hz (by rw [hs]; omega) (by rw [hs]; omega) ?_ ?_
   ·rw [show (#[(0, x), (1, y)].map fun (p : Nat × Operand) => (p.1, a.eval p.2)).toList = (([l, r].map fun s => Value.agg (ntC s).toArray).zipIdx 0).map fun x => (x.2, x.1) by simp [hx, hy], hs]
    have := Great.fill_whole (s := 5) (by decide) ([l, r].map fun s => Value.agg (ntC s).toArray) ((Array.range (2 * 5)).map (z.cells[· % z.cells.size]!)) (by
        intro v hv
        obtain ⟨s, _, rfl⟩ := List.mem_map.1 hv
        rfl) (by simp)
    rw [this]
    rfl
   ·refine hK _ _ (h _ (fun _ => ⟨w.heap.size, 0, rfl, by simp, fun j u hu => ?_⟩) ((zB _ _).alloc (zL _) _))
    rw [Nat.zero_add, cell_of_row _ w.heap.size j _ 32 (0, 0) (heap_alloc_new w _)]
    simpa using hu
theorem big10_some (A : Option Addr) (c : Nat) (l r : Nt) (w : World) (hA : Ls ntC w A [l, r]) (hl : NtOk w l) (hr : NtOk w r) :
 Calls Tryz.prog 27 #[.slice A 2 c] w fun e w' => (∃ b : Bool, e = .returned (.bool b)) ∧ Below w.heap.size w w' := by
 have HA := zh hA
 have HM : Hid (∀ k, k < 2 → ∀ W, Below w.heap.size w W → Calls Tryz.prog 75 #[.agg (ntC ([l, r].getD k nt0)).toArray] W fun e w' => (∃ k : Int, e = .returned (.int .i64 k)) ∧ Below W.heap.size W w') := zh fun k hk W hW => by
  rcases (show k = 0 ∨ k = 1 by omega) with rfl | rfl
  ·exact many_some hl W hW
  ·exact many_some hr W hW
 clear hA hl hr
 refine cHid fun Q' hQ => ?_
 have HQ := zh hQ; clear hQ
 go_enter Tryz.func27, Tryz.ntmps27
 go_wp2_with fail
 go_loopw [4, 7] (fun _ kv wr => ∃ k : Nat, k ≤ 2 ∧ kv = .int .i64 k ∧ Hid (Below w.heap.size w wr)) (fun _ kv _ => 2 - (intOf kv).toNat)
 case atStart => exact ⟨0, by omega, rfl, zh (zB _ _)⟩
 case round =>
  obtain ⟨k, hk, rfl, HW⟩ := hrel
  by_cases hlt : k < 2
  ·obtain ⟨b, o, rfl, _, hc⟩ := (HA.out.below HW.out).at 5 (fun _ => rfl) (by omega) nt0 (i := k) (by simpa using hlt)
   have HR := zh (hc k (by simpa using hlt)); clear hc
   have HC := zh (HM.out k hlt)
   generalize [l, r].getD k nt0 = y at *
   have hki : (k : Int) < 2 := by omega
   go_upto_region 4 with (first
        | (refine wpList_ldIn (by rfl) _ _ rfl b (o + k * 5) rfl _ _ HR.out Tryz.underlying32 rfl (by kernel_rfl) ?_)
        | (refine wpList_stRow (by rfl) _ _ _ rfl wr.heap.size (ntC y).toArray rfl rfl _ _ (RowAt.new _ _ _) (by kernel_rfl) rfl (ntC_one y) ?_; intro wc rc he; have HRC := zh rc; have hbw : Below wr.heap.size wr wc := ((zB _ _).alloc (zL _) _).trans (he.below (zL _)); have HWc := zh (HW.out.trans (hbw.mono HW.out.size)); clear rc he hbw))
   go_upto_if 13 with (first
        | (refine wpList_loadS (by rfl) _ _ rfl wr.heap.size rfl _ _ _ HRC.out Tryz.underlying32 rfl (by kernel_rfl) ?_)
        | (go_at_call 75; refine (HC.out _ HWc.out).mono ?_; rintro e w3 ⟨⟨q, rfl⟩, hb3⟩; have HW3 := zh (HWc.out.trans (hb3.mono HWc.out.size)); clear hb3))
   by_cases hq : 300 < q
   ·go_wp2_with fail
    exact HQ.out _ _ ⟨⟨_, rfl⟩, HW3.out⟩
   ·go_wp2_with fail
    go_roundw
    case rel => exact ⟨k + 1, by omega, by go_num, HW3⟩
    case measure => simp [intOf]; omega
  ·obtain rfl : k = 2 := by omega
   go_wp2_with fail
   exact HQ.out _ _ ⟨⟨_, rfl⟩, HW.out⟩
structure CdIn (w : World) (x : Cd) : Prop where
 ws : Ls wdC w x.A x.ws
 ps : Ls pwC w x.B x.ps
 nodes : ∃ l r, x.rest = ntC l ++ ntC r ∧ NtOk w l ∧ NtOk w r
 wmax : x.ws.length ≤ maxLen
 pmax : x.ps.length ≤ maxLen
 nn : x.n.1.size ≤ maxLen
 wn : ∀ t ∈ x.txt, t.size ≤ maxLen
 pn : ∀ p ∈ x.ps, p.1.1.size ≤ maxLen ∧ p.2.1.size ≤ maxLen
theorem CdIn.below {w w' : World} {x : Cd} (h : CdIn w x) (hb : Below w.heap.size w w') : CdIn w' x := by
 obtain ⟨l, r, h1, h2, h3⟩ := h.nodes
 exact ⟨h.ws.below hb, h.ps.below hb, ⟨l, r, h1, h2.lo hb, h3.lo hb⟩, h.wmax, h.pmax, h.nn, h.wn, h.pn⟩
theorem CdIn.ok {w : World} {x : Cd} (h : CdIn w x) (h1 : x.ws.length ≤ 100) (h2 : x.ps.length ≤ 100) : CdOk w w.heap.size x := by
 obtain ⟨l, r, e, _, _⟩ := h.nodes
 exact ⟨h.ws, h.ps, by rw [e]; rfl, by omega, by omega, h.nn, h.wn, h.pn⟩
theorem big12_some (x : Cd) (w : World) (hx : CdIn w x) :
 Calls Tryz.prog 7 #[.agg (cdv x)] w fun e w' => (∃ b : Bool, e = .returned (.bool b) ∧ (b = false → x.ws.length ≤ 100 ∧ x.ps.length ≤ 100)) ∧ Below w.heap.size w w' := by
 have r0 := RowAt.new w 34 (cdv x)
 have hb : Below w.heap.size w (w.alloc (.cells (cdv x) 34)) := (zB _ _).alloc (zL _) _
 refine cHid fun Q' hQ => ?_
 have HQ := zh hQ; clear hQ
 go_enter Tryz.func7, Tryz.ntmps7
 go_upto_region 1 with fail
 change Code.wp _ _ _ _ (w.alloc (.cells (cdv x) 34))
 generalize w.alloc (.cells (cdv x) 34) = w1 at *
 obtain ⟨l, r, hrest, hl, hr⟩ := (hx.below hb).nodes
 have hR1 : w1.rangeAt w.heap.size 7 (ntC l) := r0.range 7 (ntC l) fun j u hu => by
  have hj : j < 5 := (List.getElem?_eq_some_iff.1 hu).1
  unfold cdv
  rw [hrest, zA1, show 7 + j = j + 7 by omega]
  show (ntC l ++ ntC r)[j]? = some u
  rw [List.getElem?_append_left (by exact hj)]; exact hu
 have hR2 : w1.rangeAt w.heap.size 12 (ntC r) := r0.range 12 (ntC r) fun j u hu => by
  have hj : j < 5 := (List.getElem?_eq_some_iff.1 hu).1
  unfold cdv
  rw [hrest, zA1, show 12 + j = (j + 5) + 7 by omega]
  show (ntC l ++ ntC r)[j + 5]? = some u
  rw [List.getElem?_append_right (by show 5 ≤ j + 5; omega)]
  rw [show j + 5 - (ntC l).length = j by show j + 5 - 5 = j; omega]; exact hu
 have HR1 := zh hR1
 have HR2 := zh hR2
 have HB := zh hb
 have HBN := zh fun A c W (hA : Ls ntC W A [l, r]) (hW : Below w1.heap.size w1 W) => big10_some A c l r W hA (hl.lo hW) (hr.lo hW)
 obtain ⟨_, _, d2, _, d4, d5, _⟩ := cd_cells r0
 have hwm := hx.wmax
 have hpm := hx.pmax
 have hnm := hx.nn
 clear r0 hb hR1 hR2 hrest hl hr hx
 generalize x.ws.length = wn at *
 generalize x.ps.length = pn at *
 unfold maxLen at hwm hpm hnm
 by_cases h1 : 100 < wn
 ·go_wp2_with fail
  exact HQ.out _ _ ⟨⟨true, rfl, fun h => by cases h⟩, HB.out⟩
 by_cases h2 : 100 < pn
 ·go_wp2_with fail
  exact HQ.out _ _ ⟨⟨true, rfl, fun h => by cases h⟩, HB.out⟩
 by_cases h3 : 100 < x.n.1.size
 ·go_wp2_with fail
  exact HQ.out _ _ ⟨⟨true, rfl, fun h => by cases h⟩, HB.out⟩
 ·go_wp2_with (first
   | (refine wpList_ldIn (by rfl) _ _ rfl w.heap.size 7 rfl _ _ HR1.out Tryz.underlying32 rfl (by kernel_rfl) ?_)
   | (refine wpList_ldIn (by rfl) _ _ rfl w.heap.size 12 rfl _ _ HR2.out Tryz.underlying32 rfl (by kernel_rfl) ?_)
   | (refine wpList_nts (by rfl) _ _ rfl l r rfl rfl ?_; intro w2 hls hb2; have HL2 := zh hls; have HB2 := zh hb2; clear hls hb2)
   | (go_at_call 27; refine (HBN.out _ _ _ HL2.out HB2.out).mono ?_; rintro e w3 ⟨⟨q, rfl⟩, hb3⟩; have HB3 := zh (HB2.out.trans (hb3.mono HB2.out.size)); clear hb3))
  have hbs := HB.out.size
  exact HQ.out _ _ ⟨⟨q, rfl, fun _ => ⟨by omega, by omega⟩⟩, HB.out.trans (HB3.out.mono hbs)⟩
end
section
open Go.RowKit
structure ScR (w : World) (B : Nat) (s' : Sc) (ll : List (ByteArray × Bool × List Fac)) (vv : List (ByteArray × Int × Int)) : Prop where
 lown : w.ownsRow B 51 3 (.slice s'.LA s'.ls.length s'.lc) s'.ls.length (s'.ls.flatMap latC)
 vown : w.ownsRow B 55 3 (.slice s'.VA s'.vs.length s'.vc) s'.vs.length (s'.vs.flatMap varC)
 lats : ∀ l ∈ s'.ls, LatO w B l
 le : s'.ls.map lcore = ll
 ve : s'.vs = vv
theorem ScR.below {w w' : World} {B : Nat} {s : Sc} {ll : List (ByteArray × Bool × List Fac)} {vv : List (ByteArray × Int × Int)} (h : ScR w B s ll vv) (hb : Below w.heap.size w w') : ScR w' B s ll vv :=
 ⟨own_below h.lown hb (zL _), own_below h.vown hb (zL _), fun l hl => (h.lats l hl).below hb, h.le, h.ve⟩
theorem wp_moreS {P : Program} {w : World} {o : Oper} {a : Act} {K : Act → World → Prop} {Q : Exit → Act → World → Prop} (s x : Operand) (t : TypeId)
 (ho : o.op = .call { callee := .builtin .append, args := #[s, x], argTypes := #[t, t] })
 (e : TypeId) (z : Value) (size bytes : Nat) (ht : P.underlying t = some (.slice e))
 (hinf : (P.info? e).map (fun i => (i.zero, i.size, i.bytes)) = some (some z, size, bytes)) (hzs : z.cells.size = size) (hsz : 0 < size)
 (base : Nat) (A : Option Addr) (n c : Nat) (cs : List Value) (hs : a.eval s = .slice A n c) (hown : w.ownsRow base e size (.slice A n c) n cs)
 (g : Nat) (news : List Value) (hx : a.eval x = .slice (some ⟨g, 0, none⟩) 1 1) (hl : news.length = size)
 (hnews : ∀ j u, news[j]? = some u → w.cell? ⟨g, j, none⟩ = some u) (h1 : ∀ u ∈ news, u.oneCell' = true)
 (hn : n + 1 ≤ maxLen) (hb2 : (n + 1) * bytes ≤ 140737488355328) (hbase : base ≤ w.heap.size)
 (h : ∀ A' c' w', w'.ownsRow base e size (.slice A' (n + 1) c') (n + 1) (cs ++ news) → Below base w w' → w.grownBy w' (Value.slice A n c).ownBlock → ((Value.slice A' (n + 1) c').ownBlock = (Value.slice A n c).ownBlock ∨ (Value.slice A' (n + 1) c').ownBlock = some w.heap.size) → K (a.put o.dst (.slice A' (n + 1) c')) w') :
 o.wp P a w K Q := by
 obtain ⟨i, hi, hz, hi1, hi2⟩ := info_parts hinf
 have hadd : ∀ j, (⟨g, 0, none⟩ : Addr).add j = ⟨g, j, none⟩ := fun j => by unfold Addr.add; split <;> simp_all
 obtain ⟨v', w', hr, hown', hg, _, hat⟩ := run_append_own_at (P := P) w base t o.type e i z size bytes ht hi hz hi1 hi2 hzs hsz (.slice A n c) n cs hown ⟨g, 0, none⟩ 1 1 news (by rw [hl, Nat.one_mul])
  (fun j u hu => by rw [hadd]; exact hnews j u hu) h1 hn hb2 hbase
 obtain ⟨A', c', rfl, _, _⟩ := own_form hown'
 unfold Oper.wp execOp
 simp only [ho, resolve, invoke, builtin, Sem.run_bind, Sem.run_pure, Result.andThen_ok, List.map_toArray, List.map_cons, List.map_nil, hs, hx, hr]
 exact (h A' c' w' hown' ((zB base w).grown hg hbase (fun k hk => (hown.lt k hk).1)) hg hat)
def addL (s : Sc) (x : Cd) : List (ByteArray × Bool × List Fac) := s.ls.map lcore ++ (if (decide ((faultF s x).1 = 0) && dLat x.op) = true then [(x.n.1, shT x.op, (shF s x).map core)] else [])
def addV (s : Sc) (x : Cd) : List (ByteArray × Int × Int) := s.vs ++ (if (decide ((faultF s x).1 = 0) && dVar x.op) = true then x.ws.map fun y => (y.1, kindN x.op, idx s.lnms x.n.1) else [])
theorem run_ft0 (f : Int × Int) (w : World) : (Instr.field 41 (.agg (ftv f)) 0).run Tryz.prog w = .ok (.int .i64 f.1) w := by kernel_rfl
end
section
open Go.RowKit
theorem indexStr_any (A : Option Addr) (c : Nat) (xs : List ByteArray) (F : FuncId) (p : Nat → Bool) (w : World) (hl : xs.length ≤ 4294967296) (hA : Strs w A xs)
 (hf : ∀ args w, (callFunc F args).run Tryz.prog w = .ok (.enter F args) w)
 (H : ∀ j W, j < xs.length → Below w.heap.size w W → Calls Tryz.prog F #[.string (xs.getD j ⟨#[]⟩)] W fun e W' => e = .returned (.bool (p j)) ∧ Below W.heap.size W W') :
 Calls Tryz.prog 80 #[.slice A xs.length c, .func (.func F) #[] #[]] w fun e w' => e = .returned (.int .i64 (NM.fst p xs.length)) ∧ Below w.heap.size w w' := by
 have HH := zh H; clear H
 have HA := zh hA; clear hA
 generalize hn : xs.length = n at *
 have HN := zh hn; clear hn
 have HB0 : Hid (Below w.heap.size w w) := zB _ _
 go_enter Tryz.func80, Tryz.ntmps80
 go_wp2
 go_loopw [8] (fun iv wr => ∃ i : Nat, i ≤ n ∧ iv = .int .i64 i ∧ Hid (∀ j, j < i → p j = false) ∧ Hid (Below w.heap.size w wr)) (fun iv _ => n - (intOf iv).toNat)
 case atStart => exact ⟨0, by omega, rfl, fun j hj => by omega, HB0⟩
 case round =>
  clear HB0
  obtain ⟨i, hi, rfl, HF, HB⟩ := hrel
  by_cases hlt : i < n
  ·obtain ⟨b, o, rfl, hc⟩ := (HA.out.below HB.out).at (k := i) (by rw [HN.out]; exact hlt)
   have p0 := hc i (by rw [HN.out]; exact hlt)
   clear hc
   have HC := zh (HH.out i wr hlt HB.out)
   generalize xs.getD i ⟨#[]⟩ = x at *
   cases hp : p i
   all_goals
        rw [hp] at HC
        have HP := zh hp; clear hp
        go_wp2_with fail
        refine HC.out.mono ?_
        rintro e W ⟨rfl, hb⟩
        have HBW : Hid (Below w.heap.size w W) := zh (HB.out.trans (hb.mono HB.out.size))
        clear hb
        go_wp2
   ·go_roundw
    case rel =>
     refine ⟨i + 1, by omega, by go_num, ?_, HBW⟩
     show ∀ j, j < i + 1 → p j = false
     intro j hj
     by_cases hjk : j = i
     ·rw [hjk]; exact HP.out
     ·exact HF.out j (by omega)
    case measure => simp [intOf]; omega
   ·go_ret
    exact ⟨ret_eq (int_eq (NM.fst_hit hlt HP.out HF.out).symm), HBW.out⟩
  ·obtain rfl : i = n := by omega
   go_wp2
   go_ret
   exact ⟨ret_eq (int_eq (NM.fst_miss HF.out).symm), HB.out⟩
theorem wrongN_any (t : ByteArray) (w : World) : Calls Tryz.prog 28 #[.string t] w fun e w' => e = .returned (.bool (!NM.right t)) ∧ Below w.heap.size w w' := by
 have HR := zh (right_any t w)
 go_enter Tryz.func28, Tryz.ntmps28
 go_wp2_with (go_at_call 29; refine HR.out.mono ?_; rintro e w1 ⟨rfl, hb⟩; have HB := zh hb; clear hb)
 go_ret
 exact ⟨rfl, HB.out⟩
theorem containsN_any (A : Option Addr) (c : Nat) (xs : List ByteArray) (w : World) (hl : xs.length ≤ 4294967296) (hA : Strs w A xs) :
 Calls Tryz.prog 30 #[.slice A xs.length c, .func (.func 28) #[] #[]] w fun e w' => e = .returned (.bool (!xs.all NM.right)) ∧ Below w.heap.size w w' := by
 have HI := zh (indexStr_any A c xs 28 (fun j => !NM.right (xs.getD j ⟨#[]⟩)) w hl hA (fun _ _ => by kernel_rfl) fun j W _ _ => wrongN_any _ W)
 have hE : (!xs.all NM.right) = decide (0 ≤ NM.fst (fun j => !NM.right (xs.getD j ⟨#[]⟩)) xs.length) := by
  rcases NM.fst_cases (fun j => !NM.right (xs.getD j ⟨#[]⟩)) xs.length with ⟨k, hk, e, hp, _⟩ | ⟨e, h0⟩
  ·rw [e, zE (by omega)]
   have : xs.all NM.right = false := by
        rw [List.all_eq_false]
        exact ⟨xs.getD k ⟨#[]⟩, getD_mem' hk, by simpa using hp⟩
   rw [this]; rfl
  ·rw [e, zF (by omega)]
   have : xs.all NM.right = true := by
        rw [List.all_eq_true]
        intro y hy
        obtain ⟨i, hi, rfl⟩ := List.mem_iff_getElem.1 hy
        have := h0 i hi
        rw [List.getD_eq_getElem?_getD, List.getElem?_eq_getElem hi] at this
        simpa using this
   rw [this]; rfl
 rw [hE]
 clear hE
 generalize NM.fst (fun j => !NM.right (xs.getD j ⟨#[]⟩)) xs.length = r at *
 generalize xs.length = n at *
 go_enter Tryz.func30, Tryz.ntmps30
 go_wp2_with (go_at_call 80; refine HI.out.mono ?_; rintro e w1 ⟨rfl, hb⟩; have HB := zh hb; clear hb)
 go_ret
 exact ⟨rfl, HB.out⟩
end
section
open Go.RowKit
def varB (n : Nat) (v : ByteArray × Int × Int) : Bool := (decide (v.2.1 = 1) || decide (v.2.1 = 2)) && (decide (0 ≤ v.2.2) && decide (v.2.2 < (n : Int)))
def rightSc (s : Sc) : Bool := decide (s.ls.length ≤ 16) && (decide (s.vs.length ≤ 64) && (s.ls.all (fun l => rightS l.2.t l.2.fs) && (s.vs.all (varB s.ls.length) && ((s.lnms ++ s.vnms).all NM.right && decide (twc (s.lnms ++ s.vnms) < 0)))))
theorem all_bad {α : Type} {xs : List α} {p : α → Bool} {k : Nat} {d : α} (hk : k < xs.length) (h : p (xs.getD k d) = false) : xs.all p = false := by
 rw [List.all_eq_false]
 exact ⟨_, getD_mem' hk, by rw [h]; simp⟩
theorem all_good {α : Type} {xs : List α} {p : α → Bool} (d : α) (h : ∀ k, k < xs.length → p (xs.getD k d) = true) : xs.all p = true := by
 rw [List.all_eq_true]
 intro y hy
 obtain ⟨i, hi, rfl⟩ := List.mem_iff_getElem.1 hy
 have := h i hi
 rwa [List.getD_eq_getElem?_getD, List.getElem?_eq_getElem hi] at this
theorem right_small {t : ByteArray} (h : NM.right t = true) : t.size ≤ 4294967296 := by
 unfold NM.right at h
 simp only [Bool.and_eq_true, decide_eq_true_eq] at h
 omega
end
section
open Go.RowKit
def wdsK (xs : List ByteArray) (k : Nat) : List (ByteArray × Int) := (List.range k).map fun i => (xs.getD i ⟨#[]⟩, 10 + (i : Int))
theorem wdsK_succ (xs : List ByteArray) (k : Nat) : wdsK xs (k + 1) = wdsK xs k ++ [(xs.getD k ⟨#[]⟩, 10 + (k : Int))] := by
 unfold wdsK
 rw [List.range_succ, List.map_append]; rfl
theorem infoWdS : (Tryz.prog.info? 27).map (fun i => (i.zero, i.size, i.bytes)) = some (some (.agg #[.string ⟨#[]⟩, .int .i64 0]), 2, 24) := by kernel_rfl
theorem words13_any (A : Option Addr) (c : Nat) (xs : List ByteArray) (w : World) (hl : xs.length ≤ 65536) (hA : Strs w A xs) :
 Calls Tryz.prog 38 #[.slice A xs.length c] w fun e w' => ∃ X d, e = .returned (.slice X xs.length d) ∧ w'.ownsRow w.heap.size 27 2 (.slice X xs.length d) xs.length ((wdsK xs xs.length).flatMap wdC) ∧ Below w.heap.size w w' := by
 have HA := zh hA; clear hA
 refine cHid fun Q' hQ => ?_
 have HQ := zh hQ; clear hQ
 generalize hn : xs.length = n at *
 have HN := zh hn; clear hn
 go_enter Tryz.func38, Tryz.ntmps38
 go_wp2_with fail
 go_loopw [3, 8] (fun sv iv wr => ∃ (i d : Nat) (X : Option Addr), i ≤ n ∧ iv = .int .i64 (i : Int) ∧ sv = .slice X i d ∧ Hid (wr.ownsRow w.heap.size 27 2 (.slice X i d) i ((wdsK xs i).flatMap wdC)) ∧ Hid (Below w.heap.size w wr)) (fun _ iv _ => n - (intOf iv).toNat)
 case atStart => exact ⟨0, 0, none, by omega, rfl, rfl, World.ownsRow_nil _ _ _ _, zB _ _⟩
 case round =>
  obtain ⟨i, d, X, hi, rfl, rfl, HO, HW⟩ := hrel
  by_cases hlt : i < n
  ·obtain ⟨b1, o1, rfl, hc1⟩ := (HA.out.below HW.out).at (k := i) (by rw [HN.out]; exact hlt)
   have p0 := hc1 i (by rw [HN.out]; exact hlt)
   have HLT := zh hlt
   have HTK : Hid ((wdsK xs (i + 1)).flatMap wdC = (wdsK xs i).flatMap wdC ++ [.string (xs.getD i ⟨#[]⟩), .int .i64 (10 + (i : Int))]) := zh (by rw [wdsK_succ]; simp [wdC])
   have hi16 : i < 65536 := by omega
   have hw10 : IntKind.i64.wrap (10 + (i : Int)) = 10 + (i : Int) := IntWalk.i64_in _ ⟨by omega, by omega⟩
   clear hc1
   generalize xs.getD i ⟨#[]⟩ = s1 at *
   generalize (wdsK xs i).flatMap wdC = CS at *
   generalize hz10 : 10 + (i : Int) = z10 at *
   go_wp2_with (at_builtin; refine wpList_moreS _ rfl _ _ 28 rfl 27 (.agg #[.string ⟨#[]⟩, .int .i64 0]) 2 24 Tryz.underlying28 infoWdS rfl (by decide) w.heap.size X i d CS rfl ?c1 wr.heap.size [.string s1, .int .i64 z10] rfl rfl (fun j u hu => ((RowAt.new wr 27 #[.string s1, .int .i64 z10]).cell j).trans (by simpa using hu)) (by intro u hu; simp at hu; rcases hu with rfl | rfl <;> rfl) ?c3 ?c4 ?c5 ?_)
   case c1 => exact own_below HO.out ((zB _ _).alloc (zL _) _) (zL _)
   case c3 => simp only [maxLen]; omega
   case c4 => omega
   case c5 => have := HW.out.size; simp; omega
   intro X6 d6 w6 hown6 hb6 hg6 hat6
   have HO6 : Hid (w6.ownsRow w.heap.size 27 2 (.slice X6 (i + 1) d6) (i + 1) ((wdsK xs (i + 1)).flatMap wdC)) := by
        rw [HTK.out]; exact zh hown6
   have HB6 : Hid (Below w.heap.size w w6) := zh ((HW.out.alloc HW.out.size _).trans hb6)
   clear hown6 hb6 hg6 hat6
   go_wp2_with fail
   go_roundw
   case rel => exact ⟨i + 1, d6, X6, by have := HLT.out; omega, by go_num, rfl, HO6.out, HB6.out⟩
   case measure => have := HLT.out; simp [intOf]; omega
  ·obtain rfl : i = n := by omega
   go_wp2_with fail
   exact HQ.out _ _ ⟨X, d, rfl, HO.out, HW.out⟩
end
section
open Go.RowKit RM
theorem ScR.ok {w : World} {B : Nat} {s : Sc} {ll : List (ByteArray × Bool × List Fac)} {vv : List (ByteArray × Int × Int)} (h : ScR w B s ll vv) (h1 : s.ls.length ≤ 65536) (h2 : s.vs.length ≤ 65536) (h3 : ∀ l ∈ s.ls, l.2.fs.length ≤ 65536 ∧ ∀ f ∈ l.2.fs, f.names.length ≤ 65536) (h4 : ∀ x ∈ s.lnms, x.size ≤ maxLen) (h5 : ∀ x ∈ s.vnms, x.size ≤ maxLen) : ScOk w s :=
 ⟨Sl.of_own h.lown, fun l hl => ⟨⟨Sl.of_own (h.lats l hl).own, fun g hg => ((h.lats l hl).fac g hg).ok⟩, fun e => (own_nil (h.lats l hl).own e).2, (h3 l hl).1, (h3 l hl).2⟩, Sl.of_own h.vown, fun e => (own_nil h.lown e).2, fun e => (own_nil h.vown e).2, h1, h2, h4, h5⟩
def bk : ByteArray := ⟨#[107]⟩
def bx : ByteArray := ⟨#[120]⟩
def bab : List ByteArray := [⟨#[97]⟩, ⟨#[98]⟩]
def rest0 : List Value := [.int .i64 0, .int .i64 0, .string ⟨#[]⟩, .slice none 0 0, .slice none 0 0, .int .i64 0, .int .i64 0, .string ⟨#[]⟩, .slice none 0 0, .slice none 0 0]
def sc0 : Sc := ⟨none, 0, [], none, 0, []⟩
def cd0 (X : Option Addr) (d : Nat) : Cd := ⟨1, 0, (bk, 0), X, d, [(⟨#[97]⟩, 10), (⟨#[98]⟩, 11)], none, 0, [], 0, rest0⟩
def cd1 (X : Option Addr) (d : Nat) : Cd := ⟨6, 0, (bk, 0), X, d, [(bx, 10)], none, 0, [], 0, rest0⟩
def fac13 : Fac := ⟨1, none, 0, bab, 0, zs⟩
theorem al_0 (X : Option Addr) (d : Nat) : addL sc0 (cd0 X d) = [(bk, false, [fac13])] := by kernel_rfl
theorem av_0 (X : Option Addr) (d : Nat) : addV sc0 (cd0 X d) = [] := by kernel_rfl
theorem al_1 (X : Option Addr) (d : Nat) (LA VA : Option Addr) (lc vc : Nat) (sh : Shp) : addL ⟨LA, lc, [(bk, sh)], VA, vc, []⟩ (cd1 X d) = [lcore (bk, sh)] := by kernel_rfl
theorem av_1 (X : Option Addr) (d : Nat) (LA VA : Option Addr) (lc vc : Nat) (sh : Shp) : addV ⟨LA, lc, [(bk, sh)], VA, vc, []⟩ (cd1 X d) = [(bx, 1, 0)] := by kernel_rfl
theorem ft_1 (X : Option Addr) (d : Nat) (LA VA : Option Addr) (lc vc : Nat) (sh : Shp) : faultF ⟨LA, lc, [(bk, sh)], VA, vc, [(bx, 1, 0)]⟩ (cd1 X d) = (3, 10) := by kernel_rfl
theorem ix_1 (LA VA : Option Addr) (lc vc : Nat) (sh : Shp) : idx (Sc.lnms ⟨LA, lc, [(bk, sh)], VA, vc, [(bx, 1, 0)]⟩) bx = -1 ∧ idx (Sc.vnms ⟨LA, lc, [(bk, sh)], VA, vc, [(bx, 1, 0)]⟩) bx = 0 := ⟨by kernel_rfl, by kernel_rfl⟩
theorem rt_1 (LA VA : Option Addr) (lc vc : Nat) (sh : Shp) (h1 : sh.t = false) (h2 : sh.fs.map core = [fac13]) : rightSc ⟨LA, lc, [(bk, sh)], VA, vc, [(bx, 1, 0)]⟩ = true := by
 have hr : rightS sh.t sh.fs = true := by
  rw [← rightS_core, h1, h2]
  kernel_rfl
 have e : rightSc ⟨LA, lc, [(bk, sh)], VA, vc, [(bx, 1, 0)]⟩ = (decide (1 ≤ 16) && (decide (1 ≤ 64) && ((rightS sh.t sh.fs && true) && ([((bx, 1, 0) : ByteArray × Int × Int)].all (varB 1) && ([bk, bx].all NM.right && decide (twc [bk, bx] < 0)))))) := rfl
 have e2 : (decide (1 ≤ 16) && (decide (1 ≤ 64) && ((true && true) && ([((bx, 1, 0) : ByteArray × Int × Int)].all (varB 1) && ([bk, bx].all NM.right && decide (twc [bk, bx] < 0)))))) = true := by kernel_rfl
 rw [hr] at e
 exact e.trans e2
theorem one_lat {l : List (ByteArray × Shp)} (h : l.map lcore = [(bk, false, [fac13])]) : ∃ sh, l = [(bk, sh)] ∧ sh.t = false ∧ sh.fs.map core = [fac13] := by
 match l, h with
 | [x], h =>
   obtain ⟨n, sh⟩ := x
   simp only [List.map_cons, List.map_nil, lcore, List.cons.injEq, Prod.mk.injEq, and_true] at h
   obtain ⟨h1, h2, h3⟩ := h
   subst h1
   exact ⟨sh, rfl, h2, h3⟩
 | [], h => simp at h
 | _ :: _ :: _, h => simp at h
theorem fs_small {sh : Shp} (h : sh.fs.map core = [fac13]) : sh.fs.length ≤ 65536 ∧ ∀ f ∈ sh.fs, f.names.length ≤ 65536 := by
 have hl := congrArg List.length h
 rw [List.length_map] at hl
 refine ⟨by simp at hl; omega, fun f hf => ?_⟩
 have hc : core f ∈ [fac13] := by rw [← h]; exact List.mem_map_of_mem hf
 have hc2 : core f = fac13 := by simpa using hc
 have : f.names = bab := by
  have := congrArg Fac.names hc2
  exact this
 rw [this]
 decide
theorem cd_ok {w : World} {X : Option Addr} {d : Nat} {xs : List ByteArray} (op : Int) (hX : Sl w w.heap.size X ((wdsK xs xs.length).flatMap wdC)) (ws : List (ByteArray × Int)) (hw : wdsK xs xs.length = ws) (h1 : ws.length ≤ 65536) (h2 : ∀ t ∈ ws.map Prod.fst, t.size ≤ maxLen) : CdOk w w.heap.size ⟨op, 0, (bk, 0), X, d, ws, none, 0, [], 0, rest0⟩ :=
 ⟨by subst hw; exact hX, Sl.nil _ _ _, rfl, h1, Nat.zero_le _, (show bk.size ≤ maxLen from by decide), h2, fun p hp => by cases hp⟩
end
section
open Go.RowKit
structure ScIn (w : World) (s : Sc) : Prop where
 lats : Ls latC w s.LA s.ls
 fac : ∀ l ∈ s.ls, Facs w l.2.A l.2.fs ∧ (l.2.A = none → l.2.c = 0)
 vars : Ls varC w s.VA s.vs
 lnil : s.LA = none → s.lc = 0
 vnil : s.VA = none → s.vc = 0
 lnm : ∀ x ∈ s.lnms, x.size ≤ maxLen
 vnm : ∀ x ∈ s.vnms, x.size ≤ maxLen
 lmax : s.ls.length ≤ maxLen
 vmax : s.vs.length ≤ maxLen
theorem ScIn.below {w w' : World} {s : Sc} (h : ScIn w s) (hb : Below w.heap.size w w') : ScIn w' s :=
 ⟨h.lats.below hb, fun l hl => ⟨(h.fac l hl).1.below hb, (h.fac l hl).2⟩, h.vars.below hb, h.lnil, h.vnil, h.lnm, h.vnm, h.lmax, h.vmax⟩
def lBig (l : ByteArray × Shp) : Bool := bigShB l.2.fs || decide (40 < l.1.size)
def vBig (v : ByteArray × Int × Int) : Bool := decide (40 < v.1.size)
def bigSc (s : Sc) : Bool := decide (20 < s.ls.length) || (decide (80 < s.vs.length) || (s.ls.any lBig || s.vs.any vBig))
theorem any_yes {α : Type} {xs : List α} {p : α → Bool} {k : Nat} {d : α} (hk : k < xs.length) (h : p (xs.getD k d) = true) : xs.any p = true := by
 rw [List.any_eq_true]
 exact ⟨_, getD_mem' hk, h⟩
theorem any_no {α : Type} {xs : List α} {p : α → Bool} (d : α) (h : ∀ k, k < xs.length → p (xs.getD k d) = false) : xs.any p = false := by
 rw [List.any_eq_false]
 intro y hy
 obtain ⟨i, hi, rfl⟩ := List.mem_iff_getElem.1 hy
 have := h i hi
 rw [List.getD_eq_getElem?_getD, List.getElem?_eq_getElem hi] at this
 simpa using this
theorem ScIn.ok {w : World} {s : Sc} (h : ScIn w s) (hb : bigSc s = false) : ScOk w s := by
 unfold bigSc at hb
 simp only [Bool.or_eq_false_iff, decide_eq_false_iff_not] at hb
 obtain ⟨h1, h2, h3, _⟩ := hb
 refine ⟨h.lats, fun l hl => ?_, h.vars, h.lnil, h.vnil, by omega, by omega, h.lnm, h.vnm⟩
 have hl2 := (List.any_eq_false.1 h3) l hl
 unfold lBig at hl2
 simp only [Bool.not_eq_true, Bool.or_eq_false_iff, decide_eq_false_iff_not] at hl2
 obtain ⟨e1, e2⟩ := big_no hl2.1
 exact ⟨(h.fac l hl).1, (h.fac l hl).2, by omega, fun f hf => by have := e2 f hf; omega⟩
theorem bigSc_any (s : Sc) (w : World) (h : ScIn w s) :
 Calls Tryz.prog 6 #[.agg (scv s)] w fun e w' => e = .returned (.bool (bigSc s)) ∧ Below w.heap.size w w' := by
 have r0 := RowAt.new w 25 (scv s)
 have hb : Below w.heap.size w (w.alloc (.cells (scv s) 25)) := (zB _ _).alloc (zL _) _
 refine cHid fun Q' hQ => ?_
 have HQ := zh hQ; clear hQ
 have HD : Hid (bigSc s = (decide (20 < s.ls.length) || (decide (80 < s.vs.length) || (s.ls.any lBig || s.vs.any vBig)))) := zh rfl
 have HY1 : Hid (∀ k, k < s.ls.length → lBig (s.ls.getD k lat0) = true → bigSc s = true) := zh fun k hk h => by
  unfold bigSc; rw [any_yes hk h]; simp
 have HY2 : Hid (∀ k, k < s.vs.length → vBig (s.vs.getD k var0) = true → bigSc s = true) := zh fun k hk h => by
  unfold bigSc; rw [any_yes hk h]; simp
 have HNO : Hid (s.ls.length ≤ 20 → s.vs.length ≤ 80 → (∀ k, k < s.ls.length → lBig (s.ls.getD k lat0) = false) → (∀ k, k < s.vs.length → vBig (s.vs.getD k var0) = false) → bigSc s = false) := zh fun h1 h2 h3 h4 => by
  unfold bigSc
  rw [any_no lat0 h3, any_no var0 h4, zF (by omega), zF (by omega)]; rfl
 go_enter Tryz.func6, Tryz.ntmps6
 go_upto_region 1 with fail
 change Code.wp _ _ _ _ (w.alloc (.cells (scv s) 25))
 generalize w.alloc (.cells (scv s) 25) = w1 at *
 have HOK := zh (h.below hb)
 have HB := zh hb
 obtain ⟨c0, c1, _, _⟩ := rw2 r0
 have HR0L := zh r0.lt
 have hlm := h.lmax
 have hvm := h.vmax
 clear h hb r0
 generalize hln : s.ls.length = ln at *
 generalize hvn : s.vs.length = vn at *
 have HLN := zh hln; have HVN := zh hvn; clear hln hvn
 by_cases h20 : 20 < ln
 ·have hr : bigSc s = true := by rw [HD.out, zE h20]; simp
  rw [hr] at HQ
  clear HD hr
  go_wp2_with fail
  exact HQ.out _ _ ⟨rfl, HB.out⟩
 by_cases h80 : 80 < vn
 ·have hr : bigSc s = true := by rw [HD.out, zE h80]; simp
  rw [hr] at HQ
  clear HD hr
  go_wp2_with fail
  exact HQ.out _ _ ⟨rfl, HB.out⟩
 clear HD hlm hvm
 go_upto_region 3 with fail
 go_wp2_with fail
 go_loopw [4, 20] (fun _ kv wr => ∃ k : Nat, k ≤ ln ∧ kv = .int .i64 k ∧ Hid (Below w1.heap.size w1 wr) ∧ Hid (∀ j, j < k → lBig (s.ls.getD j lat0) = false)) (fun _ kv _ => ln - (intOf kv).toNat)
 case atStart => exact ⟨0, by omega, rfl, zh (zB _ _), zh fun j hj => by omega⟩
 case round =>
  obtain ⟨k, hk, rfl, HW, HG⟩ := hrel
  by_cases hlt : k < ln
  ·have HLT := zh hlt
   obtain ⟨b, o, hA, _, hc⟩ := (HOK.out.lats.below HW.out).at 3 (fun _ => rfl) (by omega) lat0 (i := k) (by rw [HLN.out]; exact hlt)
   have p0 := hc k (by rw [HLN.out]; exact hlt) 0 _ rfl
   have p1 := hc k (by rw [HLN.out]; exact hlt) 1 _ rfl
   have p2 := hc k (by rw [HLN.out]; exact hlt) 2 _ rfl
   rw [Nat.add_zero] at p0
   have HFC := zh ((HOK.out.fac _ (getD_mem' (d := lat0) (i := k) (by rw [HLN.out]; exact hlt))).1.below HW.out)
   have HYk := zh (HY1.out k hlt)
   have hbx : Below wr.heap.size wr (wr.alloc (.cells #[.string (s.ls.getD k lat0).1, .bool (s.ls.getD k lat0).2.t, .slice (s.ls.getD k lat0).2.A (s.ls.getD k lat0).2.fs.length (s.ls.getD k lat0).2.c] 51)) := (zB _ _).alloc (zL _) _
   have HWx : Hid (Below w1.heap.size w1 (wr.alloc (.cells #[.string (s.ls.getD k lat0).1, .bool (s.ls.getD k lat0).2.t, .slice (s.ls.getD k lat0).2.A (s.ls.getD k lat0).2.fs.length (s.ls.getD k lat0).2.c] 51))) := zh (HW.out.trans (hbx.mono HW.out.size))
   have HRX := zh (RowAt.new wr 51 #[.string (s.ls.getD k lat0).1, .bool (s.ls.getD k lat0).2.t, .slice (s.ls.getD k lat0).2.A (s.ls.getD k lat0).2.fs.length (s.ls.getD k lat0).2.c])
   have HBG := zh (bigS_any (s.ls.getD k lat0).2.t (s.ls.getD k lat0).2.A (s.ls.getD k lat0).2.c (s.ls.getD k lat0).2.fs _ (HFC.out.below hbx))
   have HGk : Hid (lBig (s.ls.getD k lat0) = false → ∀ j, j < k + 1 → lBig (s.ls.getD j lat0) = false) := zh fun h j hj => by
        by_cases e : j = k
        ·rw [e]; exact h
        ·exact HG.out j (by omega)
   have HLD : Hid (lBig (s.ls.getD k lat0) = (bigShB (s.ls.getD k lat0).2.fs || decide (40 < (s.ls.getD k lat0).1.size))) := zh rfl
   clear hc hbx
   generalize s.LA = LA at *
   subst hA
   generalize lBig (s.ls.getD k lat0) = lb at *
   generalize (s.ls.getD k lat0).1 = nm at *
   generalize (s.ls.getD k lat0).2 = sh at *
   generalize bigShB sh.fs = bb at *
   generalize sh.fs.length = fl at *
   go_upto_region 6 with fail
   change Code.wp _ _ _ _ (wr.alloc (.cells #[.string nm, .bool sh.t, .slice sh.A fl sh.c] 51))
   generalize wr.alloc (.cells #[.string nm, .bool sh.t, .slice sh.A fl sh.c] 51) = wc at *
   generalize wr.heap.size = gx at *
   obtain ⟨a0, a1, a2, _, _, _⟩ := rw3 HRX.out
   have HA0 : Hid (∀ W, Below wc.heap.size wc W → W.cell? ⟨gx, 0, none⟩ = some (.string nm)) := zh fun W hW => (hW.cell (p := ⟨gx, 0, none⟩) HRX.out.lt).trans a0
   clear p0 p1 p2
   cases bb with
   | true =>
     have hr : bigSc s = true := HYk.out (by rw [HLD.out]; simp)
     rw [hr] at HQ
     clear hr
     go_wp2_with (go_at_call 18; refine HBG.out.mono ?_; rintro e wd ⟨rfl, hbd⟩; have HBW := zh (HWx.out.trans (hbd.mono HWx.out.size)); clear hbd a0 a1 a2)
     exact HQ.out _ _ ⟨rfl, HB.out.trans (HBW.out.mono (by have := HR0L.out; omega))⟩
   | false =>
     by_cases h40 : 40 < nm.size
     ·have hr : bigSc s = true := HYk.out (by rw [HLD.out, zE h40]; simp)
      rw [hr] at HQ
      clear hr
      go_wp2_with (go_at_call 18; refine HBG.out.mono ?_; rintro e wd ⟨rfl, hbd⟩; have HBW := zh (HWx.out.trans (hbd.mono HWx.out.size)); have b0 := HA0.out _ hbd; clear hbd a0 a1 a2)
      exact HQ.out _ _ ⟨rfl, HB.out.trans (HBW.out.mono (by have := HR0L.out; omega))⟩
     ·have HGk1 := zh (HGk.out (by rw [HLD.out, zF h40]; rfl))
      go_wp2_with (go_at_call 18; refine HBG.out.mono ?_; rintro e wd ⟨rfl, hbd⟩; have HBW := zh (HWx.out.trans (hbd.mono HWx.out.size)); have b0 := HA0.out _ hbd; clear hbd a0 a1 a2)
      go_roundw
      case rel => exact ⟨k + 1, by have := HLT.out; omega, by go_num, HBW, HGk1⟩
      case measure => have := HLT.out; simp [intOf]; omega
  ·obtain rfl : k = ln := by omega
   have d1 : wr.cell? ⟨w.heap.size, 1, none⟩ = some (.slice s.VA vn s.vc) := (HW.out.cell (p := ⟨w.heap.size, 1, none⟩) HR0L.out).trans c1
   clear c0 c1
   go_wp2_with fail
   clear d1
   go_loopw [6, 37] (fun _ kv wq => ∃ m : Nat, m ≤ vn ∧ kv = .int .i64 m ∧ Hid (Below w1.heap.size w1 wq) ∧ Hid (∀ j, j < m → vBig (s.vs.getD j var0) = false)) (fun _ kv _ => vn - (intOf kv).toNat)
   case atStart => exact ⟨0, by omega, rfl, HW, zh fun j hj => by omega⟩
   case round =>
        clear HW
        obtain ⟨m, hm, rfl, HW, HG2⟩ := hrel
        by_cases hlt : m < vn
        ·have HLT := zh hlt
         obtain ⟨b, o, hA, _, hc⟩ := (HOK.out.vars.below HW.out).at 3 (fun _ => rfl) (by omega) var0 (i := m) (by rw [HVN.out]; exact hlt)
         have p0 := hc m (by rw [HVN.out]; exact hlt) 0 _ rfl
         have p1 := hc m (by rw [HVN.out]; exact hlt) 1 _ rfl
         have p2 := hc m (by rw [HVN.out]; exact hlt) 2 _ rfl
         rw [Nat.add_zero] at p0
         have HYm := zh (HY2.out m hlt)
         have HWx : Hid (Below w1.heap.size w1 (wr.alloc (.cells #[.string (s.vs.getD m var0).1, .int .i64 (s.vs.getD m var0).2.1, .int .i64 (s.vs.getD m var0).2.2] 55))) := zh (HW.out.alloc HW.out.size _)
         have HRX := zh (RowAt.new wr 55 #[.string (s.vs.getD m var0).1, .int .i64 (s.vs.getD m var0).2.1, .int .i64 (s.vs.getD m var0).2.2])
         have HGk : Hid (vBig (s.vs.getD m var0) = false → ∀ j, j < m + 1 → vBig (s.vs.getD j var0) = false) := zh fun h j hj => by
          by_cases e : j = m
          ·rw [e]; exact h
          ·exact HG2.out j (by omega)
         have HVD : Hid (vBig (s.vs.getD m var0) = decide (40 < (s.vs.getD m var0).1.size)) := zh rfl
         clear hc
         generalize s.VA = VA at *
         subst hA
         generalize vBig (s.vs.getD m var0) = vb at *
         generalize s.vs.getD m var0 = el at *
         obtain ⟨nm, kd, lt⟩ := el
         simp only at p0 p1 p2 HWx HRX HVD
         go_upto_region 12 with fail
         change Code.wp _ _ _ _ (wr.alloc (.cells #[.string nm, .int .i64 kd, .int .i64 lt] 55))
         generalize wr.alloc (.cells #[.string nm, .int .i64 kd, .int .i64 lt] 55) = wc at *
         generalize wr.heap.size = gx at *
         obtain ⟨a0, _, _, _, _, _⟩ := rw3 HRX.out
         clear p0 p1 p2
         by_cases h40 : 40 < nm.size
         ·have hr : bigSc s = true := HYm.out (by rw [HVD.out, zE h40])
          rw [hr] at HQ
          clear hr
          go_wp2_with fail
          exact HQ.out _ _ ⟨rfl, HB.out.trans (HWx.out.mono (by have := HR0L.out; omega))⟩
         ·have HGk1 := zh (HGk.out (by rw [HVD.out, zF h40]))
          go_wp2_with fail
          go_roundw
          case rel => exact ⟨m + 1, by have := HLT.out; omega, by go_num, HWx, HGk1⟩
          case measure => have := HLT.out; simp [intOf]; omega
        ·obtain rfl : m = vn := by omega
         have hr : bigSc s = false := HNO.out (by omega) (by omega) HG.out HG2.out
         rw [hr] at HQ
         clear hr
         go_wp2_with fail
         exact HQ.out _ _ ⟨rfl, HB.out.trans (HW.out.mono (by have := HR0L.out; omega))⟩
end
section
open Go.RowKit RM
theorem big_few {s : Sc} (h : bigSc s = false) : ∀ l ∈ s.ls, l.2.fs.length ≤ 12 := fun l hl => by
 unfold bigSc at h
 simp only [Bool.or_eq_false_iff] at h
 have h2 := h.2.2.1
 rw [List.any_eq_false] at h2
 have h3 := h2 l hl
 unfold lBig bigShB at h3
 simp at h3
 omega
theorem big_sum {s : Sc} (h : bigSc s = false) (ws : List (ByteArray × Int)) (hw : ws.length ≤ 100) : (flat (dshF s ws)).length ≤ 65536 := by
 have h1 : ∀ y ∈ dshF s ws, y.fs.length ≤ 12 := fun y hy => by
  obtain ⟨l, hl, rfl⟩ := dsh_mem hy
  exact big_few h l hl
 have h2 := flat_bd (dshF s ws) 12 (dshF s ws).length h1
 rw [List.take_length] at h2
 have h3 : (dshF s ws).length ≤ ws.length := dshK_len s ws ws.length
 omega
end
section
open Go.RowKit RM
structure Kept (bc : Nat) (V W : World) : Prop where
 size : V.heap.size ≤ W.heap.size
 blk : ∀ b, bc ≤ b → b < V.heap.size → W.heap[b]? = V.heap[b]?
section
variable {bc : Nat} {V W W' : World}
theorem Kept.refl (bc : Nat) (V : World) : Kept bc V V := ⟨zL _, fun _ _ _ => rfl⟩
theorem Kept.below (h : Kept bc V W) (hb : Below W.heap.size W W') : Kept bc V W' := ⟨zM h.size hb.size, fun b h1 h2 => (hb.block b (zT h2 h.size)).trans (h.blk b h1 h2)⟩
end
structure OutS (w1 W : World) (g : Nat) (o : Sc) : Prop where
 row : RowAt W g 25 (scv o)
 lown : W.ownsRow w1.heap.size 51 3 (.slice o.LA o.ls.length o.lc) o.ls.length (o.ls.flatMap latC)
 vown : W.ownsRow w1.heap.size 55 3 (.slice o.VA o.vs.length o.vc) o.vs.length (o.vs.flatMap varC)
 low : Below w1.heap.size w1 W
theorem OutS.below {w1 W W' : World} {g : Nat} {o : Sc} (h : OutS w1 W g o) (hb : Below W.heap.size W W') : OutS w1 W' g o :=
 ⟨h.row.below hb h.row.lt, own_below h.lown hb (zL _), own_below h.vown hb (zL _), h.low.trans (hb.mono h.low.size)⟩
theorem shF_small {w : World} {s : Sc} {x : Cd} (h : ScOk w s) (hw : x.ws.length ≤ 65536) (hsum : x.op = 3 → (flat (dshF s x.ws)).length ≤ 65536) : (shF s x).length ≤ 65536 ∧ ∀ f ∈ shF s x, f.names.length ≤ 65536 := by
 have ht : x.txt.length ≤ 65536 := by simpa [Cd.txt] using hw
 unfold shF
 by_cases h1 : x.op = 1
 ·rw [if_pos h1]
  exact ⟨by simp, fun f hf => by rw [List.mem_singleton] at hf; subst hf; exact ht⟩
 rw [if_neg h1]
 by_cases h2 : x.op = 2
 ·rw [if_pos h2]
  exact ⟨by simp, fun f hf => by rw [List.mem_singleton] at hf; subst hf; exact ht⟩
 rw [if_neg h2]
 by_cases h3 : x.op = 3
 ·rw [if_pos h3]
  refine ⟨hsum h3, fun f hf => ?_⟩
  obtain ⟨y, hy, hf⟩ := List.mem_flatMap.1 hf
  obtain ⟨l, hl, rfl⟩ := dsh_mem hy
  exact (h.sh l hl).names f hf
 rw [if_neg h3]
 by_cases h4 : x.op = 4
 ·rw [if_pos h4]
  exact ⟨by simp, fun f hf => by rw [List.mem_singleton] at hf; subst hf; exact ht⟩
 rw [if_neg h4]
 by_cases h5 : x.op = 5
 ·rw [if_pos h5]
  exact ⟨by simp, fun f hf => by rw [List.mem_singleton] at hf; subst hf; exact ht⟩
 rw [if_neg h5]
 exact ⟨by simp, fun f hf => by simp at hf⟩
theorem core_names {N : Nat} {gs fs : List Fac} (h : gs.map core = fs.map core) (hf : ∀ f ∈ fs, f.names.length ≤ N) : ∀ g ∈ gs, g.names.length ≤ N := fun g hg => by
 have h1 : core g ∈ fs.map core := by rw [← h]; exact List.mem_map_of_mem hg
 obtain ⟨f, hf1, hf2⟩ := List.mem_map.1 h1
 have h2 := congrArg Fac.names hf2
 have h3 : f.names = g.names := h2
 rw [← h3]; exact hf f hf1
end
section
open Go.RowKit RM
section
variable {ops : Array Oper} {rest : List Oper} {o : Oper} {a : Act} {w : World} {Q : Exit → Act → World → Prop} {S : World → Prop}
end
end
section
open Go.RowKit RM
def sameF (f g : Fac) : Bool := decide (f.kind = g.kind) && (same f.names g.names && eqRel (pts f.n : Nat) (pts g.n : Nat) (cl f.n f.l) (cl g.n g.l))
def sameFs (fs gs : List Fac) : Bool := (List.range fs.length).all fun i => sameF (fs.getD i f0) (gs.getD i f0)
def sameS (t u : Bool) (fs gs : List Fac) : Bool := decide (t = u) && (decide (fs.length = gs.length) && sameFs fs gs)
theorem sameF_no {f g : Fac} (h : ¬ f.kind = g.kind) : sameF f g = false := by unfold sameF; rw [zF h, Bool.false_and]
theorem sameF_yes {f g : Fac} (h : f.kind = g.kind) : sameF f g = (same f.names g.names && eqRel (pts f.n : Nat) (pts g.n : Nat) (cl f.n f.l) (cl g.n g.l)) := by
 unfold sameF; rw [zE h, Bool.true_and]
theorem sameFs_bad {fs gs : List Fac} {k : Nat} (hk : k < fs.length) (h : sameF (fs.getD k f0) (gs.getD k f0) = false) : sameFs fs gs = false := by
 unfold sameFs
 rw [List.all_eq_false]
 exact ⟨k, List.mem_range.2 hk, by rw [h]; simp⟩
theorem sameFs_end {fs gs : List Fac} (h : ∀ k, k < fs.length → sameF (fs.getD k f0) (gs.getD k f0) = true) : sameFs fs gs = true := by
 unfold sameFs
 rw [List.all_eq_true]
 exact fun k hk => h k (List.mem_range.1 hk)
theorem sameF_core {f g : Fac} (h : core f = core g) : sameF f g = true := by
 have h1 : f.kind = g.kind := by have := congrArg Fac.kind h; exact this
 have h2 : f.names = g.names := by have := congrArg Fac.names h; exact this
 have h3 : f.n = g.n := by have := congrArg Fac.n h; exact this
 have h4 : f.l = g.l := by have := congrArg Fac.l h; exact this
 rw [sameF_yes h1, h2, h3, h4, eqRel_true rfl rfl]
 simp [same]
theorem sameS_core {t : Bool} {fs gs : List Fac} (h : fs.map core = gs.map core) : sameS t t fs gs = true := by
 unfold sameS
 rw [zE rfl, zE (core_len h), Bool.true_and, Bool.true_and]
 refine sameFs_end fun k hk => sameF_core ?_
 rw [← getD_core, ← getD_core, h]
end
section
open Go.RowKit RM
theorem sameFactor_any (f g : Fac) (w : World) (hf : FacOk w f) (hg : FacOk w g) (hm : f.names.length ≤ 4294967296) :
 Calls Tryz.prog 59 #[.agg (fv f), .agg (fv g)] w fun x w' => x = .returned (.bool (sameF f g)) ∧ Below w.heap.size w w' := by
 have hlf := hf.rows
 have hlg := hg.rows
 have r0 : RowAt ((w.alloc (.cells (fv f) 100)).alloc (.cells (fv g) 100)) w.heap.size 100 (fv f) := (RowAt.new w _ _).alloc _
 have q0 : RowAt ((w.alloc (.cells (fv f) 100)).alloc (.cells (fv g) 100)) (w.heap.size + 1) 100 (fv g) := by
  have := RowAt.new (w.alloc (.cells (fv f) 100)) 100 (fv g)
  simpa using this
 have HB0 : Hid (Below w.heap.size w ((w.alloc (.cells (fv f) 100)).alloc (.cells (fv g) 100))) := ((zB _ _).alloc (zL _) _).alloc (by simp) _
 have HNM : Hid (∀ W, Below w.heap.size w W → Calls Tryz.prog 108 #[.slice f.A f.names.length f.c, .slice g.A g.names.length g.c] W fun x w' => x = .returned (.bool (same f.names g.names)) ∧ Below W.heap.size W w') := fun W h =>
  same_any _ _ _ _ _ _ W hm (hf.below h).strs (hg.below h).strs
 have HSM : Hid (∀ W, Calls Tryz.prog 109 #[.agg (rv f.n f.l), .agg (rv g.n g.l)] W fun x w' => x = .returned (.bool (eqRel (pts f.n : Nat) (pts g.n : Nat) (cl f.n f.l) (cl g.n g.l))) ∧ Below W.heap.size W w') := fun W => rsame_any _ _ _ _ hlf hlg W
 clear hf hg hm
 by_cases hk : f.kind = g.kind
 ·rw [sameF_yes hk]
  have hkb : (f.kind == g.kind) = true := by simp [hk]
  have hkd : decide (f.kind = g.kind) = true := by simp [hk]
  clear hk
  generalize same f.names g.names = v1 at *
  generalize eqRel (pts f.n : Nat) (pts g.n : Nat) (cl f.n f.l) (cl g.n g.l) = v2 at *
  go_enter Tryz.func59, Tryz.ntmps59
  go_upto_region 1 with fail
  obtain ⟨a0, a1, _, a3⟩ := fac_cells r0
  obtain ⟨b0, b1, _, b3⟩ := fac_cells q0
  generalize (w.alloc (.cells (fv f) 100)).alloc (.cells (fv g) 100) = w0 at *
  go_wp2_with fail
  refine (HNM.out _ HB0.out).mono ?_
  rintro e w1 ⟨rfl, hb⟩
  have r1 := r0.below hb r0.lt
  have q1 := q0.below hb q0.lt
  have HB1 := zh (HB0.out.trans (hb.mono HB0.out.size))
  clear hb r0 q0 HB0
  clear a0 a1 a3 b0 b1 b3
  obtain ⟨a0, a1, _, a3⟩ := fac_cells r1
  obtain ⟨b0, b1, _, b3⟩ := fac_cells q1
  cases v1 with
  | false =>
    go_wp2_with fail
    go_ret
    exact ⟨rfl, HB1.out⟩
  | true =>
    go_wp2_with (first | (refine wpList_loadRelIn (by rfl) _ rfl w.heap.size 2 rfl f.n f.l hlf a3 ?_) | (refine wpList_loadRelIn (by rfl) _ rfl (w.heap.size + 1) 2 rfl g.n g.l hlg b3 ?_))
    refine (HSM.out w1).mono ?_
    rintro e w2 ⟨rfl, hb⟩
    have r2 := r1.below hb r1.lt
    have q2 := q1.below hb q1.lt
    have HB2 := zh (HB1.out.trans (hb.mono HB1.out.size))
    clear hb r1 q1 HB1
    go_wp2_with fail
    go_ret
    exact ⟨rfl, HB2.out⟩
 ·rw [sameF_no hk]
  have hkb : (f.kind == g.kind) = false := by simp [hk]
  have hkd : decide (f.kind = g.kind) = false := by simp [hk]
  clear hk
  obtain ⟨a0, a1, _, a3⟩ := fac_cells r0
  obtain ⟨b0, b1, _, b3⟩ := fac_cells q0
  go_enter Tryz.func59, Tryz.ntmps59
  go_wp2_with fail
  go_ret
  exact ⟨rfl, HB0.out⟩
theorem equalFac_any (A B : Option Addr) (c d : Nat) (fs gs : List Fac) (F : FuncId) (hf : ∀ args w, (callFunc F args).run Tryz.prog w = .ok (.enter F args) w) (w : World) (hF : Facs w A fs) (hG : Facs w B gs) (hlen : fs.length ≤ 4294967296)
 (H : ∀ k, k < fs.length → fs.length = gs.length → ∀ W, Below w.heap.size w W → Calls Tryz.prog F #[.agg (fv (fs.getD k f0)), .agg (fv (gs.getD k f0))] W fun x w' => x = .returned (.bool (sameF (fs.getD k f0) (gs.getD k f0))) ∧ Below W.heap.size W w') :
 Calls Tryz.prog 58 #[.slice A fs.length c, .slice B gs.length d, .func (.func F) #[] #[]] w fun x w' => x = .returned (.bool (decide (fs.length = gs.length) && sameFs fs gs)) ∧ Below w.heap.size w w' := by
 have HB0 : Hid (Below w.heap.size w w) := zB _ _
 by_cases he : fs.length = gs.length
 ·rw [zE he, Bool.true_and]
  have HBA : Hid (∀ k, k < fs.length → sameF (fs.getD k f0) (gs.getD k f0) = false → sameFs fs gs = false) := fun k => sameFs_bad
  have HEND : Hid ((∀ k, k < fs.length → sameF (fs.getD k f0) (gs.getD k f0) = true) → sameFs fs gs = true) := sameFs_end
  have HF : Hid (∀ W, Below w.heap.size w W → Facs W A fs) := fun W h => hF.below h
  have HG : Hid (∀ W, Below w.heap.size w W → Facs W B gs) := fun W h => hG.below h
  have HH : Hid (∀ k, k < fs.length → ∀ W, Below w.heap.size w W → Calls Tryz.prog F #[.agg (fv (fs.getD k f0)), .agg (fv (gs.getD k f0))] W fun x w' => x = .returned (.bool (sameF (fs.getD k f0) (gs.getD k f0))) ∧ Below W.heap.size W w') := fun k hk => H k hk he
  have HE := zh he.symm
  rw [← he]
  clear he H hF hG
  generalize sameFs fs gs = res at *
  generalize hn : fs.length = n at *
  have HN := zh hn; clear hn
  go_enter Tryz.func58, Tryz.ntmps58
  go_wp2_with fail
  go_loopw [7, 8, 9, 17] (fun _ _ _ kv wr => ∃ k : Nat, k ≤ n ∧ kv = .int .i64 k ∧ Hid (∀ j, j < k → sameF (fs.getD j f0) (gs.getD j f0) = true) ∧ Hid (Below w.heap.size w wr)) (fun _ _ _ kv _ => n - (intOf kv).toNat)
  case atStart => exact ⟨0, by omega, rfl, fun j hj => by omega, HB0⟩
  case round =>
   clear HB0
   obtain ⟨k, hk, rfl, HK, HB1⟩ := hrel
   by_cases hlt : k < n
   ·have hFk := HF.out _ HB1.out
    have hGk := HG.out _ HB1.out
    obtain ⟨b, o, rfl, _, _⟩ := hFk.at (k := k) (by rw [HN.out]; exact hlt)
    obtain ⟨b2, o2, rfl, _, _⟩ := hGk.at (k := k) (by rw [HE.out]; exact hlt)
    have hlf := (hFk.okAt (i := k) (by rw [HN.out]; exact hlt)).rows
    have hlg := (hGk.okAt (i := k) (by rw [HE.out]; exact hlt)).rows
    have hrf : wr.rangeAt b (o + k * 67) (fcells (fs.getD k f0)) := hFk.rng (by rw [HN.out]; exact hlt)
    have HRG : Hid (∀ W, Below w.heap.size w W → W.rangeAt b2 (o2 + k * 67) (fcells (gs.getD k f0))) := fun W h => (HG.out W h).rng (by rw [HE.out]; exact hlt)
    have HWF := zh (HH.out k hlt)
    have HBAD := zh (HBA.out k hlt)
    have HKN : Hid (sameF (fs.getD k f0) (gs.getD k f0) = true → ∀ j, j < k + 1 → sameF (fs.getD j f0) (gs.getD j f0) = true) := fun h j hj => by
     by_cases e : j = k
     ·subst e; exact h
     ·exact HK.out j (by omega)
    clear hFk hGk
    generalize sameF (fs.getD k f0) (gs.getD k f0) = sm at *
    generalize fs.getD k f0 = f at *
    generalize gs.getD k f0 = g at *
    go_wp2_with (first | (refine wpList_loadFacIn (by rfl) _ rfl b (o + k * 67) rfl f hlf hrf ?_) | (refine wpList_storeFac (by rfl) _ _ rfl wr.heap.size rfl f hlf rfl _ zero_fac_size (RowAt.new _ _ _) ?_; intro w2 r2 he; have HB2 := zh (below_made HB1.out HB1.out.size he); have hrg := HRG.out _ HB2.out; have hbw : Hid (wr.heap.size < w2.heap.size) := r2.lt; clear he hrf HB1) | (refine wpList_loadFacIn (by rfl) _ rfl b2 (o2 + k * 67) rfl g hlg hrg ?_) | (refine wpList_storeFac (by rfl) _ _ rfl w2.heap.size rfl g hlg rfl _ zero_fac_size (RowAt.new _ _ _) ?_; intro w3 s3 he; have r3 := (r2.alloc (.cells Tryz.zeroCells100 100)).other he (Nat.ne_of_lt r2.lt); have HB3 := zh (below_made HB2.out HB2.out.size he); clear he r2 HB2 hrg) | (refine wpList_loadFac (by rfl) _ rfl wr.heap.size rfl f hlf r3 ?_) | (refine wpList_loadFac (by rfl) _ rfl w2.heap.size rfl g hlg s3 ?_))
    refine (HWF.out _ HB3.out).mono ?_
    rintro e w4 ⟨rfl, hb⟩
    have HB4 := zh (HB3.out.trans (hb.mono HB3.out.size))
    clear hb r3 s3 HB3 HWF HRG
    cases sm with
    | false =>
      have HR2 := zh (HBAD.out rfl)
      clear HBAD HKN
      go_wp2_with fail
      go_ret
      exact ⟨ret_eq (bool_eq HR2.out.symm), HB4.out⟩
    | true =>
      have HKN2 := zh (HKN.out rfl)
      clear HBAD HKN
      go_wp2_with fail
      go_roundw
      case rel => exact ⟨k + 1, by omega, by go_num, HKN2, HB4⟩
      case measure => simp [intOf]; omega
   ·have e : k = n := by omega
    subst e
    have HE2 := zh (HEND.out HK.out)
    go_wp2_with fail
    go_ret
    exact ⟨ret_eq (bool_eq HE2.out.symm), HB1.out⟩
 ·rw [zF he, Bool.false_and]
  have hd : ((fs.length : Int) != (gs.length : Int)) = true := by simp; omega
  clear H hF hG he
  generalize fs.length = n at *
  generalize gs.length = m at *
  go_enter Tryz.func58, Tryz.ntmps58
  go_wp2_with fail
  go_ret
  exact ⟨rfl, HB0.out⟩
theorem ssameS_any (t u : Bool) (A B : Option Addr) (c d : Nat) (fs gs : List Fac) (w : World) (hF : Facs w A fs) (hG : Facs w B gs) (hm : ∀ f ∈ fs, f.names.length ≤ 4294967296) (hlen : fs.length ≤ 4294967296) :
 Calls Tryz.prog 16 #[.agg (sv t A fs.length c), .agg (sv u B gs.length d)] w fun x w' => x = .returned (.bool (sameS t u fs gs)) ∧ Below w.heap.size w w' := by
 have r0 : RowAt ((w.alloc (.cells (sv t A fs.length c) 49)).alloc (.cells (sv u B gs.length d) 49)) w.heap.size 49 (sv t A fs.length c) := (RowAt.new w _ _).alloc _
 have q0 : RowAt ((w.alloc (.cells (sv t A fs.length c) 49)).alloc (.cells (sv u B gs.length d) 49)) (w.heap.size + 1) 49 (sv u B gs.length d) := by
  have := RowAt.new (w.alloc (.cells (sv t A fs.length c) 49)) 49 (sv u B gs.length d)
  simpa using this
 have HB0 : Hid (Below w.heap.size w ((w.alloc (.cells (sv t A fs.length c) 49)).alloc (.cells (sv u B gs.length d) 49))) := ((zB _ _).alloc (zL _) _).alloc (by simp) _
 have HEQ : Hid (∀ W, Below w.heap.size w W → Calls Tryz.prog 58 #[.slice A fs.length c, .slice B gs.length d, .func (.func 59) #[] #[]] W fun x w' => x = .returned (.bool (decide (fs.length = gs.length) && sameFs fs gs)) ∧ Below W.heap.size W w') := fun W h =>
  equalFac_any A B c d fs gs 59 (fun _ _ => by kernel_rfl) W (hF.below h) (hG.below h) hlen fun k hk he W2 h2 =>
   sameFactor_any _ _ W2 (((hF.below h).below h2).okAt hk) (((hG.below h).below h2).okAt (by omega)) (hm _ (getD_memF hk))
 clear hF hG hm hlen
 obtain ⟨c0, c1⟩ := shape_cells r0
 obtain ⟨d0, d1⟩ := shape_cells q0
 unfold sameS
 generalize (decide (fs.length = gs.length) && sameFs fs gs) = v at *
 generalize fs.length = n at *
 generalize gs.length = m at *
 by_cases htu : t = u
 ·subst htu
  rw [zE rfl, Bool.true_and]
  go_enter Tryz.func16, Tryz.ntmps16
  go_upto_region 1 with fail
  generalize (w.alloc (.cells (sv t A n c) 49)).alloc (.cells (sv t B m d) 49) = w0 at *
  go_wp2_with fail
  refine (HEQ.out _ HB0.out).mono ?_
  rintro e w1 ⟨rfl, hb⟩
  have HB1 := zh (HB0.out.trans (hb.mono HB0.out.size))
  clear hb  HB0
  go_wp2_with fail
  go_ret
  exact ⟨rfl, HB1.out⟩
 ·rw [zF htu, Bool.false_and]
  have hd : (t == u) = false := by simp [htu]
  have hd2 : decide (t = u) = false := zF htu
  clear HEQ htu
  go_enter Tryz.func16, Tryz.ntmps16
  go_wp2_with fail
  go_ret
  exact ⟨rfl, HB0.out⟩
end
section
open Go.RowKit RM
theorem take_ldIn {P : Program} {S : World → Prop} {o : Oper} {a : Act} (ty : TypeId) (x : Operand) (ho : o.op = .load ty x) (b k : Nat) (hx : a.eval x = .pointer (some ⟨b, k, none⟩)) (cs : List Value) (d : TypeDesc) (hS : ∀ w, S w → w.rangeAt b k cs)
 (hu : P.underlying ty = some d) (hd : d.isRow = true) (hi : (P.info? ty).map (·.size) = some cs.length) : ∀ w, S w → (execOp a.eval o).run P w = .ok (.value (.agg cs.toArray)) w := by
 intro w h
 unfold execOp
 simp only [ho, hx, Sem.run_bind, Sem.run_pure, Result.andThen_ok, run_loadAt_mid w b k _ _ _ (hS w h) hu hd hi]
end
section
open Go.RowKit RM
theorem big_len1 {s : Sc} (h : bigSc s = false) : s.ls.length ≤ 20 := by
 unfold bigSc at h
 simp only [Bool.or_eq_false_iff, decide_eq_false_iff_not] at h
 omega
theorem big_len2 {s : Sc} (h : bigSc s = false) : s.vs.length ≤ 80 := by
 unfold bigSc at h
 simp only [Bool.or_eq_false_iff, decide_eq_false_iff_not] at h
 omega
end
section
open Go.RowKit RM
theorem nd_of_twc {xs : List ByteArray} (h : ∀ j, j < xs.length → ¬ idx xs (xs.getD j ⟨#[]⟩) < (j : Int)) : xs.Nodup := by
 unfold List.Nodup
 rw [List.pairwise_iff_getElem]
 intro i j hi hj hij e
 have h1 := h j hj
 have hg : xs.getD j ⟨#[]⟩ = xs[j] := by rw [List.getD_eq_getElem?_getD, List.getElem?_eq_getElem hj]; rfl
 unfold idx at h1
 rcases NM.fst_cases (fun k => decide (xs.getD k ⟨#[]⟩ = xs.getD j ⟨#[]⟩)) xs.length with ⟨k, hk, e1, hp, h0⟩ | ⟨e1, h0⟩
 ·rw [e1] at h1
  have h2 := h0 i (by omega)
  have hgi : xs.getD i ⟨#[]⟩ = xs[i] := by rw [List.getD_eq_getElem?_getD, List.getElem?_eq_getElem hi]; rfl
  rw [hg, hgi, e] at h2
  simp at h2
 ·rw [e1] at h1; omega
theorem twc_iff (xs : List ByteArray) : twc xs < 0 ↔ xs.Nodup := by
 constructor
 ·intro h
  refine nd_of_twc fun j hj => ?_
  have h2 : decide (twc xs < 0) = true := zE h
  unfold twc at h2
  rw [NM.fst_neg] at h2
  have h3 := of_decide_eq_true h2 j hj
  unfold twice at h3
  exact of_decide_eq_false h3
 ·intro h
  unfold twc
  rcases NM.fst_cases (twice xs) xs.length with ⟨j, hj, e, hp, _⟩ | ⟨e, _⟩
  ·exfalso
   unfold twice at hp
   have hp2 := of_decide_eq_true hp
   unfold idx at hp2
   rcases NM.fst_cases (fun k => decide (xs.getD k ⟨#[]⟩ = xs.getD j ⟨#[]⟩)) xs.length with ⟨k, hk, e1, hq, _⟩ | ⟨e1, h0⟩
   ·rw [e1] at hp2
    have hq2 := of_decide_eq_true hq
    rw [List.getD_eq_getElem?_getD, List.getElem?_eq_getElem hk, List.getD_eq_getElem?_getD, List.getElem?_eq_getElem hj] at hq2
    unfold List.Nodup at h
    rw [List.pairwise_iff_getElem] at h
    exact h k j hk hj (by omega) (by simpa using hq2)
   ·have := h0 j hj
    simp at this
  ·rw [e]; omega
theorem step_zero {b f : Int × Int} (h : (stepF b f).1 = 0) : b.1 = 0 ∧ f.1 = 0 := by
 unfold stepF at h
 by_cases h1 : f.1 = 0
 ·rw [if_pos h1] at h; exact ⟨h, h1⟩
 ·rw [if_neg h1] at h
  by_cases h2 : b.1 = 0
  ·rw [if_pos h2] at h; exact absurd h h1
  ·rw [if_neg h2] at h
   split at h
   ·exact absurd h h1
   ·exact absurd h h2
theorem fold_zero (l : List (Int × Int)) : ∀ b : Int × Int, (l.foldl stepF b).1 = 0 → b.1 = 0 ∧ ∀ f ∈ l, f.1 = 0 := by
 induction l with
 | nil => intro b h; exact ⟨h, fun f hf => by cases hf⟩
 | cons x l ih =>
   intro b h
   obtain ⟨h1, h2⟩ := ih _ h
   obtain ⟨h3, h4⟩ := step_zero h1
   exact ⟨h3, fun f hf => by
    rcases List.mem_cons.1 hf with rfl | hf
    ·exact h4
    ·exact h2 f hf⟩
theorem ix_neg (ys : List ByteArray) (s : ByteArray) : idx ys s < 0 ↔ s ∉ ys := by
 unfold idx
 rcases NM.fst_cases (fun j => decide (ys.getD j ⟨#[]⟩ = s)) ys.length with ⟨k, hk, e, hp, h0⟩ | ⟨e, h0⟩
 ·rw [e]
  constructor
  ·intro h; omega
  ·intro h
   have hp2 : ys.getD k ⟨#[]⟩ = s := by simpa using hp
   exact absurd (hp2 ▸ getD_mem' hk) h
 ·rw [e]
  constructor
  ·intro _ hm
   obtain ⟨j, hj, he⟩ := List.mem_iff_getElem.1 hm
   have := h0 j hj
   rw [List.getD_eq_getElem?_getD, List.getElem?_eq_getElem hj] at this
   simp [he] at this
  ·intro _; omega
theorem too_lt {s : Sc} {x : Cd} (hl : dLat x.op = true) (hm : tooB s x = false) : s.ls.length < 16 := by
 unfold tooB at hm
 by_cases h : (dLat x.op && decide (16 ≤ s.ls.length)) = true
 ·rw [if_pos h] at hm; cases hm
 ·rw [hl, Bool.true_and, decide_eq_true_eq] at h; omega
theorem too_rest {s : Sc} {x : Cd} (hm : tooB s x = false) : (if x.op = 1 ∨ x.op = 2 ∨ x.op = 5 then decide (64 < x.ws.length)
 else if x.op = 4 then decide (8 < x.ws.length)
 else if x.op = 3 then decide (8 < (flat (dshF s x.ws)).length)
 else decide (64 < s.vs.length + x.ws.length)) = false := by
 unfold tooB at hm
 by_cases h : (dLat x.op && decide (16 ≤ s.ls.length)) = true
 ·rw [if_pos h] at hm; cases hm
 ·rw [if_neg h] at hm; exact hm
structure Well (s : Sc) (x : Cd) : Prop where
 many : tooB s x = false
 ord : x.op = 5 → x.ws.length ≤ 64 → latB ((pts (x.ws.length : Nat) : Nat) : Int) (relF x) = true
 nmV : dVar x.op = true → 0 ≤ idx s.lnms x.n.1
 nmL : dVar x.op = false → idx s.lnms x.n.1 < 0 ∧ idx s.vnms x.n.1 < 0
 prod : x.op = 3 → ∀ i, i < x.ws.length → 0 ≤ idx s.lnms (x.ws.getD i wd0).1
 once : x.op ≠ 3 → ∀ i, i < x.ws.length → ¬ idx x.txt (x.ws.getD i wd0).1 < (i : Int)
 new : dVar x.op = true → ∀ i, i < x.ws.length → idx s.lnms (x.ws.getD i wd0).1 < 0 ∧ idx s.vnms (x.ws.getD i wd0).1 < 0
theorem cls_0 {fL fV : ByteArray → Int} {t : ByteArray} (h : clsF fL fV t = 0) : 0 ≤ fL t := by
 unfold clsF at h
 split at h
 ·assumption
 ·split at h <;> omega
theorem cls_3 {fL fV : ByteArray → Int} {t : ByteArray} (h : clsF fL fV t = 3) : fL t < 0 ∧ fV t < 0 := by
 unfold clsF at h
 split at h
 ·omega
 ·split at h <;> omega
theorem well_of {s : Sc} {x : Cd} (hd : (dLat x.op || dVar x.op) = true) (h : (faultF s x).1 = 0) : Well s x := by
 unfold faultF at h
 rw [if_pos hd] at h
 have h0 := (fold_zero _ _ h).2
 have hN : ∀ f ∈ nameF (idx s.lnms) (idx s.vnms) x, f.1 = 0 := fun f hf => h0 f (by simp only [List.mem_append]; exact .inl (.inl (.inl (.inl hf))))
 have hS : ∀ i, i < x.ws.length → ∀ f ∈ nmS (idx s.lnms) (idx s.vnms) x i, f.1 = 0 := fun i hi f hf => h0 f (by
  simp only [List.mem_append]
  refine .inl (.inl (.inl (.inr ?_)))
  unfold namesF namesK
  exact List.mem_flatMap.2 ⟨i, List.mem_range.2 hi, hf⟩)
 have hO : ∀ f ∈ ordF x, f.1 = 0 := fun f hf => h0 f (by simp only [List.mem_append]; exact .inl (.inr hf))
 have hL : ∀ f ∈ limF s x, f.1 = 0 := fun f hf => h0 f (by simp only [List.mem_append]; exact .inr hf)
 have hS2 : ∀ i, i < x.ws.length → x.op ≠ 3 → ¬ idx x.txt (x.ws.getD i wd0).1 < (i : Int) ∧ (dVar x.op = true → clsF (idx s.lnms) (idx s.vnms) (x.ws.getD i wd0).1 = 3) := by
  intro i hi h3
  have := hS i hi
  unfold nmS at this
  rw [if_neg h3] at this
  by_cases hb : (decide (idx x.txt (x.ws.getD i wd0).1 < i) || (dVar x.op && (clsF (idx s.lnms) (idx s.vnms) (x.ws.getD i wd0).1 != 3))) = true
  ·rw [if_pos hb] at this
   exact absurd (this _ (List.mem_singleton.2 rfl)) (by show ¬ ((3 : Int) = 0); decide)
  ·rw [Bool.or_eq_true, not_or] at hb
   refine ⟨fun hlt => hb.1 (zE hlt), fun hv => ?_⟩
   have h2 := hb.2
   rw [hv, Bool.true_and] at h2
   simpa using h2
 refine ⟨?_, ?_, ?_, ?_, ?_, ?_, ?_⟩
 ·cases ht : tooB s x
  ·rfl
  ·unfold limF at hL
   rw [ht, if_pos rfl] at hL
   exact absurd (hL _ (List.mem_singleton.2 rfl)) (by show ¬ ((7 : Int) = 0); decide)
 ·intro h5 h64
  cases hl : latB ((pts (x.ws.length : Nat) : Nat) : Int) (relF x)
  ·unfold ordF at hO
   rw [hl, zE h5, zE h64, if_pos (by rfl)] at hO
   exact absurd (hO _ (List.mem_singleton.2 rfl)) (by show ¬ ((5 : Int) = 0); decide)
  ·rfl
 ·intro hv
  unfold nameF at hN
  rw [if_pos hv] at hN
  exact cls_0 (hN _ (List.mem_singleton.2 rfl))
 ·intro hv
  unfold nameF at hN
  rw [hv, if_neg (by simp)] at hN
  by_cases h3 : clsF (idx s.lnms) (idx s.vnms) x.n.1 = 3
  ·exact cls_3 h3
  ·rw [if_pos (by simpa using h3)] at hN
   exact absurd (hN _ (List.mem_singleton.2 rfl)) (by show ¬ ((3 : Int) = 0); decide)
 ·intro h3 i hi
  have := hS i hi
  unfold nmS at this
  rw [if_pos h3] at this
  exact cls_0 (this _ (List.mem_singleton.2 rfl))
 ·intro h3 i hi
  exact (hS2 i hi h3).1
 ·intro hv i hi
  have h3 : x.op ≠ 3 := by
   intro e
   rw [e] at hv
   exact absurd hv (by decide)
  exact cls_3 ((hS2 i hi h3).2 hv)
structure RtC (ll : List (ByteArray × Bool × List Fac)) (vv : List (ByteArray × Int × Int)) : Prop where
 few : ll.length ≤ 16
 vfew : vv.length ≤ 64
 sh : ∀ l ∈ ll, rightS l.2.1 l.2.2 = true
 va : ∀ v ∈ vv, varB ll.length v = true
 nm : ∀ t ∈ ll.map (·.1) ++ vv.map (·.1), NM.right t = true
 nd : (ll.map (·.1) ++ vv.map (·.1)).Nodup
theorem rightS_cr (t : Bool) (fs : List Fac) : rightS t (fs.map core) = rightS t fs := by
 unfold rightS
 rw [List.length_map, List.all_map]
 rfl
theorem lnms_core (s : Sc) : (s.ls.map lcore).map (·.1) = s.lnms := by
 unfold Sc.lnms
 rw [List.map_map]; rfl
theorem rt_iff (s : Sc) : rightSc s = true ↔ RtC (s.ls.map lcore) s.vs := by
 unfold rightSc
 simp only [Bool.and_eq_true, decide_eq_true_eq, List.all_eq_true, twc_iff]
 constructor
 ·rintro ⟨h1, h2, h3, h4, h5, h6⟩
  refine ⟨by rw [List.length_map]; exact h1, h2, ?_, by rw [List.length_map]; exact h4, ?_, ?_⟩
  ·intro l hl
   obtain ⟨m, hm, rfl⟩ := List.mem_map.1 hl
   exact (rightS_cr _ _).trans (h3 m hm)
  ·rw [lnms_core]; exact h5
  ·rw [lnms_core]; exact h6
 ·rintro ⟨h1, h2, h3, h4, h5, h6⟩
  rw [List.length_map] at h1 h4
  rw [lnms_core] at h5 h6
  refine ⟨h1, h2, ?_, h4, h5, h6⟩
  intro l hl
  exact (rightS_cr _ _).symm.trans (h3 _ (List.mem_map.2 ⟨l, hl, rfl⟩))
def NmOk (x : Cd) : Prop := (dLat x.op || dVar x.op) = true → NM.right x.n.1 = true ∧ (∀ y ∈ x.ws, NM.right y.1 = true) ∧ 1 ≤ x.ws.length
theorem txt_named {s : Sc} {x : Cd} (hw : Well s x) (h3 : x.op ≠ 3) (hl : dLat x.op = true) (hn : NmOk x) : namedB x.txt = true := by
 obtain ⟨_, hr, h1⟩ := hn (by rw [hl]; rfl)
 have hlen : x.txt.length = x.ws.length := by simp [Cd.txt]
 have hmany := hw.many
 have h64 : x.ws.length ≤ 64 := by
  have hr2 := too_rest hmany
  unfold dLat at hl
  rw [decide_eq_true_eq] at hl
  by_cases ho : x.op = 1 ∨ x.op = 2 ∨ x.op = 5
  ·rw [if_pos ho, decide_eq_false_iff_not] at hr2; omega
  ·rw [if_neg ho, if_pos (by omega), decide_eq_false_iff_not] at hr2; omega
 unfold namedB
 simp only [Bool.and_eq_true, decide_eq_true_eq, List.all_eq_true]
 refine ⟨⟨⟨by omega, by omega⟩, ?_⟩, ?_⟩
 ·intro t ht
  obtain ⟨y, hy, rfl⟩ := List.mem_map.1 ht
  exact hr y hy
 ·rw [twc_iff]
  refine nd_of_twc fun j hj => ?_
  rw [txt_get x (by omega)]
  exact hw.once h3 j (by omega)
theorem cz_closedB (n : Int) (l : List Nat) : closedB ((pts n : Nat) : Int) (cz n l) = true := by
 unfold closedB; rw [cl_cz, cz_cz]; simp
theorem flat_all {L : List Shp} {p : Fac → Bool} (h : ∀ y ∈ L, y.fs.all p = true) : (flat L).all p = true := by
 unfold flat
 rw [List.all_eq_true]
 intro f hf
 obtain ⟨y, hy, hf⟩ := List.mem_flatMap.1 hf
 exact List.all_eq_true.1 (h y hy) f hf
theorem shp_right {s : Sc} {x : Cd} (hr : RtC (s.ls.map lcore) s.vs) (hw : Well s x) (hl : dLat x.op = true) (hn : NmOk x) : rightS (shT x.op) (shF s x) = true := by
 have hl2 := hl
 unfold dLat at hl2
 rw [decide_eq_true_eq] at hl2
 have hlen : x.txt.length = x.ws.length := by simp [Cd.txt]
 obtain ⟨_, _, h1⟩ := hn (by rw [hl]; rfl)
 have hsh : ∀ l ∈ s.ls, rightS l.2.t l.2.fs = true := fun l hl => (rightS_cr _ _).symm.trans (hr.sh _ (List.mem_map.2 ⟨l, hl, rfl⟩))
 have hm := too_rest hw.many
 by_cases h3 : x.op = 3
 ·unfold shF
  rw [if_neg (by omega), if_neg (by omega), if_pos h3]
  unfold shT
  rw [zE h3]
  unfold rightS
  simp only [Bool.true_or, Bool.and_true, Bool.and_eq_true, decide_eq_true_eq]
  have hle : (flat (dshF s x.ws)).length ≤ 8 := by
   rw [if_neg (by omega), if_neg (by omega), if_pos h3, decide_eq_false_iff_not] at hm; omega
  refine ⟨⟨?_, hle⟩, ?_⟩
  ·have h0 := hw.prod h3 0 (by omega)
   have hin : dshI s (x.ws.getD 0 wd0).1 = [(s.ls.getD (idx s.lnms (x.ws.getD 0 wd0).1).toNat lat0).2] := by unfold dshI; rw [if_pos h0]
   have hy : (s.ls.getD (idx s.lnms (x.ws.getD 0 wd0).1).toNat lat0).2 ∈ dshF s x.ws := by
        unfold dshF dshK
        refine List.mem_flatMap.2 ⟨0, List.mem_range.2 (by omega), ?_⟩
        rw [hin]
        exact List.mem_singleton.2 rfl
   obtain ⟨l, hls, he⟩ := dsh_mem hy
   have hr1 := hsh l hls
   rw [he] at hr1
   unfold rightS at hr1
   simp only [Bool.and_eq_true, decide_eq_true_eq] at hr1
   have hpos := hr1.1.1.1
   generalize (s.ls.getD (idx s.lnms (x.ws.getD 0 wd0).1).toNat lat0).2 = y at *
   cases hfs : y.fs with
   | nil => rw [hfs] at hpos; simp at hpos
   | cons f fs =>
     have hf : f ∈ flat (dshF s x.ws) := by
      unfold flat
      exact List.mem_flatMap.2 ⟨y, hy, by rw [hfs]; exact List.mem_cons_self ..⟩
     cases hfl : flat (dshF s x.ws) with
     | nil => rw [hfl] at hf; cases hf
     | cons a b => simp
  ·refine flat_all fun y hy => ?_
   obtain ⟨l, hls, he⟩ := dsh_mem hy
   have hr1 := hsh l hls
   rw [he] at hr1
   unfold rightS at hr1
   exact (Bool.and_eq_true_iff.1 hr1).2
 ·have hnm := txt_named hw h3 hl hn
  obtain ⟨hx1, hx2⟩ := named_len hnm
  have hp : pts (x.ws.length : Nat) = x.ws.length := by
   have := pts_in (n := ((x.ws.length : Nat) : Int)) (by omega) (by omega)
   omega
  have one : ∀ f : Fac, facB f = true → rightS (shT x.op) [f] = true := by
   intro f hf
   unfold rightS
   simp [hf]
  unfold shF
  by_cases e1 : x.op = 1
  ·rw [if_pos e1]
   refine one _ ?_
   unfold facB relB
   rw [hnm, if_pos (.inl rfl)]; rfl
  ·rw [if_neg e1]
   by_cases e2 : x.op = 2
   ·rw [if_pos e2]
    refine one _ ?_
    unfold facB relB
    rw [hnm, if_pos (.inr rfl)]; rfl
   ·rw [if_neg e2, if_neg h3]
    by_cases e4 : x.op = 4
    ·rw [if_pos e4]
     refine one _ ?_
     have h8 : x.ws.length ≤ 8 := by
      rw [if_neg (by omega), if_pos e4, decide_eq_false_iff_not] at hm; omega
     show (namedB x.txt && relB 3 ((pts (x.ws.length : Nat) : Nat) : Int) (relF x) x.txt.length) = true
     rw [hnm, Bool.true_and]
     unfold relB
     rw [if_neg (by omega), if_pos rfl]
     rw [Bool.and_eq_true, decide_eq_true_eq]
     refine ⟨by omega, ?_⟩
     rw [right_in (by omega) (by omega)]
     exact cz_closedB _ _
    ·have e5 : x.op = 5 := by omega
     rw [if_neg e4, if_pos e5]
     refine one _ ?_
     show (namedB x.txt && relB 4 ((pts (x.ws.length : Nat) : Nat) : Int) (relF x) x.txt.length) = true
     rw [hnm, Bool.true_and]
     unfold relB
     rw [if_neg (by omega), if_neg (by omega), if_pos rfl]
     rw [Bool.and_eq_true, decide_eq_true_eq]
     exact ⟨by omega, hw.ord e5 (by omega)⟩
theorem rt_keep {s : Sc} {x : Cd} (hr : RtC (s.ls.map lcore) s.vs) (hn : NmOk x) : RtC (addL s x) (addV s x) := by
 unfold addL addV
 by_cases h0 : (faultF s x).1 = 0
 ·rw [zE h0, Bool.true_and, Bool.true_and]
  cases hl : dLat x.op with
  | true =>
    have hv : dVar x.op = false := by
        unfold dLat at hl; unfold dVar
        rw [decide_eq_true_eq] at hl
        rw [decide_eq_false_iff_not]; omega
    rw [hv, if_pos rfl, if_neg (by simp), List.append_nil]
    have hw := well_of (by rw [hl]; rfl) h0
    obtain ⟨hnr, _, _⟩ := hn (by rw [hl]; rfl)
    obtain ⟨a1, a2⟩ := hw.nmL hv
    rw [ix_neg] at a1 a2
    have h16 : s.ls.length < 16 := too_lt hl hw.many
    refine ⟨?_, hr.vfew, ?_, ?_, ?_, ?_⟩
    ·simp; omega
    ·intro l h
     rcases List.mem_append.1 h with h | h
     ·exact hr.sh l h
     ·rw [List.mem_singleton] at h
      subst h
      exact (rightS_cr _ _).trans (shp_right hr hw hl hn)
    ·intro v h
     have := hr.va v h
     unfold varB at this ⊢
     simp only [Bool.and_eq_true, decide_eq_true_eq] at this ⊢
     refine ⟨this.1, this.2.1, ?_⟩
     rw [zA7]
     have := this.2.2
     simp only [zA8, zA9]
     omega
    ·intro t h
     rw [List.map_append, List.append_assoc] at h
     rcases List.mem_append.1 h with h | h
     ·exact hr.nm t (List.mem_append.2 (.inl h))
     ·rcases List.mem_append.1 h with h | h
      ·simp only [List.map_cons, List.map_nil, List.mem_singleton] at h
       rw [h]; exact hnr
      ·exact hr.nm t (List.mem_append.2 (.inr h))
    ·have hnd := hr.nd
     rw [lnms_core] at hnd
     rw [List.map_append, lnms_core, List.append_assoc]
     show (s.lnms ++ (x.n.1 :: s.vnms)).Nodup
     rw [List.nodup_append] at hnd ⊢
     refine ⟨hnd.1, ?_, ?_⟩
     ·rw [List.nodup_cons]; exact ⟨a2, hnd.2.1⟩
     ·intro a ha b hb
      rcases List.mem_cons.1 hb with rfl | hb
      ·intro e; exact a1 (e ▸ ha)
      ·exact hnd.2.2 a ha b hb
  | false =>
    rw [if_neg (by simp), List.append_nil]
    cases hv : dVar x.op with
    | false =>
      rw [if_neg (by simp), List.append_nil]
      exact hr
    | true =>
      rw [if_pos rfl]
      have hw := well_of (by rw [hv, Bool.or_true]) h0
      obtain ⟨_, hwr, _⟩ := hn (by rw [hv, Bool.or_true])
      have hop : x.op = 6 ∨ x.op = 7 := by
       unfold dVar at hv
       exact of_decide_eq_true hv
      have h64 : s.vs.length + x.ws.length ≤ 64 := by
       have hm := too_rest hw.many
       rw [if_neg (by omega), if_neg (by omega), if_neg (by omega), decide_eq_false_iff_not] at hm
       omega
      have hix := hw.nmV hv
      have hilt : idx s.lnms x.n.1 < (s.ls.length : Int) := by
       have := (idn_bd s.lnms s.lnms.length x.n.1).2
       rw [idn_all] at this
       have hlen : s.lnms.length = s.ls.length := by simp [Sc.lnms]
       omega
      have htxt : (x.ws.map fun y => (y.1, kindN x.op, idx s.lnms x.n.1)).map (·.1) = x.txt := by
       unfold Cd.txt
       rw [List.map_map]; rfl
      have hnew : ∀ t ∈ x.txt, t ∉ s.lnms ∧ t ∉ s.vnms := by
       intro t ht
       obtain ⟨i, hi, rfl⟩ := List.mem_iff_getElem.1 ht
       have hlen : x.txt.length = x.ws.length := by simp [Cd.txt]
       have hg : x.txt[i] = (x.ws.getD i wd0).1 := by
          rw [← txt_get x (by omega), List.getD_eq_getElem?_getD, List.getElem?_eq_getElem hi]; rfl
       rw [hg]
       obtain ⟨b1, b2⟩ := hw.new hv i (by omega)
       exact ⟨(ix_neg _ _).1 b1, (ix_neg _ _).1 b2⟩
      refine ⟨hr.few, ?_, hr.sh, ?_, ?_, ?_⟩
      ·rw [zA7, List.length_map]; exact h64
      ·intro v h
       rcases List.mem_append.1 h with h | h
       ·exact hr.va v h
       ·obtain ⟨y, _, rfl⟩ := List.mem_map.1 h
        unfold varB kindN
        simp only [Bool.and_eq_true, decide_eq_true_eq, Bool.or_eq_true, List.length_map]
        refine ⟨?_, hix, hilt⟩
        rcases hop with e | e <;> rw [e] <;> simp
      ·intro t h
       rw [List.map_append, htxt, ← List.append_assoc] at h
       rcases List.mem_append.1 h with h | h
       ·exact hr.nm t h
       ·obtain ⟨y, hy, rfl⟩ := List.mem_map.1 h
        exact hwr y hy
      ·have hnd := hr.nd
       rw [lnms_core] at hnd
       rw [List.map_append, htxt, lnms_core, ← List.append_assoc]
       rw [List.nodup_append]
       refine ⟨hnd, ?_, ?_⟩
       ·refine nd_of_twc fun j hj => ?_
        have hlen : x.txt.length = x.ws.length := by simp [Cd.txt]
        rw [txt_get x (by omega)]
        exact hw.once (by omega) j (by omega)
       ·intro a ha b hb e
        obtain ⟨n1, n2⟩ := hnew b hb
        subst e
        rcases List.mem_append.1 ha with ha | ha
        ·exact n1 ha
        ·exact n2 ha
 ·rw [zF h0, Bool.false_and, Bool.false_and, if_neg (by simp), if_neg (by simp), List.append_nil, List.append_nil]
  exact hr
end
section
open Go.RowKit RM
theorem fold_keep (l : List (Int × Int)) : ∀ b : Int × Int, (l.foldl stepF b).1 = 0 → l.foldl stepF b = b := by
 induction l with
 | nil => intro b _; rfl
 | cons x l ih =>
   intro b h
   have h1 : (l.foldl stepF (stepF b x)).1 = 0 := h
   have h2 := (fold_zero _ _ h1).1
   have h3 := (step_zero h2).2
   show l.foldl stepF (stepF b x) = b
   rw [ih _ h1]
   unfold stepF
   rw [if_pos h3]
theorem fault_zero {s : Sc} {x : Cd} (h : (faultF s x).1 = 0) : faultF s x = (0, 0) := by
 unfold faultF at *
 split at h
 ·rename_i hc
  rw [if_pos hc]
  exact fold_keep _ _ h
 ·rename_i hc
  rw [if_neg hc]
theorem addL_len (s : Sc) (x : Cd) : s.ls.length ≤ (addL s x).length ∧ (addL s x).length ≤ s.ls.length + 1 := by
 unfold addL
 rw [zA7, List.length_map]
 split <;> simp
theorem addV_len (s : Sc) (x : Cd) : s.vs.length ≤ (addV s x).length ∧ (addV s x).length ≤ s.vs.length + x.ws.length := by
 unfold addV
 rw [zA7]
 split <;> simp
theorem grown_ok {w W : World} {B K : Nat} {t s : Sc} {x : Cd} (ht : ScR W B t (addL s x) (addV s x)) (hs : ScOk w s) (hx : CdOk w K x) (h20 : s.ls.length ≤ 20) (h80 : s.vs.length ≤ 80) (hw : x.ws.length ≤ 100)
 (hsm : (shF s x).length ≤ 65536 ∧ ∀ f ∈ shF s x, f.names.length ≤ 65536) : ScOk W t := by
 have e1 := ht.le
 have e2 := ht.ve
 have l1 : t.ls.length = (addL s x).length := by rw [← e1]; simp
 have l2 := addL_len s x
 have l3 := addV_len s x
 have hmem : ∀ l ∈ t.ls, (∃ m ∈ s.ls, lcore l = lcore m) ∨ lcore l = (x.n.1, shT x.op, (shF s x).map core) := fun l hl => by
  have h1 : lcore l ∈ addL s x := by rw [← e1]; exact List.mem_map_of_mem hl
  unfold addL at h1
  rcases List.mem_append.1 h1 with h1 | h1
  ·obtain ⟨m, hm, he⟩ := List.mem_map.1 h1
   exact .inl ⟨m, hm, he.symm⟩
  ·split at h1
   ·exact .inr (List.mem_singleton.1 h1)
   ·cases h1
 refine ht.ok (by omega) (by rw [e2]; omega) (fun l hl => ?_) (fun y hy => ?_) (fun y hy => ?_)
 ·rcases hmem l hl with ⟨m, hm, he⟩ | he
  ·unfold lcore at he
   simp only [Prod.mk.injEq] at he
   have hs := hs.sh m hm
   exact ⟨by rw [core_len he.2.2]; exact hs.few, core_names he.2.2 hs.names⟩
  ·unfold lcore at he
   simp only [Prod.mk.injEq] at he
   exact ⟨by rw [core_len he.2.2]; exact hsm.1, core_names he.2.2 hsm.2⟩
 ·obtain ⟨l, hl, rfl⟩ := List.mem_map.1 hy
  rcases hmem l hl with ⟨m, hm, he⟩ | he
  ·unfold lcore at he
   simp only [Prod.mk.injEq] at he
   rw [he.1]
   exact hs.lnm _ (List.mem_map_of_mem hm)
  ·unfold lcore at he
   simp only [Prod.mk.injEq] at he
   rw [he.1]
   exact hx.nn
 ·unfold Sc.vnms at hy
  rw [e2] at hy
  obtain ⟨v, hv, rfl⟩ := List.mem_map.1 hy
  unfold addV at hv
  rcases List.mem_append.1 hv with hv | hv
  ·exact hs.vnm _ (List.mem_map_of_mem hv)
  ·split at hv
   ·obtain ⟨z, hz, he⟩ := List.mem_map.1 hv
    rw [← he]
    exact hx.wn _ (List.mem_map_of_mem (f := Prod.fst) hz)
   ·cases hv
theorem grown_right {W : World} {B : Nat} {t s : Sc} {x : Cd} (ht : ScR W B t (addL s x) (addV s x)) (hr : rightSc s = true) (hn : NmOk x) : rightSc t = true := by
 rw [rt_iff]
 have := rt_keep ((rt_iff s).1 hr) hn
 rw [← ht.le, ← ht.ve] at this
 exact this
def Sc.first (t : Sc) (n m : Nat) : Sc := ⟨t.LA, t.lc, t.ls.take n, t.VA, t.vc, t.vs.take m⟩
theorem Ls.take {α : Type} {g : α → List Value} {w : World} {A : Option Addr} {xs : List α} (h : Ls g w A xs) (n : Nat) : Ls g w A (xs.take n) := fun hne => by
 have happ : xs.flatMap g = (xs.take n).flatMap g ++ (xs.drop n).flatMap g := by rw [← List.flatMap_append, List.take_append_drop]
 obtain ⟨b, o, hA, hlt, hc⟩ := h (fun e => hne (by rw [happ] at e; exact (List.append_eq_nil_iff.1 e).1))
 refine ⟨b, o, hA, hlt, fun j u hu => hc j u ?_⟩
 rw [happ, List.getElem?_append_left (List.getElem?_eq_some_iff.1 hu).1]; exact hu
end
section
open Go.RowKit RM
theorem idx_nd {xs : List ByteArray} (h : xs.Nodup) {k : Nat} (hk : k < xs.length) : idx xs (xs.getD k ⟨#[]⟩) = (k : Int) := by
 unfold idx
 refine NM.fst_hit hk (zE rfl) fun j hj => zF fun e => ?_
 unfold List.Nodup at h
 rw [List.pairwise_iff_getElem] at h
 refine h j k (by omega) hk hj ?_
 rw [List.getD_eq_getElem?_getD, List.getD_eq_getElem?_getD, List.getElem?_eq_getElem hk, List.getElem?_eq_getElem (by omega)] at e
 simpa using e
theorem rt_nds {t : Sc} (hr : rightSc t = true) : t.lnms.Nodup ∧ t.vnms.Nodup := by
 have h := ((rt_iff t).1 hr).nd
 rw [lnms_core, List.nodup_append] at h
 exact ⟨h.1, h.2.1⟩
theorem lives_lat {W : World} {B : Nat} {t s : Sc} {x : Cd} (ht : ScR W B t (addL s x) (addV s x)) (hr : rightSc t = true) (h0 : (faultF s x).1 = 0) (hl : dLat x.op = true) (hv : dVar x.op = false) :
 idx t.lnms x.n.1 = (s.ls.length : Int) ∧ t.ls.length = s.ls.length + 1 ∧ t.vs.length = s.vs.length ∧ lcore (t.ls.getD s.ls.length lat0) = (x.n.1, shT x.op, (shF s x).map core) ∧ rightS (t.ls.getD s.ls.length lat0).2.t (t.ls.getD s.ls.length lat0).2.fs = true := by
 have e1 := ht.le
 have e2 := ht.ve
 unfold addL at e1
 unfold addV at e2
 rw [zE h0, hl] at e1
 rw [zE h0, hv] at e2
 simp only [Bool.and_self, if_true] at e1
 simp only [Bool.and_false, Bool.false_eq_true, if_false, List.append_nil] at e2
 have l1 : t.ls.length = s.ls.length + 1 := by
  have := congrArg List.length e1
  simpa using this
 have hc : lcore (t.ls.getD s.ls.length lat0) = (x.n.1, shT x.op, (shF s x).map core) := by
  have h1 := congrArg (fun l => l[s.ls.length]?) e1
  simp only [List.getElem?_map] at h1
  rw [List.getElem?_eq_getElem (by omega), List.getElem?_append_right (by simp)] at h1
  rw [List.getD_eq_getElem?_getD, List.getElem?_eq_getElem (by omega)]
  simpa using h1
 refine ⟨?_, l1, by rw [e2], hc, ?_⟩
 ·have hg : t.lnms.getD s.ls.length ⟨#[]⟩ = x.n.1 := by
   rw [t.lget (by omega)]
   unfold lcore at hc
   simp only [Prod.mk.injEq] at hc
   exact hc.1
  have := idx_nd (rt_nds hr).1 (k := s.ls.length) (by unfold Sc.lnms; rw [List.length_map]; omega)
  rw [hg] at this
  exact this
 ·unfold rightSc at hr
  simp only [Bool.and_eq_true, List.all_eq_true] at hr
  exact hr.2.2.1 _ (getD_mem' (by omega))
theorem lives_var {W : World} {B : Nat} {t s : Sc} {x : Cd} (ht : ScR W B t (addL s x) (addV s x)) (hr : rightSc t = true) (h0 : (faultF s x).1 = 0) (hl : dLat x.op = false) (hv : dVar x.op = true) :
 idx t.lnms x.n.1 = idx s.lnms x.n.1 ∧ t.ls.length = s.ls.length ∧ t.vs.length = s.vs.length + x.ws.length ∧
  ∀ i, i < x.ws.length → idx t.vnms (x.ws.getD i wd0).1 = ((s.vs.length + i : Nat) : Int) ∧ t.vs.getD (s.vs.length + i) var0 = ((x.ws.getD i wd0).1, kindN x.op, idx s.lnms x.n.1) := by
 have e1 := ht.le
 have e2 := ht.ve
 unfold addL at e1
 unfold addV at e2
 rw [zE h0, hl] at e1
 rw [zE h0, hv] at e2
 simp only [Bool.and_self, if_true] at e2
 simp only [Bool.and_false, Bool.false_eq_true, if_false, List.append_nil] at e1
 have l1 : t.ls.length = s.ls.length := by
  have := congrArg List.length e1
  simpa using this
 have l2 : t.vs.length = s.vs.length + x.ws.length := by rw [e2]; simp
 have hn : t.lnms = s.lnms := by rw [← lnms_core t, ← lnms_core s, e1]
 refine ⟨by rw [hn], l1, l2, fun i hi => ?_⟩
 have hg : t.vs.getD (s.vs.length + i) var0 = ((x.ws.getD i wd0).1, kindN x.op, idx s.lnms x.n.1) := by
  rw [e2, List.getD_eq_getElem?_getD, List.getElem?_append_right (by omega), show s.vs.length + i - s.vs.length = i by omega, List.getElem?_map, List.getElem?_eq_getElem hi, List.getD_eq_getElem?_getD, List.getElem?_eq_getElem hi]
  rfl
 refine ⟨?_, hg⟩
 have h1 : t.vnms.getD (s.vs.length + i) ⟨#[]⟩ = (x.ws.getD i wd0).1 := by
  rw [t.vget (by omega), hg]
 have := idx_nd (rt_nds hr).2 (k := s.vs.length + i) (by unfold Sc.vnms; rw [List.length_map]; omega)
 rw [h1] at this
 exact this
end
section
open Go.RowKit
def wsB (ws : List (ByteArray × Int)) : Bool := ws.all fun y => NM.right y.1
theorem qtexts_any (A : Option Addr) (c : Nat) (ws : List (ByteArray × Int)) (w : World) (hl : ws.length ≤ maxLen) (hA : Ls wdC w A ws) :
 Calls Tryz.prog 32 #[.slice A ws.length c] w fun e w' => e = .returned (.bool (wsB ws)) ∧ Below w.heap.size w w' := by
 have HA := zh hA; clear hA
 have HHIT : Hid (∀ i, i < ws.length → NM.right (ws.getD i wd0).1 = false → wsB ws = false) := zh fun i hi h => all_bad (d := wd0) hi h
 have HMISS : Hid ((∀ j, j < ws.length → NM.right (ws.getD j wd0).1 = true) → wsB ws = true) := zh fun h => all_good wd0 h
 generalize wsB ws = R at *
 generalize hm : ws.length = n at *
 have HN := zh hm; clear hm
 unfold maxLen at hl
 refine cHid fun Q' hQ => ?_
 have HQ := zh hQ; clear hQ
 go_enter Tryz.func32, Tryz.ntmps32
 go_wp2_with fail
 go_loopw [3] (fun iv wr => ∃ i : Nat, i ≤ n ∧ iv = .int .i64 i ∧ Hid (∀ j, j < i → NM.right (ws.getD j wd0).1 = true) ∧ Hid (Below w.heap.size w wr)) (fun iv _ => n - (intOf iv).toNat)
 case atStart => exact ⟨0, by omega, rfl, zh fun j hj => by omega, zh (zB _ _)⟩
 case round =>
  obtain ⟨i, hi, rfl, HB, HW⟩ := hrel
  by_cases hlt : i < n
  ·obtain ⟨b, o, rfl, _, hc⟩ := (HA.out.below HW.out).at 2 (fun _ => rfl) (by omega) wd0 (i := i) (by rw [HN.out]; exact hlt)
   have p0 := hc i (by rw [HN.out]; exact hlt) 0 _ rfl
   rw [Nat.add_zero] at p0
   have HIT := zh (HHIT.out i hlt)
   have HIN : Hid (NM.right (ws.getD i wd0).1 = true → ∀ j, j < i + 1 → NM.right (ws.getD j wd0).1 = true) := zh fun h j hj => by
        by_cases e : j = i
        ·rw [e]; exact h
        ·exact HB.out j (by omega)
   have hin : (i : Int) < (n : Int) := by omega
   clear hc HB
   have HR := zh (refRight_any (ws.getD i wd0).1)
   generalize (ws.getD i wd0).1 = t at *
   generalize hr : NM.right t = r at *
   clear hr
   cases r with
   | false =>
     obtain rfl := HIT.out rfl
     go_wp2_with (go_at_call 34; refine (HR.out _).mono ?_; rintro e w2 ⟨rfl, hd⟩; have HW2 := zh (HW.out.trans (hd.below.mono HW.out.size)); clear hd)
     exact HQ.out _ _ ⟨rfl, HW2.out⟩
   | true =>
     go_wp2_with (go_at_call 34; refine (HR.out _).mono ?_; rintro e w2 ⟨rfl, hd⟩; have HW2 := zh (HW.out.trans (hd.below.mono HW.out.size)); clear hd)
     go_roundw
     case rel => exact ⟨i + 1, by omega, by go_num, zh (HIN.out (by first | rfl | trivial)), HW2⟩
     case measure => simp [intOf]; omega
  ·obtain rfl : i = n := by omega
   obtain rfl := HMISS.out HB.out
   go_wp2_with fail
   exact HQ.out _ _ ⟨rfl, HW.out⟩
theorem qright_some (A : Option Addr) (c : Nat) (ws : List (ByteArray × Int)) (w : World) (hl : ws.length ≤ maxLen) (hA : Ls wdC w A ws) :
 Calls Tryz.prog 85 #[.slice A ws.length c] w fun e w' => (∃ b : Bool, e = .returned (.bool b)) ∧ Below w.heap.size w w' := by
 have HA := zh hA; clear hA
 generalize hm : ws.length = n at *
 have HN := zh hm; clear hm
 unfold maxLen at hl
 refine cHid fun Q' hQ => ?_
 have HQ := zh hQ; clear hQ
 go_enter Tryz.func85, Tryz.ntmps85
 go_wp2_with fail
 go_loopw [3] (fun iv wr => ∃ i : Nat, i ≤ n ∧ iv = .int .i64 i ∧ Hid (Below w.heap.size w wr)) (fun iv _ => n - (intOf iv).toNat)
 case atStart => exact ⟨0, by omega, rfl, zh (zB _ _)⟩
 case round =>
  obtain ⟨i, hi, rfl, HW⟩ := hrel
  by_cases hlt : i < n
  ·obtain ⟨b, o, rfl, _, hc⟩ := (HA.out.below HW.out).at 2 (fun _ => rfl) (by omega) wd0 (i := i) (by rw [HN.out]; exact hlt)
   have p0 := hc i (by rw [HN.out]; exact hlt) 0 _ rfl
   rw [Nat.add_zero] at p0
   have hin : (i : Int) < (n : Int) := by omega
   clear hc
   have HR := zh (refRight_any (ws.getD i wd0).1)
   generalize (ws.getD i wd0).1 = t at *
   generalize NM.right t = r at *
   cases r with
   | false =>
     go_wp2_with (go_at_call 34; refine (HR.out _).mono ?_; rintro e w2 ⟨rfl, hd⟩; have HW2 := zh (HW.out.trans (hd.below.mono HW.out.size)); clear hd)
     exact HQ.out _ _ ⟨⟨_, rfl⟩, HW2.out⟩
   | true =>
     go_wp2_with (go_at_call 34; refine (HR.out _).mono ?_; rintro e w2 ⟨rfl, hd⟩; have HW2 := zh (HW.out.trans (hd.below.mono HW.out.size)); clear hd)
     go_roundw
     case rel => exact ⟨i + 1, by omega, by go_num, HW2⟩
     case measure => simp [intOf]; omega
  ·obtain rfl : i = n := by omega
   go_wp2_with fail
   exact HQ.out _ _ ⟨⟨_, rfl⟩, HW.out⟩
def lets : List ByteArray := [⟨#[]⟩, ⟨#[110, 119]⟩, ⟨#[110, 119]⟩, ⟨#[110, 119]⟩, ⟨#[110, 119, 112]⟩, ⟨#[110, 119, 112]⟩, ⟨#[110, 119]⟩, ⟨#[110, 119]⟩, ⟨#[110, 116, 116]⟩, ⟨#[110, 114, 114]⟩, ⟨#[110, 102]⟩, ⟨#[]⟩, ⟨#[]⟩, ⟨#[]⟩, ⟨#[]⟩, ⟨#[110]⟩]
theorem qletters_any (k : Nat) (hk : k < 16) (w : World) : Calls Tryz.prog 82 #[.int .i64 (k : Int)] w fun e w' => e = .returned (.string (lets.getD k ⟨#[]⟩)) ∧ Below w.heap.size w w' := by
 have hrow := RowAt.new w 9 (lets.map Value.string).toArray
 have hb : Below w.heap.size w (w.alloc (.cells (lets.map Value.string).toArray 9)) := (zB _ _).alloc (zL _) _
 have HB := zh hb
 have hcs : (lets.map Value.string).toArray.size = 16 := rfl
 have hc : (w.alloc (.cells (lets.map Value.string).toArray 9)).cell? ⟨w.heap.size, k, none⟩ = some (.string (lets.getD k ⟨#[]⟩)) := by
  rw [hrow.cell k]
  have hkl : k < lets.length := hk
  rw [zA1, List.getElem?_map, List.getElem?_eq_getElem hkl, List.getD_eq_getElem?_getD, List.getElem?_eq_getElem hkl]
  rfl
 have HC := zh hc
 have e0 : decide ((k : Int) < 0) = false := zF (by omega)
 have e1 : decide ((16 : Int) ≤ (k : Int)) = false := zF (by omega)
 have hk2 : (k : Int) < 16 := by omega
 clear hc hb hrow hcs
 generalize lets.getD k ⟨#[]⟩ = s at *
 go_enter Tryz.func82, Tryz.ntmps82
 go_upto_region 2 with fail
 change Code.wp _ _ _ _ (w.alloc (.cells (lets.map Value.string).toArray 9))
 generalize w.alloc (.cells (lets.map Value.string).toArray 9) = w1 at *
 have c0 := HC.out
 go_wp2_with fail
 go_ret
 exact ⟨rfl, HB.out⟩
def hasL (k : Nat) (b : Nat) : Bool := (lets.getD k ⟨#[]⟩).data.toList.any fun u => decide (u.toNat = b)
theorem qhasL_any (k : Nat) (hk : k < 16) (b : Nat) (hb : b < 256) (w : World) : Calls Tryz.prog 33 #[.int .i64 (k : Int), .int .u8 (b : Int)] w fun e w' => e = .returned (.bool (hasL k b)) ∧ Below w.heap.size w w' := by
 have HLT := zh (qletters_any k hk)
 have HH : Hid (hasL k b = (lets.getD k ⟨#[]⟩).data.toList.any fun u => decide (u.toNat = b)) := zh rfl
 generalize hasL k b = R at *
 have HL8 : Hid ((lets.getD k ⟨#[]⟩).size ≤ 8) := zh (by
  have h : ∀ k, k < 16 → (lets.getD k ⟨#[]⟩).size ≤ 8 := by decide
  exact h k hk)
 generalize lets.getD k ⟨#[]⟩ = s at *
 have hl8 := HL8.out
 have HSZ : Hid (s.size = s.data.toList.length) := zh (by rw [Array.length_toList]; rfl)
 refine cHid fun Q' hQ => ?_
 have HQ := zh hQ; clear hQ
 go_enter Tryz.func33, Tryz.ntmps33
 go_upto_region 2 with (go_at_call 82; refine (HLT.out _).mono ?_; rintro e w1 ⟨rfl, hb1⟩; have HB1 := zh hb1; clear hb1)
 go_wp2_with fail
 go_loopw [6] (fun iv wr => ∃ i : Nat, i ≤ s.size ∧ iv = .int .i64 i ∧ Hid (∀ j, j < i → (s.data.toList.getD j 0).toNat ≠ b) ∧ Hid (Below w.heap.size w wr)) (fun iv _ => s.size - (intOf iv).toNat)
 case atStart => exact ⟨0, by omega, rfl, zh fun j hj => by omega, HB1⟩
 case round =>
  obtain ⟨i, hi, rfl, HI, HW⟩ := hrel
  by_cases hlt : i < s.size
  ·have hin : (i : Int) < (s.size : Int) := by omega
   have HBY := zh (@NM.byte_at s i hlt)
   by_cases hq : s[i].toNat = b
   ·have hR : R = true := by
     rw [HH.out, List.any_eq_true]
     have hlt2 : i < s.data.toList.length := by rw [← HSZ.out]; exact hlt
     refine ⟨s.data.toList.getD i 0, ?_, ?_⟩
     ·rw [List.getD_eq_getElem?_getD, List.getElem?_eq_getElem hlt2]; exact List.getElem_mem hlt2
     ·rw [HBY.out]; exact zE hq
    subst hR
    have hq1 : ((s[i].toNat : Int) == (b : Int)) = true := by simp [hq]
    have hq2 : (s[i].toNat : Int) = (b : Int) := by omega
    clear hq HI
    go_wp2_with fail
    exact HQ.out _ _ ⟨rfl, HW.out⟩
   ·have HI2 : Hid (∀ j, j < i + 1 → (s.data.toList.getD j 0).toNat ≠ b) := zh fun j hj => by
     by_cases e : j = i
     ·rw [e, HBY.out]; exact hq
     ·exact HI.out j (by omega)
    have hq1 : ((s[i].toNat : Int) == (b : Int)) = false := by simp; omega
    have hq2 : ¬ (s[i].toNat : Int) = (b : Int) := by omega
    clear hq HI
    go_wp2_with fail
    go_roundw
    case rel => exact ⟨i + 1, by omega, by go_num, HI2, HW⟩
    case measure => simp [intOf]; omega
  ·obtain rfl : i = s.size := by omega
   have hR : R = false := by
        rw [HH.out, List.any_eq_false]
        intro u hu
        obtain ⟨j, hj, rfl⟩ := List.mem_iff_getElem.1 hu
        have := HI.out j (by rw [HSZ.out]; exact hj)
        rw [List.getD_eq_getElem?_getD, List.getElem?_eq_getElem hj] at this
        simpa using this
   subst hR
   go_wp2_with fail
   exact HQ.out _ _ ⟨rfl, HW.out⟩
end
section
open Go.RowKit
theorem qsamez_some (x : Nt) (w : World) : Calls Tryz.prog 86 #[.agg (ntC x).toArray, .agg (ntC nt0).toArray] w fun e w' => (∃ b : Bool, e = .returned (.bool b)) ∧ Below w.heap.size w w' := by
 obtain ⟨k, p, s, A, n, c, B, m, d⟩ := x
 obtain ⟨r0, q0, hb⟩ := two_rows w (ntC ⟨k, p, s, A, n, c, B, m, d⟩).toArray (ntC nt0).toArray 32 32
 refine cHid fun Q' hQ => ?_
 have HQ := zh hQ; clear hQ
 go_enter Tryz.func86, Tryz.ntmps86
 go_upto_region 1 with fail
 change Code.wp _ _ _ _ ((w.alloc (.cells (ntC ⟨k, p, s, A, n, c, B, m, d⟩).toArray 32)).alloc (.cells (ntC nt0).toArray 32))
 generalize (w.alloc (.cells (ntC ⟨k, p, s, A, n, c, B, m, d⟩).toArray 32)).alloc (.cells (ntC nt0).toArray 32) = w1 at *
 have HB := zh hb; clear hb
 have a0 := (r0.cell 0).trans (show (ntC ⟨k, p, s, A, n, c, B, m, d⟩).toArray[0]? = some (.int .i64 k) from rfl)
 have a2 := (r0.cell 2).trans (show (ntC ⟨k, p, s, A, n, c, B, m, d⟩).toArray[2]? = some (.string s) from rfl)
 have a3 := (r0.cell 3).trans (show (ntC ⟨k, p, s, A, n, c, B, m, d⟩).toArray[3]? = some (.slice A n c) from rfl)
 have a4 := (r0.cell 4).trans (show (ntC ⟨k, p, s, A, n, c, B, m, d⟩).toArray[4]? = some (.slice B m d) from rfl)
 have b0 := (q0.cell 0).trans (show (ntC nt0).toArray[0]? = some (.int .i64 0) from rfl)
 have b2 := (q0.cell 2).trans (show (ntC nt0).toArray[2]? = some (.string ⟨#[]⟩) from rfl)
 have b3 := (q0.cell 3).trans (show (ntC nt0).toArray[3]? = some (.slice none 0 0) from rfl)
 have b4 := (q0.cell 4).trans (show (ntC nt0).toArray[4]? = some (.slice none 0 0) from rfl)
 clear r0 q0
 by_cases h1 : k = 0
 ·subst h1
  by_cases h2 : s.toList = []
  ·by_cases h3 : n = 0
   ·subst h3
    by_cases h4 : m = 0
    ·subst h4
     go_wp2_with fail
     go_loopw [5] (fun iv wr => iv = .int .i64 0 ∧ wr = w1) (fun _ _ => 0)
     case atStart => exact ⟨rfl, rfl⟩
     case round =>
      obtain ⟨rfl, rfl⟩ := hrel
      go_wp2_with fail
      go_loopw [6] (fun iv wv => iv = .int .i64 0 ∧ wv = wr) (fun _ _ => 0)
      case atStart => exact ⟨rfl, rfl⟩
      case round =>
          obtain ⟨rfl, rfl⟩ := hrel
          go_wp2_with fail
          exact HQ.out _ _ ⟨⟨_, rfl⟩, HB.out⟩
    ·have q1 : ((m : Int) != 0) = true := by simp; omega
     have q2 : ¬ (m : Int) = 0 := by omega
     go_wp2_with fail
     exact HQ.out _ _ ⟨⟨_, rfl⟩, HB.out⟩
   ·have q1 : ((n : Int) != 0) = true := by simp; omega
    have q2 : ¬ (n : Int) = 0 := by omega
    go_wp2_with fail
    exact HQ.out _ _ ⟨⟨_, rfl⟩, HB.out⟩
  ·go_wp2_with fail
   exact HQ.out _ _ ⟨⟨_, rfl⟩, HB.out⟩
 ·have q1 : (k != 0) = true := by simpa using h1
  go_wp2_with fail
  exact HQ.out _ _ ⟨⟨_, rfl⟩, HB.out⟩
end
section
open Go.RowKit
def Som (F : FuncId) (w : World) (x : Nt) : Prop := ∀ W, Below w.heap.size w W → Calls Tryz.prog F #[.agg (ntC x).toArray] W fun e w' => (∃ b : Bool, e = .returned (.bool b)) ∧ Below W.heap.size W w'
theorem Som.below {F : FuncId} {w w' : World} {x : Nt} (h : Som F w x) (hb : Below w.heap.size w w') : Som F w' x := fun W hW => h W (hb.trans (hW.mono hb.size))
theorem qall1_some (A : Option Addr) (c : Nat) (ks : List Nt) (w : World) (hl : ks.length ≤ maxLen) (hA : Ls ntC w A ks) (hF : ∀ i, i < ks.length → Som 119 w (ks.getD i nt0)) :
 Calls Tryz.prog 84 #[.int .i64 1, .slice A ks.length c] w fun e w' => (∃ b : Bool, e = .returned (.bool b)) ∧ Below w.heap.size w w' := by
 have HA := zh hA; clear hA
 have HF := zh hF; clear hF
 generalize hm : ks.length = n at *
 have HN := zh hm; clear hm
 unfold maxLen at hl
 refine cHid fun Q' hQ => ?_
 have HQ := zh hQ; clear hQ
 go_enter Tryz.func84, Tryz.ntmps84
 go_wp2_with fail
 go_loopw [5, 6, 7] (fun iv _ _ wr => ∃ i : Nat, i ≤ n ∧ iv = .int .i64 i ∧ Hid (Below w.heap.size w wr)) (fun iv _ _ _ => n - (intOf iv).toNat)
 case atStart => exact ⟨0, by omega, rfl, zh (zB _ _)⟩
 case round =>
  obtain ⟨i, hi, rfl, HW⟩ := hrel
  by_cases hlt : i < n
  ·obtain ⟨b, o, rfl, _, hc⟩ := (HA.out.below HW.out).at 5 (fun _ => rfl) (by omega) nt0 (i := i) (by rw [HN.out]; exact hlt)
   have HR := zh (hc i (by rw [HN.out]; exact hlt)); clear hc
   have HC := zh (HF.out i hlt)
   have hin : (i : Int) < (n : Int) := by omega
   generalize ks.getD i nt0 = y at *
   go_upto_region 5 with (first
        | (refine wpList_ldIn (by rfl) _ _ rfl b (o + i * 5) rfl _ _ HR.out Tryz.underlying32 rfl (by kernel_rfl) ?_)
        | (refine wpList_stRow (by rfl) _ _ _ rfl wr.heap.size (ntC y).toArray rfl rfl _ _ (RowAt.new _ _ _) (by kernel_rfl) rfl (ntC_one y) ?_; intro wc rc he; have HRC := zh rc; have hbw : Below wr.heap.size wr wc := ((zB _ _).alloc (zL _) _).trans (he.below (zL _)); have HWc := zh (HW.out.trans (hbw.mono HW.out.size)); clear rc he hbw))
   go_wp2_with (first | (refine wpList_loadS ?hg _ _ rfl wr.heap.size rfl _ _ _ HRC.out Tryz.underlying32 rfl (by kernel_rfl) ?hn; case hg => (simp [Region.wanted, yielded]; done)) | fail)
   refine (HC.out _ HWc.out).mono ?_
   rintro e w4 ⟨⟨q, rfl⟩, hb⟩
   have HW4 := zh (HWc.out.trans (hb.mono HWc.out.size))
   clear hb
   cases q
   ·go_wp2_with fail
    exact HQ.out _ _ ⟨⟨_, rfl⟩, HW4.out⟩
   ·go_wp2_with fail
    go_roundw
    case rel => exact ⟨i + 1, by omega, by go_num, HW4⟩
    case measure => simp [intOf]; omega
  ·obtain rfl : i = n := by omega
   go_wp2_with fail
   exact HQ.out _ _ ⟨⟨_, rfl⟩, HW.out⟩
theorem qall3_some (A : Option Addr) (c : Nat) (ks : List Nt) (w : World) (hl : ks.length ≤ maxLen) (hA : Ls ntC w A ks) (hF : ∀ i, i < ks.length → Som 35 w (ks.getD i nt0)) :
 Calls Tryz.prog 84 #[.int .i64 3, .slice A ks.length c] w fun e w' => (∃ b : Bool, e = .returned (.bool b)) ∧ Below w.heap.size w w' := by
 have HA := zh hA; clear hA
 have HF := zh hF; clear hF
 generalize hm : ks.length = n at *
 have HN := zh hm; clear hm
 unfold maxLen at hl
 refine cHid fun Q' hQ => ?_
 have HQ := zh hQ; clear hQ
 go_enter Tryz.func84, Tryz.ntmps84
 go_wp2_with fail
 go_loopw [5, 6, 7] (fun iv _ _ wr => ∃ i : Nat, i ≤ n ∧ iv = .int .i64 i ∧ Hid (Below w.heap.size w wr)) (fun iv _ _ _ => n - (intOf iv).toNat)
 case atStart => exact ⟨0, by omega, rfl, zh (zB _ _)⟩
 case round =>
  obtain ⟨i, hi, rfl, HW⟩ := hrel
  by_cases hlt : i < n
  ·obtain ⟨b, o, rfl, _, hc⟩ := (HA.out.below HW.out).at 5 (fun _ => rfl) (by omega) nt0 (i := i) (by rw [HN.out]; exact hlt)
   have HR := zh (hc i (by rw [HN.out]; exact hlt)); clear hc
   have HC := zh (HF.out i hlt)
   have hin : (i : Int) < (n : Int) := by omega
   generalize ks.getD i nt0 = y at *
   go_upto_region 5 with (first
        | (refine wpList_ldIn (by rfl) _ _ rfl b (o + i * 5) rfl _ _ HR.out Tryz.underlying32 rfl (by kernel_rfl) ?_)
        | (refine wpList_stRow (by rfl) _ _ _ rfl wr.heap.size (ntC y).toArray rfl rfl _ _ (RowAt.new _ _ _) (by kernel_rfl) rfl (ntC_one y) ?_; intro wc rc he; have HRC := zh rc; have hbw : Below wr.heap.size wr wc := ((zB _ _).alloc (zL _) _).trans (he.below (zL _)); have HWc := zh (HW.out.trans (hbw.mono HW.out.size)); clear rc he hbw))
   go_wp2_with (first | (refine wpList_loadS ?hg _ _ rfl wr.heap.size rfl _ _ _ HRC.out Tryz.underlying32 rfl (by kernel_rfl) ?hn; case hg => (simp [Region.wanted, yielded]; done)) | fail)
   refine (HC.out _ HWc.out).mono ?_
   rintro e w4 ⟨⟨q, rfl⟩, hb⟩
   have HW4 := zh (HWc.out.trans (hb.mono HWc.out.size))
   clear hb
   cases q
   ·go_wp2_with fail
    exact HQ.out _ _ ⟨⟨_, rfl⟩, HW4.out⟩
   ·go_wp2_with fail
    go_roundw
    case rel => exact ⟨i + 1, by omega, by go_num, HW4⟩
    case measure => simp [intOf]; omega
  ·obtain rfl : i = n := by omega
   go_wp2_with fail
   exact HQ.out _ _ ⟨⟨_, rfl⟩, HW.out⟩
theorem qall2_some (A : Option Addr) (c : Nat) (ks : List Nt) (w : World) (hl : ks.length ≤ maxLen) (hA : Ls ntC w A ks) (hF : ∀ i, i < ks.length → ∀ W, Below w.heap.size w W → Calls Tryz.prog 85 #[.slice (ks.getD i nt0).A (ks.getD i nt0).n (ks.getD i nt0).c] W fun e w' => (∃ b : Bool, e = .returned (.bool b)) ∧ Below W.heap.size W w') :
 Calls Tryz.prog 84 #[.int .i64 2, .slice A ks.length c] w fun e w' => (∃ b : Bool, e = .returned (.bool b)) ∧ Below w.heap.size w w' := by
 have HA := zh hA; clear hA
 have HF := zh hF; clear hF
 generalize hm : ks.length = n at *
 have HN := zh hm; clear hm
 unfold maxLen at hl
 refine cHid fun Q' hQ => ?_
 have HQ := zh hQ; clear hQ
 go_enter Tryz.func84, Tryz.ntmps84
 go_wp2_with fail
 go_loopw [5, 6, 7] (fun iv _ _ wr => ∃ i : Nat, i ≤ n ∧ iv = .int .i64 i ∧ Hid (Below w.heap.size w wr)) (fun iv _ _ _ => n - (intOf iv).toNat)
 case atStart => exact ⟨0, by omega, rfl, zh (zB _ _)⟩
 case round =>
  obtain ⟨i, hi, rfl, HW⟩ := hrel
  by_cases hlt : i < n
  ·obtain ⟨b, o, rfl, _, hc⟩ := (HA.out.below HW.out).at 5 (fun _ => rfl) (by omega) nt0 (i := i) (by rw [HN.out]; exact hlt)
   have HR := zh (hc i (by rw [HN.out]; exact hlt)); clear hc
   have HC := zh (HF.out i hlt)
   have hin : (i : Int) < (n : Int) := by omega
   generalize ks.getD i nt0 = y at *
   go_upto_region 5 with (first
        | (refine wpList_ldIn (by rfl) _ _ rfl b (o + i * 5) rfl _ _ HR.out Tryz.underlying32 rfl (by kernel_rfl) ?_)
        | (refine wpList_stRow (by rfl) _ _ _ rfl wr.heap.size (ntC y).toArray rfl rfl _ _ (RowAt.new _ _ _) (by kernel_rfl) rfl (ntC_one y) ?_; intro wc rc he; have HRC := zh rc; have hbw : Below wr.heap.size wr wc := ((zB _ _).alloc (zL _) _).trans (he.below (zL _)); have HWc := zh (HW.out.trans (hbw.mono HW.out.size)); clear rc he hbw))
   obtain ⟨k, p, s, A2, n2, c2, B2, m2, d2⟩ := y
   have HWR := zh (HC.out)
   have a0 := (HRC.out.cell 0).trans (show (ntC ⟨k, p, s, A2, n2, c2, B2, m2, d2⟩).toArray[0]? = some (.int .i64 k) from rfl)
   have C2 : Hid (∀ W, Below wc.heap.size wc W → W.cell? ⟨wr.heap.size, 3, none⟩ = some (.slice A2 n2 c2)) := zh fun W hW => (hW.cell (p := ⟨wr.heap.size, 3, none⟩) HRC.out.lt).trans ((HRC.out.cell 3).trans rfl)
   have C4 : Hid (∀ W, Below wc.heap.size wc W → W.cell? ⟨wr.heap.size, 4, none⟩ = some (.slice B2 m2 d2)) := zh fun W hW => (hW.cell (p := ⟨wr.heap.size, 4, none⟩) HRC.out.lt).trans ((HRC.out.cell 4).trans rfl)
   have a2 := (HRC.out.cell 2).trans (show (ntC ⟨k, p, s, A2, n2, c2, B2, m2, d2⟩).toArray[2]? = some (.string s) from rfl)
   have HRT := zh (refRight_any s)
   generalize NM.right s = r at *
   by_cases hk : k = 6
   ·subst hk
    go_wp2_with fail
    refine (HRT.out _).mono ?_
    rintro e w4 ⟨rfl, hd⟩
    have HB4 := zh hd.below
    have HW4 := zh (HWc.out.trans (hd.below.mono HWc.out.size))
    clear hd a0 a2
    have a3 := C2.out _ HB4.out
    cases r
    ·go_wp2_with fail
     exact HQ.out _ _ ⟨⟨_, rfl⟩, HW4.out⟩
    ·go_wp2_with fail
     refine (HWR.out _ HW4.out).mono ?_
     rintro e w5 ⟨⟨q, rfl⟩, hb⟩
     have HW5 := zh (HW4.out.trans (hb.mono HW4.out.size))
     have a4 := C4.out _ (HB4.out.trans (hb.mono HB4.out.size))
     clear hb a3
     cases q
     ·go_wp2_with fail
      exact HQ.out _ _ ⟨⟨_, rfl⟩, HW5.out⟩
     ·by_cases hm : m2 = 0
      ·subst hm
       go_wp2_with fail
       go_roundw
       case rel => exact ⟨i + 1, by omega, by go_num, HW5⟩
       case measure => simp [intOf]; omega
      ·have hm2 : ¬ (m2 : Int) = 0 := by omega
       have hm3 : ((m2 : Int) == 0) = false := by simp; omega
       go_wp2_with fail
       exact HQ.out _ _ ⟨⟨_, rfl⟩, HW5.out⟩
   ·go_wp2_with fail
    exact HQ.out _ _ ⟨⟨_, rfl⟩, HWc.out⟩
  ·obtain rfl : i = n := by omega
   go_wp2_with fail
   exact HQ.out _ _ ⟨⟨_, rfl⟩, HW.out⟩
end
end Go.Proofs.YteachpfpcceamaaGreatDoor
