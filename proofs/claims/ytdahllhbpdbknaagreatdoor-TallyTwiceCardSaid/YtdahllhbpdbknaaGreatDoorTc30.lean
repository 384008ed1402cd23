/- Texts that all the claims need. Conditions: those that each states. -/

import Derived.Test.YtdahllhbpdbknaaGreatDoorTc20
import Derived.Test.YtdahllhbpdbknaaGreatDoorTc29
set_option linter.unusedSimpArgs false
set_option linter.unusedVariables false
set_option maxRecDepth 100000
set_option maxHeartbeats 40000000
namespace Go.Proofs.YtdahllhbpdbknaaGreatDoor
section
open Go.RowKit RM Go.Maps
section
variable {W2 : World} {go gt : Nat} {t : Bool} {gf : List Fac} {Gs : List Nat} {s : Nat → Nat → Nat} {W W' : World}
end
theorem opr_base {W2 : World} {gow gs go gt gp : Nat} {t : Bool} {A : Option Addr} {c : Nat} {gf fs : List Fac} {Gs : List Nat} (hC : Cx W2 gow gs go gt gp t A c gf Gs) (hcore : gf.map core = fs.map core) :
 Opr (Ix W2 go gt t gf Gs) (fun k => k = go ∨ k = gt ∨ k ∈ Gs) fs [] 19 21 43 #[.pointer (some ⟨gow, 0, none⟩)] #[] #[.pointer (some ⟨go, 0, none⟩), .pointer (some ⟨gp, 0, none⟩), .pointer (some ⟨gt, 0, none⟩), .pointer (some ⟨gs, 0, none⟩)] where
 okF := fun _ _ => by kernel_rfl
 okG := fun _ _ => by kernel_rfl
 okH := fun _ _ => by kernel_rfl
 eval := fun s W LA lc l VA vc v hI _ hl hvl hE hL hV => by
  rw [bmp_nil]
  refine (ofEval_any t A c gf gow LA lc l VA vc v W (hC.tab W hI.but) (hC.facs W hI.but) (hC.own.but hI.but (hC.ne gow (.inl rfl))) hl (hL W (But.refl _ _)) hvl (hV W (But.refl _ _)) hE).mono ?_
  rintro e W' ⟨rfl, hb⟩
  exact ⟨by rw [evG_same hcore], hI.kept hb, But.of_below hb _⟩
 leq := fun s W x y hI _ hx hy => by
  rw [bmp_nil]
  refine (sleq_any x y hx hy W).mono ?_
  rintro e W' ⟨rfl, hb⟩
  exact ⟨rfl, hI.kept hb, But.of_below hb _⟩
 join := fun s W x y hI _ hx hy => by
  rw [bmp_nil]
  have hM : ∀ k, (k = go ∨ k = gt) → (k = go ∨ k = gt ∨ k ∈ Gs) := fun k h => h.elim .inl (fun h => .inr (.inl h))
  refine (jcall_any t A c gf go gp gt gs W2.heap.size x y hx hy W (hC.tab W hI.but) (hC.facs W hI.but) (fun W' h => hC.tab W' (hI.but.trans (h.mono hM))) (fun W' h => hC.facs W' (hI.but.trans (h.mono hM)))
   ⟨hC.prep.but hI.but (hC.ne gp (.inr (.inr rfl))), hC.shp.but hI.but (hC.ne gs (.inr (.inl rfl))), hI.but.size, hC.lt.1, hC.lt.2.1, ?_, hI.st⟩).mono ?_
  ·exact ⟨fun e => hC.ne gs (.inr (.inl rfl)) (.inl e), fun e => hC.ne gs (.inr (.inl rfl)) (.inr (.inl e)), fun e => hC.ne gp (.inr (.inr rfl)) (.inl e), fun e => hC.ne gp (.inr (.inr rfl)) (.inr (.inl e))⟩
  ·rintro e W' ⟨rfl, hst, hb⟩
   refine ⟨by rw [joinE_same hcore], ⟨hI.but.trans (hb.mono hM), hst, fun g hg => (hI.cnt g hg).but hb ?_⟩, hb.mono hM⟩
   rintro (h | h)
   ·exact hC.apart.1 (h ▸ hg)
   ·exact hC.apart.2.1 (h ▸ hg)
end
section
open Go.RowKit RM Go.Maps
theorem alive17_any (w : World) (hT : Tab w) : Calls Tryz.prog 8 #[] w fun e w' => e = .returned (.bool true) ∧ Below w.heap.size w w' := by
 have HT := zh hT; clear hT
 have hnot : ∀ (x : Bool) (w : World), (Op.unary .not (.bool x)).run Tryz.prog w = .ok (.bool (!x)) w := fun _ _ => rfl
 have hab : (#[.string ⟨#[97]⟩, .string ⟨#[98]⟩] : Array Value) = (scells ab17).toArray := rfl
 have HAB := zh hab; clear hab
 refine cHid fun Q' hQ => ?_
 have HQ := zh hQ; clear hQ
 go_enter Tryz.func8, Tryz.ntmps8
 go_upto_region 2 with (go_at_call 13; refine (new17_any w).mono ?_; rintro e w1 ⟨rfl, hm1, hc1, hb1⟩; have HM1 := zh hm1; have HC1 := zh hc1; have HB1 := zh hb1; clear hm1 hc1 hb1)
 obtain ⟨gc, hgc⟩ : ∃ gc, gc = w.heap.size := ⟨_, rfl⟩
 obtain ⟨gm, hgm⟩ : ∃ gm, gm = w.heap.size + 1 := ⟨_, rfl⟩
 rw [← hgm] at HM1 ⊢
 rw [← hgc] at HM1 HC1
 have HGC := zh (And.intro hgc hgm)
 clear hgc hgm
 have hf2 : FacOk (w1.alloc (.cells #[.string ⟨#[97]⟩, .string ⟨#[98]⟩] 9)) (fP w1.heap.size) := fP_ok w1
 have hb12 : Below w1.heap.size w1 (w1.alloc (.cells #[.string ⟨#[97]⟩, .string ⟨#[98]⟩] 9)) := (zB _ _).alloc (zL _) _
 have HF2 := zh hf2
 have HB12 := zh hb12
 clear hf2 hb12 HAB
 have hs2 : (w1.alloc (.cells #[.string ⟨#[97]⟩, .string ⟨#[98]⟩] 9)).heap.size = w1.heap.size + 1 := by simp
 have HS2 := zh hs2; clear hs2
 have HM := zh HM1.out
 go_upto_region 3 with (first
  | (refine wpList_oneQ (by decide) infoFac2 Tryz.underlying22 rfl _ rfl (fv (fP w1.heap.size)) (fv_size _ RW.zs) (by rw [← builtP]; rfl) ?_; intro w3 r3 hb3; have HB13 := zh (HB12.out.trans (hb3.mono HB12.out.size)); have HOF := zh (of17_any false (some ⟨w1.heap.size + 1, 0, none⟩) 1 [fP w1.heap.size] w3 (fP_facs w1 _ w3 HF2.out HS2.out r3 hb3) (fun h => by cases h) (show 1 ≤ 65536 by decide) (by intro f hf; rw [List.mem_singleton] at hf; subst hf; show 2 ≤ 65536; decide)); clear r3 hb3)
  | (go_at_call 9; refine HOF.out.mono ?_; rintro e w4 ⟨gow, gs, go, gt, gp, b1, A', c', gf, rfl, hof, hcore, hb4⟩; have HA := zh hof; have HCR := zh hcore; have HB4 := zh hb4; clear hof hcore hb4; have HWR := zh (wrap_any gm gc 19 21 43 #[.pointer (some ⟨gow, 0, none⟩)] #[] #[.pointer (some ⟨go, 0, none⟩), .pointer (some ⟨gp, 0, none⟩), .pointer (some ⟨gt, 0, none⟩), .pointer (some ⟨gs, 0, none⟩)] w4 (RowAt.below (RowAt.below HM1.out HB13.out (RowAt.lt HM1.out)) HB4.out (zT (RowAt.lt HM1.out) HB13.out.size))))
  | (go_at_call 14; refine HWR.out.mono ?_; rintro e w5 ⟨qo, qp, rfl, ho5, hp5, hqo, hqp, hb5⟩; have HO5 := zh ho5; have HP5 := zh hp5; have HQL := zh (And.intro hqo hqp); have HB5 := zh hb5; clear ho5 hp5 hqo hqp hb5))
 -- GEN
 have HR6 : Hid (RowAt (w5.alloc (.cells #[.func (.func 28) #[] #[.pointer (some ⟨qp, 0, none⟩), .pointer (some ⟨qo, 0, none⟩)], .func (.func 30) #[] #[.pointer (some ⟨qp, 0, none⟩), .pointer (some ⟨qo, 0, none⟩)], .func (.func 31) #[] #[.pointer (some ⟨qp, 0, none⟩), .pointer (some ⟨qo, 0, none⟩)]] 33)) w5.heap.size 33 #[.func (.func 28) #[] #[.pointer (some ⟨qp, 0, none⟩), .pointer (some ⟨qo, 0, none⟩)], .func (.func 30) #[] #[.pointer (some ⟨qp, 0, none⟩), .pointer (some ⟨qo, 0, none⟩)], .func (.func 31) #[] #[.pointer (some ⟨qp, 0, none⟩), .pointer (some ⟨qo, 0, none⟩)]]) := zh (RowAt.new _ _ _)
 have HB56 : Hid (Below w5.heap.size w5 (w5.alloc (.cells #[.func (.func 28) #[] #[.pointer (some ⟨qp, 0, none⟩), .pointer (some ⟨qo, 0, none⟩)], .func (.func 30) #[] #[.pointer (some ⟨qp, 0, none⟩), .pointer (some ⟨qo, 0, none⟩)], .func (.func 31) #[] #[.pointer (some ⟨qp, 0, none⟩), .pointer (some ⟨qo, 0, none⟩)]] 33))) := zh ((zB _ _).alloc (zL _) _)
 generalize (w5.alloc (.cells #[.func (.func 28) #[] #[.pointer (some ⟨qp, 0, none⟩), .pointer (some ⟨qo, 0, none⟩)], .func (.func 30) #[] #[.pointer (some ⟨qp, 0, none⟩), .pointer (some ⟨qo, 0, none⟩)], .func (.func 31) #[] #[.pointer (some ⟨qp, 0, none⟩), .pointer (some ⟨qo, 0, none⟩)]] 33)) = w6 at *
 obtain ⟨g2, hg2⟩ : ∃ g2, g2 = w5.heap.size := ⟨_, rfl⟩
 rw [← hg2] at HR6 ⊢
 have HG2 := zh hg2
 clear hg2
 have HLW := zh (lwhole_any 28 30 31 #[.pointer (some ⟨qp, 0, none⟩), .pointer (some ⟨qo, 0, none⟩)] #[.pointer (some ⟨qp, 0, none⟩), .pointer (some ⟨qo, 0, none⟩)] #[.pointer (some ⟨qp, 0, none⟩), .pointer (some ⟨qo, 0, none⟩)] w6)
 obtain ⟨p0, p1, p2, _, _, _⟩ := rw3 HR6.out
 go_upto_region 5 with (go_at_call 10; refine HLW.out.mono ?_; rintro e w7 ⟨rfl, hb7⟩; have HB7 := zh hb7; clear hb7)
 -- the worlds from here on
 have h13 := HB13.out.size
 have h1s := HB1.out.size
 have h4 := HB4.out.size
 have h5 := HB5.out.size
 have h6 := HB56.out.size
 have h7 := HB7.out.size
 have hgc := HGC.out
 have hgm := RowAt.lt HM1.out
 have hb47 : Below w4.heap.size w4 w7 := (HB5.out.trans (HB56.out.mono h5)).trans (HB7.out.mono (zM h5 h6))
 have hb37 : Below w3.heap.size w3 w7 := HB4.out.trans (hb47.mono h4)
 have hb17 : Below w1.heap.size w1 w7 := HB13.out.trans (hb37.mono h13)
 have hb07 : Below w.heap.size w w7 := HB1.out.trans (hb17.mono h1s)
 have hX : Cx w7 gow gs go gt gp false A' c' gf [gc] := cx_of (w0 := w) HT.out HA.out hb07 hb47 (zM h1s h13) (fun g hg => by
  rw [List.mem_singleton] at hg
  omega)
 have hC7 : RowAt w7 gc 74 (cntC 0 0 0) := HC1.out.below hb17 HC1.out.lt
 have hI : Ix w7 go gt false gf [gc] (fun _ _ => 0) w7 := ix_start HA.out hb47 (fun g hg => by
  rw [List.mem_singleton] at hg
  subst hg
  exact hC7)
 have hle := HA.out.le
 have hql := HQL.out
 have hw4 := HA.out.once.lt
 have hw4t := HA.out.tabs.lt
 have hWR : WrAt w7 qp qo gc 19 21 43 #[.pointer (some ⟨gow, 0, none⟩)] #[] #[.pointer (some ⟨go, 0, none⟩), .pointer (some ⟨gp, 0, none⟩), .pointer (some ⟨gt, 0, none⟩), .pointer (some ⟨gs, 0, none⟩)] (fun k => k = go ∨ k = gt ∨ k ∈ [gc]) :=
  ⟨(HP5.out.below HB56.out HP5.out.lt).below HB7.out (zT HP5.out.lt h6), (HO5.out.below HB56.out HO5.out.lt).below HB7.out (zT HO5.out.lt h6), by
    constructor
    ·rintro (h | h | h)
     ·omega
     ·omega
     ·rw [List.mem_singleton] at h; omega
    ·rintro (h | h | h)
     ·omega
     ·omega
     ·rw [List.mem_singleton] at h; omega⟩
 have hO := opr_wrap hX (opr_base hX HCR.out) (List.mem_singleton.2 rfl) hWR
 have HL1 : Hid (∀ W, Ix w7 go gt false gf [gc] (fun _ _ => 0) W → Calls Tryz.prog 30 #[.agg (uv (e17 1)), .agg (uv (e17 3)), .pointer (some ⟨qp, 0, none⟩), .pointer (some ⟨qo, 0, none⟩)] W fun e W' => e = .returned (.bool true) ∧ Ix w7 go gt false gf [gc] (bmp [gc] 1 (fun _ _ => 0)) W' ∧ But (fun k => k = go ∨ k = gt ∨ k ∈ [gc]) W W') := zh fun W h => by
  have := hO.leq _ W (e17 1) (e17 3) h (small_bnd bnd_0 (show 0 + 1 ≤ 1000000 by omega)) (e17_ew (by omega)) (e17_ew (by omega))
  rw [leq13] at this
  exact this
 have HL2 : Hid (∀ W, Ix w7 go gt false gf [gc] (bmp [gc] 1 (fun _ _ => 0)) W → Calls Tryz.prog 30 #[.agg (uv (e17 2)), .agg (uv (e17 1)), .pointer (some ⟨qp, 0, none⟩), .pointer (some ⟨qo, 0, none⟩)] W fun e W' => e = .returned (.bool false) ∧ Ix w7 go gt false gf [gc] (bmp [gc] 1 (bmp [gc] 1 (fun _ _ => 0))) W' ∧ But (fun k => k = go ∨ k = gt ∨ k ∈ [gc]) W W') := zh fun W h => by
  have := hO.leq _ W (e17 2) (e17 1) h (small_bnd (bnd_bmp bnd_0 [gc] 1) (show 0 + 1 + 1 ≤ 1000000 by omega)) (e17_ew (by omega)) (e17_ew (by omega))
  rw [leq21] at this
  exact this
 have HL3 : Hid (∀ W, Ix w7 go gt false gf [gc] (bmp [gc] 1 (bmp [gc] 1 (fun _ _ => 0))) W → Calls Tryz.prog 31 #[.agg (uv (e17 1)), .agg (uv (e17 2)), .pointer (some ⟨qp, 0, none⟩), .pointer (some ⟨qo, 0, none⟩)] W fun e W' => e = .returned (.agg (uv (e17 3))) ∧ Ix w7 go gt false gf [gc] (bmp [gc] 2 (bmp [gc] 1 (bmp [gc] 1 (fun _ _ => 0)))) W' ∧ But (fun k => k = go ∨ k = gt ∨ k ∈ [gc]) W W') := zh fun W h => by
  have := hO.join _ W (e17 1) (e17 2) h (small_bnd (bnd_bmp (bnd_bmp bnd_0 [gc] 1) [gc] 1) (show 0 + 1 + 1 + 1 ≤ 1000000 by omega)) (e17_ew (by omega)) (e17_ew (by omega))
  rw [join12] at this
  exact this
 have HNM : Hid (∀ q, w7.heap.size ≤ q → ¬ (q = go ∨ q = gt ∨ q ∈ [gc])) := zh fun q hq => by
  rintro (h | h | h)
  ·omega
  ·omega
  ·rw [List.mem_singleton] at h; omega
 have hr7 : RowAt w7 g2 33 #[.func (.func 28) #[] #[.pointer (some ⟨qp, 0, none⟩), .pointer (some ⟨qo, 0, none⟩)], .func (.func 30) #[] #[.pointer (some ⟨qp, 0, none⟩), .pointer (some ⟨qo, 0, none⟩)], .func (.func 31) #[] #[.pointer (some ⟨qp, 0, none⟩), .pointer (some ⟨qo, 0, none⟩)]] := HR6.out.below HB7.out HR6.out.lt
 have hn2 : ¬ (g2 = go ∨ g2 = gt ∨ g2 ∈ [gc]) := by
  have := HG2.out
  rintro (h | h | h)
  ·omega
  ·omega
  ·rw [List.mem_singleton] at h; omega
 have C1 : ∀ W, But (fun k => k = go ∨ k = gt ∨ k ∈ [gc]) w7 W → W.cell? ⟨g2, 1, none⟩ = some (.func (.func 30) #[] #[.pointer (some ⟨qp, 0, none⟩), .pointer (some ⟨qo, 0, none⟩)]) := fun W h => ((hr7.but h hn2).cell 1).trans rfl
 have C2 : ∀ W, But (fun k => k = go ∨ k = gt ∨ k ∈ [gc]) w7 W → W.cell? ⟨g2, 2, none⟩ = some (.func (.func 31) #[] #[.pointer (some ⟨qp, 0, none⟩), .pointer (some ⟨qo, 0, none⟩)]) := fun W h => ((hr7.but h hn2).cell 2).trans rfl
 have HI0 : Hid (Ix w7 go gt false gf [gc] (fun _ _ => 0) w7.drew) := zh (hI.kept (zB _ _).drew)
 have HM7 : Hid (MetAt w7 gm gc) := zh (RowAt.below HM1.out hb17 hgm)
 have hnm : ¬ (gm = go ∨ gm = gt ∨ gm ∈ [gc]) := by
  rintro (h | h | h)
  ·omega
  ·omega
  ·rw [List.mem_singleton] at h; omega
 have HMW : Hid (∀ W, But (fun k => k = go ∨ k = gt ∨ k ∈ [gc]) w7 W → MetAt W gm gc) := zh fun W h => RowAt.but HM7.out h hnm
 have HB07 := zh hb07
 have HGE : Hid (w.heap.size ≤ gc ∧ w.heap.size ≤ go ∧ w.heap.size ≤ gt) := zh (by omega)
 clear hO hWR hX hI hC7 hb07 hb17 hb37 hb47 h13 h1s h4 h5 h6 h7 hgc hgm hle hql hw4 hw4t hnm hr7 hn2 p0 p1 p2 HA HT HLW HR6 HB56 HB7 HOF HWR HO5 HP5 HQL HB5 HB4 HB13 HCR HM HM1 HC1 HB1 HGC HF2 HB12 HS2 HG2
 go_cut [3, 4, 5] from 17 to 31 (fun tv uv2 ev wx => ∃ ge : Nat, tv = .bool true ∧ uv2 = .bool false ∧ ev = .pointer (some ⟨ge, 0, none⟩) ∧ Hid (RowAt wx ge 40 (uv (e17 3))) ∧ Hid (Ix w7 go gt false gf [gc] (bmp [gc] 2 (bmp [gc] 1 (bmp [gc] 1 (fun _ _ => 0)))) wx) ∧ Hid (But (fun k => k = go ∨ k = gt ∨ k ∈ [gc]) w7 wx))
 case first =>
  have HS0 : Hid (But (fun k => k = go ∨ k = gt ∨ k ∈ [gc]) w7 w7.drew) := (But.refl _ _).drew
  refine wp_region_ou (fun w' => But (fun k => k = go ∨ k = gt ∨ k ∈ [gc]) w7 w') ((.take 0 (.take 1 (.take 2 (.take 3 (.take 5 (.take 6 (.take 7 (.take 8 (.take 10 (.take 11 (.take 12 (.take 13 (.two 4 (.two 9 (.two 14 (.solo 15 (.take 16 (.take 17 (.solo 18 .nil)))) 15 (.solo 14 (.take 16 (.take 17 (.solo 18 .nil))))) 15 (.solo 9 (.solo 14 (.take 16 (.take 17 (.solo 18 .nil)))))) 15 (.solo 4 (.solo 9 (.solo 14 (.take 16 (.take 17 (.solo 18 .nil)))))))))))))))))))) (by kernel_rfl) (by kernel_rfl) rfl (by kernel_rfl) HS0.out ?_
  generalize w7.drew = v0 at HS0 HI0 ⊢
  have HSv0 := HS0
  have HIv0 := HI0
  iterate 12
   (refine wpOU_step (zO rfl) ?_)
   (first
    | (refine wpOU_skip (by rfl) ?_)
    | (refine wpOU_take (v := ?_) (by rfl) ?_ ?_; rotate_left 1; (intro wx hSx; have hc_0 := C1 wx hSx; have hc_1 := C2 wx hSx; go_simp; try with_reducible rfl)))
   (try simp only [Act.put, zA4, zA5, zA6])
  refine wpOU_two ?_ ?_
  ·(refine wpOU_solo (zO rfl) ?_)
   intro K hK
   go_simp
   refine (HL1.out v0 HIv0.out).mono ?_
   rintro e v1 ⟨rfl, hi, hb⟩
   have HIv1 := zh hi
   have HSv1 := zh (HSv0.out.trans hb)
   clear hi hb
   refine hK.out _ _ HSv1.out ?_
   clear hK K
   (try simp only [Act.put, zA4, zA5, zA6])
   refine wpOU_two ?_ ?_
   ·(refine wpOU_solo (zO rfl) ?_)
    intro K hK
    go_simp
    refine (HL2.out v1 HIv1.out).mono ?_
    rintro e v2 ⟨rfl, hi, hb⟩
    have HIv2 := zh hi
    have HSv2 := zh (HSv1.out.trans hb)
    clear hi hb
    refine hK.out _ _ HSv2.out ?_
    clear hK K
    (try simp only [Act.put, zA4, zA5, zA6])
    refine wpOU_two ?_ ?_
    ·(refine wpOU_solo (zO rfl) ?_)
     intro K hK
     go_simp
     refine (HL3.out v2 HIv2.out).mono ?_
     rintro e v3 ⟨rfl, hi, hb⟩
     have HIv3 := zh hi
     have HSv3 := zh (HSv2.out.trans hb)
     clear hi hb
     refine hK.out _ _ HSv3.out ?_
     clear hK K
     (try simp only [Act.put, zA4, zA5, zA6])
     (refine wpOU_solo (zO rfl) ?_)
     intro K hK
     go_simp
     have hb : Below v3.heap.size v3 (v3.alloc (.cells #[.int .u64 0, .int .u64 0, .int .u64 0, .int .u64 0, .int .u64 0, .int .u64 0, .int .u64 0, .int .u64 0] 40)) := (zB _ _).alloc (zL _) _
     have HIv4 := zh (HIv3.out.kept hb)
     have HSv4 := zh (HSv3.out.trans (But.of_below hb (fun k => k = go ∨ k = gt ∨ k ∈ [gc])))
     have HRv4 : Hid (RowAt (v3.alloc (.cells #[.int .u64 0, .int .u64 0, .int .u64 0, .int .u64 0, .int .u64 0, .int .u64 0, .int .u64 0, .int .u64 0] 40)) v3.heap.size 40 (uv (List.replicate 8 0))) := zh (by rw [← zero_elem]; exact RowAt.new _ _ _)
     have HGl : Hid (w7.heap.size ≤ v3.heap.size) := zh HSv3.out.size
     clear hb
     refine hK.out _ _ HSv4.out ?_
     clear hK K
     (try simp only [Act.put, zA4, zA5, zA6])
     generalize v3.heap.size = ge at *
     generalize (v3.alloc (.cells #[.int .u64 0, .int .u64 0, .int .u64 0, .int .u64 0, .int .u64 0, .int .u64 0, .int .u64 0, .int .u64 0] 40)) = v4 at *
     iterate 2
      (refine wpOU_step (zO rfl) ?_)
      (first
            | (refine wpOU_skip (by rfl) ?_)
            | (refine wpOU_take (v := ?_) (by rfl) ?_ ?_; rotate_left 1; (intro wx hSx; have hc_0 := C1 wx hSx; have hc_1 := C2 wx hSx; go_simp; try with_reducible rfl)))
      (try simp only [Act.put, zA4, zA5, zA6])
     (refine wpOU_solo (zO rfl) ?_)
     intro K hK
     rw [if_pos (by rfl)]
     refine wp_store_row _ _ _ rfl ge (uv (e17 3)) rfl rfl _ _ HRv4.out (einfo (e17_ew (by omega))) rfl (uv8_one _) ?_
     have hm : Mut ge v4 (v4.setRow ge (uv (e17 3))) := Mut.of_else (Else.setRow v4 ge _)
     have HIv5 := zh (HIv4.out.elem hm HRv4.out Fr.elem HGl.out)
     have HSv5 := zh (HSv4.out.mut hm HGl.out)
     have HRv5 := zh (HRv4.out.setRow (uv (e17 3)))
     clear hm
     refine hK.out _ _ HSv5.out ?_
     clear hK K
     (try simp only [Act.put, zA4, zA5, zA6])
     generalize v4.setRow ge (uv (e17 3)) = v5 at *
     refine wpOU_done ?_
     go_wp2
     go_meet
     case rel => exact ⟨ge, rfl, rfl, rfl, HRv5.out, HIv5.out, HSv5.out⟩
    ·(refine wpOU_solo (zO rfl) ?_)
     intro K hK
     go_simp
     have hb : Below v2.heap.size v2 (v2.alloc (.cells #[.int .u64 0, .int .u64 0, .int .u64 0, .int .u64 0, .int .u64 0, .int .u64 0, .int .u64 0, .int .u64 0] 40)) := (zB _ _).alloc (zL _) _
     have HIv3 := zh (HIv2.out.kept hb)
     have HSv3 := zh (HSv2.out.trans (But.of_below hb (fun k => k = go ∨ k = gt ∨ k ∈ [gc])))
     have HRv3 : Hid (RowAt (v2.alloc (.cells #[.int .u64 0, .int .u64 0, .int .u64 0, .int .u64 0, .int .u64 0, .int .u64 0, .int .u64 0, .int .u64 0] 40)) v2.heap.size 40 (uv (List.replicate 8 0))) := zh (by rw [← zero_elem]; exact RowAt.new _ _ _)
     have HGl : Hid (w7.heap.size ≤ v2.heap.size) := zh HSv2.out.size
     clear hb
     refine hK.out _ _ HSv3.out ?_
     clear hK K
     (try simp only [Act.put, zA4, zA5, zA6])
     generalize v2.heap.size = ge at *
     generalize (v2.alloc (.cells #[.int .u64 0, .int .u64 0, .int .u64 0, .int .u64 0, .int .u64 0, .int .u64 0, .int .u64 0, .int .u64 0] 40)) = v3 at *
     (refine wpOU_solo (zO rfl) ?_)
     intro K hK
     go_simp
     refine (HL3.out v3 HIv3.out).mono ?_
     rintro e v4 ⟨rfl, hi, hb⟩
     have HIv4 := zh hi
     have HSv4 := zh (HSv3.out.trans hb)
     have HRv4 := zh (HRv3.out.but hb (HNM.out _ HGl.out))
     clear hi hb
     refine hK.out _ _ HSv4.out ?_
     clear hK K
     (try simp only [Act.put, zA4, zA5, zA6])
     iterate 2
      (refine wpOU_step (zO rfl) ?_)
      (first
            | (refine wpOU_skip (by rfl) ?_)
            | (refine wpOU_take (v := ?_) (by rfl) ?_ ?_; rotate_left 1; (intro wx hSx; have hc_0 := C1 wx hSx; have hc_1 := C2 wx hSx; go_simp; try with_reducible rfl)))
      (try simp only [Act.put, zA4, zA5, zA6])
     (refine wpOU_solo (zO rfl) ?_)
     intro K hK
     rw [if_pos (by rfl)]
     refine wp_store_row _ _ _ rfl ge (uv (e17 3)) rfl rfl _ _ HRv4.out (einfo (e17_ew (by omega))) rfl (uv8_one _) ?_
     have hm : Mut ge v4 (v4.setRow ge (uv (e17 3))) := Mut.of_else (Else.setRow v4 ge _)
     have HIv5 := zh (HIv4.out.elem hm HRv4.out Fr.elem HGl.out)
     have HSv5 := zh (HSv4.out.mut hm HGl.out)
     have HRv5 := zh (HRv4.out.setRow (uv (e17 3)))
     clear hm
     refine hK.out _ _ HSv5.out ?_
     clear hK K
     (try simp only [Act.put, zA4, zA5, zA6])
     generalize v4.setRow ge (uv (e17 3)) = v5 at *
     refine wpOU_done ?_
     go_wp2
     go_meet
     case rel => exact ⟨ge, rfl, rfl, rfl, HRv5.out, HIv5.out, HSv5.out⟩
   ·(refine wpOU_solo (zO rfl) ?_)
    intro K hK
    go_simp
    have hb : Below v1.heap.size v1 (v1.alloc (.cells #[.int .u64 0, .int .u64 0, .int .u64 0, .int .u64 0, .int .u64 0, .int .u64 0, .int .u64 0, .int .u64 0] 40)) := (zB _ _).alloc (zL _) _
    have HIv2 := zh (HIv1.out.kept hb)
    have HSv2 := zh (HSv1.out.trans (But.of_below hb (fun k => k = go ∨ k = gt ∨ k ∈ [gc])))
    have HRv2 : Hid (RowAt (v1.alloc (.cells #[.int .u64 0, .int .u64 0, .int .u64 0, .int .u64 0, .int .u64 0, .int .u64 0, .int .u64 0, .int .u64 0] 40)) v1.heap.size 40 (uv (List.replicate 8 0))) := zh (by rw [← zero_elem]; exact RowAt.new _ _ _)
    have HGl : Hid (w7.heap.size ≤ v1.heap.size) := zh HSv1.out.size
    clear hb
    refine hK.out _ _ HSv2.out ?_
    clear hK K
    (try simp only [Act.put, zA4, zA5, zA6])
    generalize v1.heap.size = ge at *
    generalize (v1.alloc (.cells #[.int .u64 0, .int .u64 0, .int .u64 0, .int .u64 0, .int .u64 0, .int .u64 0, .int .u64 0, .int .u64 0] 40)) = v2 at *
    (refine wpOU_solo (zO rfl) ?_)
    intro K hK
    go_simp
    refine (HL2.out v2 HIv2.out).mono ?_
    rintro e v3 ⟨rfl, hi, hb⟩
    have HIv3 := zh hi
    have HSv3 := zh (HSv2.out.trans hb)
    have HRv3 := zh (HRv2.out.but hb (HNM.out _ HGl.out))
    clear hi hb
    refine hK.out _ _ HSv3.out ?_
    clear hK K
    (try simp only [Act.put, zA4, zA5, zA6])
    (refine wpOU_solo (zO rfl) ?_)
    intro K hK
    go_simp
    refine (HL3.out v3 HIv3.out).mono ?_
    rintro e v4 ⟨rfl, hi, hb⟩
    have HIv4 := zh hi
    have HSv4 := zh (HSv3.out.trans hb)
    have HRv4 := zh (HRv3.out.but hb (HNM.out _ HGl.out))
    clear hi hb
    refine hK.out _ _ HSv4.out ?_
    clear hK K
    (try simp only [Act.put, zA4, zA5, zA6])
    iterate 2
     (refine wpOU_step (zO rfl) ?_)
     (first
           | (refine wpOU_skip (by rfl) ?_)
           | (refine wpOU_take (v := ?_) (by rfl) ?_ ?_; rotate_left 1; (intro wx hSx; have hc_0 := C1 wx hSx; have hc_1 := C2 wx hSx; go_simp; try with_reducible rfl)))
     (try simp only [Act.put, zA4, zA5, zA6])
    (refine wpOU_solo (zO rfl) ?_)
    intro K hK
    rw [if_pos (by rfl)]
    refine wp_store_row _ _ _ rfl ge (uv (e17 3)) rfl rfl _ _ HRv4.out (einfo (e17_ew (by omega))) rfl (uv8_one _) ?_
    have hm : Mut ge v4 (v4.setRow ge (uv (e17 3))) := Mut.of_else (Else.setRow v4 ge _)
    have HIv5 := zh (HIv4.out.elem hm HRv4.out Fr.elem HGl.out)
    have HSv5 := zh (HSv4.out.mut hm HGl.out)
    have HRv5 := zh (HRv4.out.setRow (uv (e17 3)))
    clear hm
    refine hK.out _ _ HSv5.out ?_
    clear hK K
    (try simp only [Act.put, zA4, zA5, zA6])
    generalize v4.setRow ge (uv (e17 3)) = v5 at *
    refine wpOU_done ?_
    go_wp2
    go_meet
    case rel => exact ⟨ge, rfl, rfl, rfl, HRv5.out, HIv5.out, HSv5.out⟩
  ·(refine wpOU_solo (zO rfl) ?_)
   intro K hK
   go_simp
   have hb : Below v0.heap.size v0 (v0.alloc (.cells #[.int .u64 0, .int .u64 0, .int .u64 0, .int .u64 0, .int .u64 0, .int .u64 0, .int .u64 0, .int .u64 0] 40)) := (zB _ _).alloc (zL _) _
   have HIv1 := zh (HIv0.out.kept hb)
   have HSv1 := zh (HSv0.out.trans (But.of_below hb (fun k => k = go ∨ k = gt ∨ k ∈ [gc])))
   have HRv1 : Hid (RowAt (v0.alloc (.cells #[.int .u64 0, .int .u64 0, .int .u64 0, .int .u64 0, .int .u64 0, .int .u64 0, .int .u64 0, .int .u64 0] 40)) v0.heap.size 40 (uv (List.replicate 8 0))) := zh (by rw [← zero_elem]; exact RowAt.new _ _ _)
   have HGl : Hid (w7.heap.size ≤ v0.heap.size) := zh HSv0.out.size
   clear hb
   refine hK.out _ _ HSv1.out ?_
   clear hK K
   (try simp only [Act.put, zA4, zA5, zA6])
   generalize v0.heap.size = ge at *
   generalize (v0.alloc (.cells #[.int .u64 0, .int .u64 0, .int .u64 0, .int .u64 0, .int .u64 0, .int .u64 0, .int .u64 0, .int .u64 0] 40)) = v1 at *
   (refine wpOU_solo (zO rfl) ?_)
   intro K hK
   go_simp
   refine (HL1.out v1 HIv1.out).mono ?_
   rintro e v2 ⟨rfl, hi, hb⟩
   have HIv2 := zh hi
   have HSv2 := zh (HSv1.out.trans hb)
   have HRv2 := zh (HRv1.out.but hb (HNM.out _ HGl.out))
   clear hi hb
   refine hK.out _ _ HSv2.out ?_
   clear hK K
   (try simp only [Act.put, zA4, zA5, zA6])
   (refine wpOU_solo (zO rfl) ?_)
   intro K hK
   go_simp
   refine (HL2.out v2 HIv2.out).mono ?_
   rintro e v3 ⟨rfl, hi, hb⟩
   have HIv3 := zh hi
   have HSv3 := zh (HSv2.out.trans hb)
   have HRv3 := zh (HRv2.out.but hb (HNM.out _ HGl.out))
   clear hi hb
   refine hK.out _ _ HSv3.out ?_
   clear hK K
   (try simp only [Act.put, zA4, zA5, zA6])
   (refine wpOU_solo (zO rfl) ?_)
   intro K hK
   go_simp
   refine (HL3.out v3 HIv3.out).mono ?_
   rintro e v4 ⟨rfl, hi, hb⟩
   have HIv4 := zh hi
   have HSv4 := zh (HSv3.out.trans hb)
   have HRv4 := zh (HRv3.out.but hb (HNM.out _ HGl.out))
   clear hi hb
   refine hK.out _ _ HSv4.out ?_
   clear hK K
   (try simp only [Act.put, zA4, zA5, zA6])
   iterate 2
        (refine wpOU_step (zO rfl) ?_)
        (first
         | (refine wpOU_skip (by rfl) ?_)
         | (refine wpOU_take (v := ?_) (by rfl) ?_ ?_; rotate_left 1; (intro wx hSx; have hc_0 := C1 wx hSx; have hc_1 := C2 wx hSx; go_simp; try with_reducible rfl)))
        (try simp only [Act.put, zA4, zA5, zA6])
   (refine wpOU_solo (zO rfl) ?_)
   intro K hK
   rw [if_pos (by rfl)]
   refine wp_store_row _ _ _ rfl ge (uv (e17 3)) rfl rfl _ _ HRv4.out (einfo (e17_ew (by omega))) rfl (uv8_one _) ?_
   have hm : Mut ge v4 (v4.setRow ge (uv (e17 3))) := Mut.of_else (Else.setRow v4 ge _)
   have HIv5 := zh (HIv4.out.elem hm HRv4.out Fr.elem HGl.out)
   have HSv5 := zh (HSv4.out.mut hm HGl.out)
   have HRv5 := zh (HRv4.out.setRow (uv (e17 3)))
   clear hm
   refine hK.out _ _ HSv5.out ?_
   clear hK K
   (try simp only [Act.put, zA4, zA5, zA6])
   generalize v4.setRow ge (uv (e17 3)) = v5 at *
   refine wpOU_done ?_
   go_wp2
   go_meet
   case rel => exact ⟨ge, rfl, rfl, rfl, HRv5.out, HIv5.out, HSv5.out⟩
 case rest =>
  obtain ⟨ge, rfl, rfl, rfl, HR, HI, HS⟩ := hcut
  have hcc := HI.out.cnt gc (List.mem_singleton.2 rfl)
  have e0 : bmp [gc] 2 (bmp [gc] 1 (bmp [gc] 1 (fun _ _ => 0))) gc 0 = 0 := by unfold bmp; simp
  have e1 : bmp [gc] 2 (bmp [gc] 1 (bmp [gc] 1 (fun _ _ => 0))) gc 1 = 2 := by unfold bmp; simp
  have e2 : bmp [gc] 2 (bmp [gc] 1 (bmp [gc] 1 (fun _ _ => 0))) gc 2 = 1 := by unfold bmp; simp
  rw [e0, e1, e2] at hcc
  have HRD := zh (read_any17 gm gc 0 2 1 wc (HMW.out wc HS.out) hcc)
  have hq : ∀ W, (binOp .eql 40 (.agg (uv (e17 3))) (.agg #[.int .u64 3, .int .u64 0, .int .u64 0, .int .u64 0, .int .u64 0, .int .u64 0, .int .u64 0, .int .u64 0])).run Tryz.prog W = .ok (.bool true) W := fun W => by
   have := run_eql_elem (e17_ew (z := 3) (by omega)) (e17_ew (z := 3) (by omega)) W
   rw [zE rfl] at this
   exact this
  have HFIN : Hid (∀ W, Below wc.heap.size wc W → Below w.heap.size w W) := zh fun W h => (HB07.out.trans (HS.out.below (by
   rintro k (h | h | h)
   ·have := HGE.out; omega
   ·have := HGE.out; omega
   ·rw [List.mem_singleton] at h; have := HGE.out; omega) HB07.out.size)).trans (h.mono (zM HB07.out.size HS.out.size))
  clear hcc e0 e1 e2 HI
  go_wp2_with (first
   | (refine wpList_loadS (by first | rfl | kernel_rfl) 40 _ rfl ge rfl _ _ _ HR.out Tryz.underlying40 rfl (einfo (e17_ew (by omega))) ?_)
   | (go_at_call 16; refine HRD.out.mono ?_; rintro e w8 ⟨rfl, hb8⟩; have HB8 := zh hb8; clear hb8))
  exact HQ.out _ _ ⟨rfl, HFIN.out _ HB8.out⟩
end
end Go.Proofs.YtdahllhbpdbknaaGreatDoor
