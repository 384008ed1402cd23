/- Texts that all the claims need. Conditions: those that each states. -/

import Derived.Test.YtdahllhbpdbknaaGreatDoorTb21
import Derived.Test.YtdahllhbpdbknaaGreatDoorTb30
set_option linter.unusedSimpArgs false
set_option linter.unusedVariables false
set_option maxRecDepth 100000
set_option maxHeartbeats 40000000
namespace Go.Proofs.YtdahllhbpdbknaaGreatDoor
section
open Go.RowKit RM Go.Maps
section
variable {W2 : World} {go gt : Nat} {t : Bool} {gf : List Fac} {Gs : List Nat} {s : Nat → Nat → Nat} {W W' : World}
end
theorem opr_base {W2 : World} {gow gs go gt gp : Nat} {t : Bool} {A : Option Addr} {c : Nat} {gf fs : List Fac} {Gs : List Nat} (hC : Cx W2 gow gs go gt gp t A c gf Gs) (hcore : gf.map core = fs.map core) :
 Opr (Ix W2 go gt t gf Gs) (fun k => k = go ∨ k = gt ∨ k ∈ Gs) fs [] 19 21 43 #[.pointer (some ⟨gow, 0, none⟩)] #[] #[.pointer (some ⟨go, 0, none⟩), .pointer (some ⟨gp, 0, none⟩), .pointer (some ⟨gt, 0, none⟩), .pointer (some ⟨gs, 0, none⟩)] where
 okF := fun _ _ => by kernel_rfl
 okG := fun _ _ => by kernel_rfl
 okH := fun _ _ => by kernel_rfl
 eval := fun s W LA lc l VA vc v hI _ hl hvl hE hL hV => by
  rw [bmp_nil]
  refine (ofEval_any t A c gf gow LA lc l VA vc v W (hC.tab W hI.but) (hC.facs W hI.but) (hC.own.but hI.but (hC.ne gow (.inl rfl))) hl (hL W (But.refl _ _)) hvl (hV W (But.refl _ _)) hE).mono ?_
  rintro e W' ⟨rfl, hb⟩
  exact ⟨by rw [evG_same hcore], hI.kept hb, But.of_below hb _⟩
 leq := fun s W x y hI _ hx hy => by
  rw [bmp_nil]
  refine (sleq_any x y hx hy W).mono ?_
  rintro e W' ⟨rfl, hb⟩
  exact ⟨rfl, hI.kept hb, But.of_below hb _⟩
 join := fun s W x y hI _ hx hy => by
  rw [bmp_nil]
  have hM : ∀ k, (k = go ∨ k = gt) → (k = go ∨ k = gt ∨ k ∈ Gs) := fun k h => h.elim .inl (fun h => .inr (.inl h))
  refine (jcall_any t A c gf go gp gt gs W2.heap.size x y hx hy W (hC.tab W hI.but) (hC.facs W hI.but) (fun W' h => hC.tab W' (hI.but.trans (h.mono hM))) (fun W' h => hC.facs W' (hI.but.trans (h.mono hM)))
   ⟨hC.prep.but hI.but (hC.ne gp (.inr (.inr rfl))), hC.shp.but hI.but (hC.ne gs (.inr (.inl rfl))), hI.but.size, hC.lt.1, hC.lt.2.1, ?_, hI.st⟩).mono ?_
  ·exact ⟨fun e => hC.ne gs (.inr (.inl rfl)) (.inl e), fun e => hC.ne gs (.inr (.inl rfl)) (.inr (.inl e)), fun e => hC.ne gp (.inr (.inr rfl)) (.inl e), fun e => hC.ne gp (.inr (.inr rfl)) (.inr (.inl e))⟩
  ·rintro e W' ⟨rfl, hst, hb⟩
   refine ⟨by rw [joinE_same hcore], ⟨hI.but.trans (hb.mono hM), hst, fun g hg => (hI.cnt g hg).but hb ?_⟩, hb.mono hM⟩
   rintro (h | h)
   ·exact hC.apart.1 (h ▸ hg)
   ·exact hC.apart.2.1 (h ▸ hg)
end
section
open Go.RowKit RM Go.Maps
theorem alive17_any (w : World) (hT : Tab w) : Calls Tryz.prog 8 #[] w fun e w' => e = .returned (.bool true) ∧ Below w.heap.size w w' := by
 have HT := zh hT; clear hT
 have hnot : ∀ (x : Bool) (w : World), (Op.unary .not (.bool x)).run Tryz.prog w = .ok (.bool (!x)) w := fun _ _ => rfl
 have hab : (#[.string ⟨#[97]⟩, .string ⟨#[98]⟩] : Array Value) = (scells ab17).toArray := rfl
 have HAB := zh hab; clear hab
 refine cHid fun Q' hQ => ?_
 have HQ := zh hQ; clear hQ
 go_enter Tryz.func8, Tryz.ntmps8
 go_upto_region 2 with (go_at_call 13; refine (new17_any w).mono ?_; rintro e w1 ⟨rfl, hm1, hc1, hb1⟩; have HM1 := zh hm1; have HC1 := zh hc1; have HB1 := zh hb1; clear hm1 hc1 hb1)
 obtain ⟨gc, hgc⟩ : ∃ gc, gc = w.heap.size := ⟨_, rfl⟩
 obtain ⟨gm, hgm⟩ : ∃ gm, gm = w.heap.size + 1 := ⟨_, rfl⟩
 rw [← hgm] at HM1 ⊢
 rw [← hgc] at HM1 HC1
 have HGC := zh (And.intro hgc hgm)
 clear hgc hgm
 have hf2 : FacOk (w1.alloc (.cells #[.string ⟨#[97]⟩, .string ⟨#[98]⟩] 9)) (fP w1.heap.size) := fP_ok w1
 have hb12 : Below w1.heap.size w1 (w1.alloc (.cells #[.string ⟨#[97]⟩, .string ⟨#[98]⟩] 9)) := (zB _ _).alloc (zL _) _
 have HF2 := zh hf2
 have HB12 := zh hb12
 clear hf2 hb12 HAB
 have hs2 : (w1.alloc (.cells #[.string ⟨#[97]⟩, .string ⟨#[98]⟩] 9)).heap.size = w1.heap.size + 1 := by simp
 have HS2 := zh hs2; clear hs2
 have HM := zh HM1.out
 go_upto_region 3 with (first
  | (refine wpList_oneQ (by decide) infoFac2 Tryz.underlying22 rfl _ rfl (fv (fP w1.heap.size)) (fv_size _ RW.zs) (by rw [← builtP]; rfl) ?_; intro w3 r3 hb3; have HB13 := zh (HB12.out.trans (hb3.mono HB12.out.size)); have HOF := zh (of17_any false (some ⟨w1.heap.size + 1, 0, none⟩) 1 [fP w1.heap.size] w3 (fP_facs w1 _ w3 HF2.out HS2.out r3 hb3) (fun h => by cases h) (show 1 ≤ 65536 by decide) (by intro f hf; rw [List.mem_singleton] at hf; subst hf; show 2 ≤ 65536; decide)); clear r3 hb3)
  | (go_at_call 9; refine HOF.out.mono ?_; rintro e w4 ⟨gow, gs, go, gt, gp, b1, A', c', gf, rfl, hof, hcore, hb4⟩; have HA := zh hof; have HCR := zh hcore; have HB4 := zh hb4; clear hof hcore hb4; have HWR := zh (wrap_any gm gc 19 21 43 #[.pointer (some ⟨gow, 0, none⟩)] #[] #[.pointer (some ⟨go, 0, none⟩), .pointer (some ⟨gp, 0, none⟩), .pointer (some ⟨gt, 0, none⟩), .pointer (some ⟨gs, 0, none⟩)] w4 (RowAt.below (RowAt.below HM1.out HB13.out (RowAt.lt HM1.out)) HB4.out (zT (RowAt.lt HM1.out) HB13.out.size))))
  | (go_at_call 14; refine HWR.out.mono ?_; rintro e w5 ⟨qo, qp, rfl, ho5, hp5, hqo, hqp, hb5⟩; have HO5 := zh ho5; have HP5 := zh hp5; have HQL := zh (And.intro hqo hqp); have HB5 := zh hb5; clear ho5 hp5 hqo hqp hb5))
 -- GEN
 have HR6 : Hid (RowAt (w5.alloc (.cells #[.func (.func 28) #[] #[.pointer (some ⟨qp, 0, none⟩), .pointer (some ⟨qo, 0, none⟩)], .func (.func 30) #[] #[.pointer (some ⟨qp, 0, none⟩), .pointer (some ⟨qo, 0, none⟩)], .func (.func 31) #[] #[.pointer (some ⟨qp, 0, none⟩), .pointer (some ⟨qo, 0, none⟩)]] 33)) w5.heap.size 33 #[.func (.func 28) #[] #[.pointer (some ⟨qp, 0, none⟩), .pointer (some ⟨qo, 0, none⟩)], .func (.func 30) #[] #[.pointer (some ⟨qp, 0, none⟩), .pointer (some ⟨qo, 0, none⟩)], .func (.func 31) #[] #[.pointer (some ⟨qp, 0, none⟩), .pointer (some ⟨qo, 0, none⟩)]]) := zh (RowAt.new _ _ _)
 have HB56 : Hid (Below w5.heap.size w5 (w5.alloc (.cells #[.func (.func 28) #[] #[.pointer (some ⟨qp, 0, none⟩), .pointer (some ⟨qo, 0, none⟩)], .func (.func 30) #[] #[.pointer (some ⟨qp, 0, none⟩), .pointer (some ⟨qo, 0, none⟩)], .func (.func 31) #[] #[.pointer (some ⟨qp, 0, none⟩), .pointer (some ⟨qo, 0, none⟩)]] 33))) := zh ((zB _ _).alloc (zL _) _)
 generalize (w5.alloc (.cells #[.func (.func 28) #[] #[.pointer (some ⟨qp, 0, none⟩), .pointer (some ⟨qo, 0, none⟩)], .func (.func 30) #[] #[.pointer (some ⟨qp, 0, none⟩), .pointer (some ⟨qo, 0, none⟩)], .func (.func 31) #[] #[.pointer (some ⟨qp, 0, none⟩), .pointer (some ⟨qo, 0, none⟩)]] 33)) = w6 at *
 obtain ⟨g2, hg2⟩ : ∃ g2, g2 = w5.heap.size := ⟨_, rfl⟩
 rw [← hg2] at HR6 ⊢
 have HG2 := zh hg2
 clear hg2
 have HLW := zh (lwhole_any 28 30 31 #[.pointer (some ⟨qp, 0, none⟩), .pointer (some ⟨qo, 0, none⟩)] #[.pointer (some ⟨qp, 0, none⟩), .pointer (some ⟨qo, 0, none⟩)] #[.pointer (some ⟨qp, 0, none⟩), .pointer (some ⟨qo, 0, none⟩)] w6)
 obtain ⟨p0, p1, p2, _, _, _⟩ := rw3 HR6.out
 go_upto_region 5 with (go_at_call 10; refine HLW.out.mono ?_; rintro e w7 ⟨rfl, hb7⟩; have HB7 := zh hb7; clear hb7)
 -- the worlds from here on
 have h13 := HB13.out.size
 have h1s := HB1.out.size
 have h4 := HB4.out.size
 have h5 := HB5.out.size
 have h6 := HB56.out.size
 have h7 := HB7.out.size
 have hgc := HGC.out
 have hgm := RowAt.lt HM1.out
 have hb47 : Below w4.heap.size w4 w7 := (HB5.out.trans (HB56.out.mono h5)).trans (HB7.out.mono (zM h5 h6))
 have hb37 : Below w3.heap.size w3 w7 := HB4.out.trans (hb47.mono h4)
 have hb17 : Below w1.heap.size w1 w7 := HB13.out.trans (hb37.mono h13)
 have hb07 : Below w.heap.size w w7 := HB1.out.trans (hb17.mono h1s)
 have hX : Cx w7 gow gs go gt gp false A' c' gf [gc] := cx_of (w0 := w) HT.out HA.out hb07 hb47 (zM h1s h13) (fun g hg => by
  rw [List.mem_singleton] at hg
  omega)
 have hC7 : RowAt w7 gc 74 (cntC 0 0 0) := HC1.out.below hb17 HC1.out.lt
 have hI : Ix w7 go gt false gf [gc] (fun _ _ => 0) w7 := ix_start HA.out hb47 (fun g hg => by
  rw [List.mem_singleton] at hg
  subst hg
  exact hC7)
 have hle := HA.out.le
 have hql := HQL.out
 have hw4 := HA.out.once.lt
 have hw4t := HA.out.tabs.lt
 have hWR : WrAt w7 qp qo gc 19 21 43 #[.pointer (some ⟨gow, 0, none⟩)] #[] #[.pointer (some ⟨go, 0, none⟩), .pointer (some ⟨gp, 0, none⟩), .pointer (some ⟨gt, 0, none⟩), .pointer (some ⟨gs, 0, none⟩)] (fun k => k = go ∨ k = gt ∨ k ∈ [gc]) :=
  ⟨(HP5.out.below HB56.out HP5.out.lt).below HB7.out (zT HP5.out.lt h6), (HO5.out.below HB56.out HO5.out.lt).below HB7.out (zT HO5.out.lt h6), by
    constructor
    ·rintro (h | h | h)
     ·omega
     ·omega
     ·rw [List.mem_singleton] at h; omega
    ·rintro (h | h | h)
     ·omega
     ·omega
     ·rw [List.mem_singleton] at h; omega⟩
 have hO := opr_wrap hX (opr_base hX HCR.out) (List.mem_singleton.2 rfl) hWR
 have HL1 : Hid (∀ W, Ix w7 go gt false gf [gc] (fun _ _ => 0) W → Calls Tryz.prog 30 #[.agg (uv (e17 1)), .agg (uv (e17 3)), .pointer (some ⟨qp, 0, none⟩), .pointer (some ⟨qo, 0, none⟩)] W fun e W' => e = .returned (.bool true) ∧ Ix w7 go gt false gf [gc] (bmp [gc] 1 (fun _ _ => 0)) W' ∧ But (fun k => k = go ∨ k = gt ∨ k ∈ [gc]) W W') := zh fun W h => by
  have := hO.leq _ W (e17 1) (e17 3) h (small_bnd bnd_0 (show 0 + 1 ≤ 1000000 by omega)) (e17_ew (by omega)) (e17_ew (by omega))
  rw [leq13] at this
  exact this
 have HL2 : Hid (∀ W, Ix w7 go gt false gf [gc] (bmp [gc] 1 (fun _ _ => 0)) W → Calls Tryz.prog 30 #[.agg (uv (e17 2)), .agg (uv (e17 1)), .pointer (some ⟨qp, 0, none⟩), .pointer (some ⟨qo, 0, none⟩)] W fun e W' => e = .returned (.bool false) ∧ Ix w7 go gt false gf [gc] (bmp [gc] 1 (bmp [gc] 1 (fun _ _ => 0))) W' ∧ But (fun k => k = go ∨ k = gt ∨ k ∈ [gc]) W W') := zh fun W h => by
  have := hO.leq _ W (e17 2) (e17 1) h (small_bnd (bnd_bmp bnd_0 [gc] 1) (show 0 + 1 + 1 ≤ 1000000 by omega)) (e17_ew (by omega)) (e17_ew (by omega))
  rw [leq21] at this
  exact this
 have HL3 : Hid (∀ W, Ix w7 go gt false gf [gc] (bmp [gc] 1 (bmp [gc] 1 (fun _ _ => 0))) W → Calls Tryz.prog 31 #[.agg (uv (e17 1)), .agg (uv (e17 2)), .pointer (some ⟨qp, 0, none⟩), .pointer (some ⟨qo, 0, none⟩)] W fun e W' => e = .returned (.agg (uv (e17 3))) ∧ Ix w7 go gt false gf [gc] (bmp [gc] 2 (bmp [gc] 1 (bmp [gc] 1 (fun _ _ => 0)))) W' ∧ But (fun k => k = go ∨ k = gt ∨ k ∈ [gc]) W W') := zh fun W h => by
  have := hO.join _ W (e17 1) (e17 2) h (small_bnd (bnd_bmp (bnd_bmp bnd_0 [gc] 1) [gc] 1) (show 0 + 1 + 1 + 1 ≤ 1000000 by omega)) (e17_ew (by omega)) (e17_ew (by omega))
  rw [join12] at this
  exact this
 have HNM : Hid (∀ q, w7.heap.size ≤ q → ¬ (q = go ∨ q = gt ∨ q ∈ [gc])) := zh fun q hq => by
  rintro (h | h | h)
  ·omega
  ·omega
  ·rw [List.mem_singleton] at h; omega
 have hr7 : RowAt w7 g2 33 #[.func (.func 28) #[] #[.pointer (some ⟨qp, 0, none⟩), .pointer (some ⟨qo, 0, none⟩)], .func (.func 30) #[] #[.pointer (some ⟨qp, 0, none⟩), .pointer (some ⟨qo, 0, none⟩)], .func (.func 31) #[] #[.pointer (some ⟨qp, 0, none⟩), .pointer (some ⟨qo, 0, none⟩)]] := HR6.out.below HB7.out HR6.out.lt
 have hn2 : ¬ (g2 = go ∨ g2 = gt ∨ g2 ∈ [gc]) := by
  have := HG2.out
  rintro (h | h | h)
  ·omega
  ·omega
  ·rw [List.mem_singleton] at h; omega
 have C1 : ∀ W, But (fun k => k = go ∨ k = gt ∨ k ∈ [gc]) w7 W → W.cell? ⟨g2, 1, none⟩ = some (.func (.func 30) #[] #[.pointer (some ⟨qp, 0, none⟩), .pointer (some ⟨qo, 0, none⟩)]) := fun W h => ((hr7.but h hn2).cell 1).trans rfl
 have C2 : ∀ W, But (fun k => k = go ∨ k = gt ∨ k ∈ [gc]) w7 W → W.cell? ⟨g2, 2, none⟩ = some (.func (.func 31) #[] #[.pointer (some ⟨qp, 0, none⟩), .pointer (some ⟨qo, 0, none⟩)]) := fun W h => ((hr7.but h hn2).cell 2).trans rfl
 have HI0 : Hid (Ix w7 go gt false gf [gc] (fun _ _ => 0) w7.drew) := zh (hI.kept (zB _ _).drew)
 have HM7 : Hid (MetAt w7 gm gc) := zh (RowAt.below HM1.out hb17 hgm)
 have hnm : ¬ (gm = go ∨ gm = gt ∨ gm ∈ [gc]) := by
  rintro (h | h | h)
  ·omega
  ·omega
  ·rw [List.mem_singleton] at h; omega
 have HMW : Hid (∀ W, But (fun k => k = go ∨ k = gt ∨ k ∈ [gc]) w7 W → MetAt W gm gc) := zh fun W h => RowAt.but HM7.out h hnm
 have HB07 := zh hb07
 have HGE : Hid (w.heap.size ≤ gc ∧ w.heap.size ≤ go ∧ w.heap.size ≤ gt) := zh (by omega)
 clear hO hWR hX hI hC7 hb07 hb17 hb37 hb47 h13 h1s h4 h5 h6 h7 hgc hgm hle hql hw4 hw4t hnm hr7 hn2 p0 p1 p2 HA HT HLW HR6 HB56 HB7 HOF HWR HO5 HP5 HQL HB5 HB4 HB13 HCR HM HM1 HC1 HB1 HGC HF2 HB12 HS2 HG2
 go_cut [3, 4, 5] from 17 to 31 (fun tv uv2 ev wx => ∃ ge : Nat, tv = .bool true ∧ uv2 = .bool false ∧ ev = .pointer (some ⟨ge, 0, none⟩) ∧ Hid (RowAt wx ge 40 (uv (e17 3))) ∧ Hid (Ix w7 go gt false gf [gc] (bmp [gc] 2 (bmp [gc] 1 (bmp [gc] 1 (fun _ _ => 0)))) wx) ∧ Hid (But (fun k => k = go ∨ k = gt ∨ k ∈ [gc]) w7 wx))
 case first =>
  have HS0 : Hid (But (fun k => k = go ∨ k = gt ∨ k ∈ [gc]) w7 w7.drew) := (But.refl _ _).drew
  refine wp_region_ou (fun w' => But (fun k => k = go ∨ k = gt ∨ k ∈ [gc]) w7 w') ((.take 0 (.take 1 (.take 2 (.take 3 (.take 5 (.take 6 (.take 7 (.take 8 (.take 10 (.take 11 (.take 12 (.take 13 (.two 4 (.two 9 (.two 14 (.solo 15 (.take 16 (.take 17 (.solo 18 .nil)))) 15 (.solo 14 (.take 16 (.take 17 (.solo 18 .nil))))) 15 (.solo 9 (.solo 14 (.take 16 (.take 17 (.solo 18 .nil)))))) 15 (.solo 4 (.solo 9 (.solo 14 (.take 16 (.take 17 (.solo 18 .nil)))))))))))))))))))) (by kernel_rfl) (by kernel_rfl) rfl (by kernel_rfl) HS0.out ?_
  generalize w7.drew = v0 at HS0 HI0 ⊢
  have HSv0 := HS0
  have HIv0 := HI0
  iterate 12
   (refine wpOU_step (zO rfl) ?_)
   (first
    | (refine wpOU_skip (by rfl) ?_)
    | (refine wpOU_take (v := ?_) (by rfl) ?_ ?_; rotate_left 1; (intro wx hSx; have hc_0 := C1 wx hSx; have hc_1 := C2 wx hSx; go_simp; try with_reducible rfl)))
   (try simp only [Act.put, zA4, zA5, zA6])
  refine wpOU_two ?_ ?_
  ·(refine wpOU_solo (zO rfl) ?_)
   intro K hK
   go_simp
   refine (HL1.out v0 HIv0.out).mono ?_
   rintro e v1 ⟨rfl, hi, hb⟩
   have HIv1 := zh hi
   have HSv1 := zh (HSv0.out.trans hb)
   clear hi hb
   refine hK.out _ _ HSv1.out ?_
   clear hK K
   (try simp only [Act.put, zA4, zA5, zA6])
   refine wpOU_two ?_ ?_
   ·(refine wpOU_solo (zO rfl) ?_)
    intro K hK
    go_simp
    refine (HL2.out v1 HIv1.out).mono ?_
    rintro e v2 ⟨rfl, hi, hb⟩
    have HIv2 := zh hi
    have HSv2 := zh (HSv1.out.trans hb)
    clear hi hb
    refine hK.out _ _ HSv2.out ?_
    clear hK K
    (try simp only [Act.put, zA4, zA5, zA6])
    refine wpOU_two ?_ ?_
    ·(refine wpOU_solo (zO rfl) ?_)
     intro K hK
     go_simp
     refine (HL3.out v2 HIv2.out).mono ?_
     rintro e v3 ⟨rfl, hi, hb⟩
     have HIv3 := zh hi
     have HSv3 := zh (HSv2.out.trans hb)
     clear hi hb
     refine hK.out _ _ HSv3.out ?_
     clear hK K
     (try simp only [Act.put, zA4, zA5, zA6])
     (refine wpOU_solo (zO rfl) ?_)
     intro K hK
     go_simp
     have hb : Below v3.heap.size v3 (v3.alloc (.cells #[.int .u64 0, .int .u64 0, .int .u64 0, .int .u64 0, .int .u64 0, .int .u64 0, .int .u64 0, .int .u64 0] 40)) := (zB _ _).alloc (zL _) _
     have HIv4 := zh (HIv3.out.kept hb)
     have HSv4 := zh (HSv3.out.trans (But.of_below hb (fun k => k = go ∨ k = gt ∨ k ∈ [gc])))
     have HRv4 : Hid (RowAt (v3.alloc (.cells #[.int .u64 0, .int .u64 0, .int .u64 0, .int .u64 0, .int .u64 0, .int .u64 0, .int .u64 0, .int .u64 0] 40)) v3.heap.size 40 (uv (List.replicate 8 0))) := zh (by rw [← zero_elem]; exact RowAt.new _ _ _)
     have HGl : Hid (w7.heap.size ≤ v3.heap.size) := zh HSv3.out.size
     clear hb
     refine hK.out _ _ HSv4.out ?_
     clear hK K
     (try simp only [Act.put, zA4, zA5, zA6])
     generalize v3.heap.size = ge at *
     generalize (v3.alloc (.cells #[.int .u64 0, .int .u64 0, .int .u64 0, .int .u64 0, .int .u64 0, .int .u64 0, .int .u64 0, .int .u64 0] 40)) = v4 at *
     iterate 2
      (refine wpOU_step (zO rfl) ?_)
      (first
            | (refine wpOU_skip (by rfl) ?_)
            | (refine wpOU_take (v := ?_) (by rfl) ?_ ?_; rotate_left 1; (intro wx hSx; have hc_0 := C1 wx hSx; have hc_1 := C2 wx hSx; go_simp; try with_reducible rfl)))
      (try simp only [Act.put, zA4, zA5, zA6])
     (refine wpOU_solo (zO rfl) ?_)
     intro K hK
     rw [if_pos (by rfl)]
     refine wp_store_row _ _ _ rfl ge (uv (e17 3)) rfl rfl _ _ HRv4.out (einfo (e17_ew (by omega))) rfl (uv8_one _) ?_
     have hm : Mut ge v4 (v4.setRow ge (uv (e17 3))) := Mut.of_else (Else.setRow v4 ge _)
     have HIv5 := zh (HIv4.out.elem hm HRv4.out Fr.elem HGl.out)
     have HSv5 := zh (HSv4.out.mut hm HGl.out)
     have HRv5 := zh (HRv4.out.setRow (uv (e17 3)))
     clear hm
     refine hK.out _ _ HSv5.out ?_
     clear hK K
     (try simp only [Act.put, zA4, zA5, zA6])
     generalize v4.setRow ge (uv (e17 3)) = v5 at *
     refine wpOU_done ?_
     go_wp2
     go_meet
     case rel => exact ⟨ge, rfl, rfl, rfl, HRv5.out, HIv5.out, HSv5.out⟩
    ·(refine wpOU_solo (zO rfl) ?_)
     intro K hK
     go_simp
     have hb : Below v2.heap.size v2 (v2.alloc (.cells #[.int .u64 0, .int .u64 0, .int .u64 0, .int .u64 0, .int .u64 0, .int .u64 0, .int .u64 0, .int .u64 0] 40)) := (zB _ _).alloc (zL _) _
     have HIv3 := zh (HIv2.out.kept hb)
     have HSv3 := zh (HSv2.out.trans (But.of_below hb (fun k => k = go ∨ k = gt ∨ k ∈ [gc])))
     have HRv3 : Hid (RowAt (v2.alloc (.cells #[.int .u64 0, .int .u64 0, .int .u64 0, .int .u64 0, .int .u64 0, .int .u64 0, .int .u64 0, .int .u64 0] 40)) v2.heap.size 40 (uv (List.replicate 8 0))) := zh (by rw [← zero_elem]; exact RowAt.new _ _ _)
     have HGl : Hid (w7.heap.size ≤ v2.heap.size) := zh HSv2.out.size
     clear hb
     refine hK.out _ _ HSv3.out ?_
     clear hK K
     (try simp only [Act.put, zA4, zA5, zA6])
     generalize v2.heap.size = ge at *
     generalize (v2.alloc (.cells #[.int .u64 0, .int .u64 0, .int .u64 0, .int .u64 0, .int .u64 0, .int .u64 0, .int .u64 0, .int .u64 0] 40)) = v3 at *
     (refine wpOU_solo (zO rfl) ?_)
     intro K hK
     go_simp
     refine (HL3.out v3 HIv3.out).mono ?_
     rintro e v4 ⟨rfl, hi, hb⟩
     have HIv4 := zh hi
     have HSv4 := zh (HSv3.out.trans hb)
     have HRv4 := zh (HRv3.out.but hb (HNM.out _ HGl.out))
     clear hi hb
     refine hK.out _ _ HSv4.out ?_
     clear hK K
     (try simp only [Act.put, zA4, zA5, zA6])
     iterate 2
      (refine wpOU_step (zO rfl) ?_)
      (first
            | (refine wpOU_skip (by rfl) ?_)
            | (refine wpOU_take (v := ?_) (by rfl) ?_ ?_; rotate_left 1; (intro wx hSx; have hc_0 := C1 wx hSx; have hc_1 := C2 wx hSx; go_simp; try with_reducible rfl)))
      (try simp only [Act.put, zA4, zA5, zA6])
     (refine wpOU_solo (zO rfl) ?_)
     intro K hK
     rw [if_pos (by rfl)]
     refine wp_store_row _ _ _ rfl ge (uv (e17 3)) rfl rfl _ _ HRv4.out (einfo (e17_ew (by omega))) rfl (uv8_one _) ?_
     have hm : Mut ge v4 (v4.setRow ge (uv (e17 3))) := Mut.of_else (Else.setRow v4 ge _)
     have HIv5 := zh (HIv4.out.elem hm HRv4.out Fr.elem HGl.out)
     have HSv5 := zh (HSv4.out.mut hm HGl.out)
     have HRv5 := zh (HRv4.out.setRow (uv (e17 3)))
     clear hm
     refine hK.out _ _ HSv5.out ?_
     clear hK K
     (try simp only [Act.put, zA4, zA5, zA6])
     generalize v4.setRow ge (uv (e17 3)) = v5 at *
     refine wpOU_done ?_
     go_wp2
     go_meet
     case rel => exact ⟨ge, rfl, rfl, rfl, HRv5.out, HIv5.out, HSv5.out⟩
   ·(refine wpOU_solo (zO rfl) ?_)
    intro K hK
    go_simp
    have hb : Below v1.heap.size v1 (v1.alloc (.cells #[.int .u64 0, .int .u64 0, .int .u64 0, .int .u64 0, .int .u64 0, .int .u64 0, .int .u64 0, .int .u64 0] 40)) := (zB _ _).alloc (zL _) _
    have HIv2 := zh (HIv1.out.kept hb)
    have HSv2 := zh (HSv1.out.trans (But.of_below hb (fun k => k = go ∨ k = gt ∨ k ∈ [gc])))
    have HRv2 : Hid (RowAt (v1.alloc (.cells #[.int .u64 0, .int .u64 0, .int .u64 0, .int .u64 0, .int .u64 0, .int .u64 0, .int .u64 0, .int .u64 0] 40)) v1.heap.size 40 (uv (List.replicate 8 0))) := zh (by rw [← zero_elem]; exact RowAt.new _ _ _)
    have HGl : Hid (w7.heap.size ≤ v1.heap.size) := zh HSv1.out.size
    clear hb
    refine hK.out _ _ HSv2.out ?_
    clear hK K
    (try simp only [Act.put, zA4, zA5, zA6])
    generalize v1.heap.size = ge at *
    generalize (v1.alloc (.cells #[.int .u64 0, .int .u64 0, .int .u64 0, .int .u64 0, .int .u64 0, .int .u64 0, .int .u64 0, .int .u64 0] 40)) = v2 at *
    (refine wpOU_solo (zO rfl) ?_)
    intro K hK
    go_simp
    refine (HL2.out v2 HIv2.out).mono ?_
    rintro e v3 ⟨rfl, hi, hb⟩
    have HIv3 := zh hi
    have HSv3 := zh (HSv2.out.trans hb)
    have HRv3 := zh (HRv2.out.but hb (HNM.out _ HGl.out))
    clear hi hb
    refine hK.out _ _ HSv3.out ?_
    clear hK K
    (try simp only [Act.put, zA4, zA5, zA6])
    (refine wpOU_solo (zO rfl) ?_)
    intro K hK
    go_simp
    refine (HL3.out v3 HIv3.out).mono ?_
    rintro e v4 ⟨rfl, hi, hb⟩
    have HIv4 := zh hi
    have HSv4 := zh (HSv3.out.trans hb)
    have HRv4 := zh (HRv3.out.but hb (HNM.out _ HGl.out))
    clear hi hb
    refine hK.out _ _ HSv4.out ?_
    clear hK K
    (try simp only [Act.put, zA4, zA5, zA6])
    iterate 2
     (refine wpOU_step (zO rfl) ?_)
     (first
           | (refine wpOU_skip (by rfl) ?_)
           | (refine wpOU_take (v := ?_) (by rfl) ?_ ?_; rotate_left 1; (intro wx hSx; have hc_0 := C1 wx hSx; have hc_1 := C2 wx hSx; go_simp; try with_reducible rfl)))
     (try simp only [Act.put, zA4, zA5, zA6])
    (refine wpOU_solo (zO rfl) ?_)
    intro K hK
    rw [if_pos (by rfl)]
    refine wp_store_row _ _ _ rfl ge (uv (e17 3)) rfl rfl _ _ HRv4.out (einfo (e17_ew (by omega))) rfl (uv8_one _) ?_
    have hm : Mut ge v4 (v4.setRow ge (uv (e17 3))) := Mut.of_else (Else.setRow v4 ge _)
    have HIv5 := zh (HIv4.out.elem hm HRv4.out Fr.elem HGl.out)
    have HSv5 := zh (HSv4.out.mut hm HGl.out)
    have HRv5 := zh (HRv4.out.setRow (uv (e17 3)))
    clear hm
    refine hK.out _ _ HSv5.out ?_
    clear hK K
    (try simp only [Act.put, zA4, zA5, zA6])
    generalize v4.setRow ge (uv (e17 3)) = v5 at *
    refine wpOU_done ?_
    go_wp2
    go_meet
    case rel => exact ⟨ge, rfl, rfl, rfl, HRv5.out, HIv5.out, HSv5.out⟩
  ·(refine wpOU_solo (zO rfl) ?_)
   intro K hK
   go_simp
   have hb : Below v0.heap.size v0 (v0.alloc (.cells #[.int .u64 0, .int .u64 0, .int .u64 0, .int .u64 0, .int .u64 0, .int .u64 0, .int .u64 0, .int .u64 0] 40)) := (zB _ _).alloc (zL _) _
   have HIv1 := zh (HIv0.out.kept hb)
   have HSv1 := zh (HSv0.out.trans (But.of_below hb (fun k => k = go ∨ k = gt ∨ k ∈ [gc])))
   have HRv1 : Hid (RowAt (v0.alloc (.cells #[.int .u64 0, .int .u64 0, .int .u64 0, .int .u64 0, .int .u64 0, .int .u64 0, .int .u64 0, .int .u64 0] 40)) v0.heap.size 40 (uv (List.replicate 8 0))) := zh (by rw [← zero_elem]; exact RowAt.new _ _ _)
   have HGl : Hid (w7.heap.size ≤ v0.heap.size) := zh HSv0.out.size
   clear hb
   refine hK.out _ _ HSv1.out ?_
   clear hK K
   (try simp only [Act.put, zA4, zA5, zA6])
   generalize v0.heap.size = ge at *
   generalize (v0.alloc (.cells #[.int .u64 0, .int .u64 0, .int .u64 0, .int .u64 0, .int .u64 0, .int .u64 0, .int .u64 0, .int .u64 0] 40)) = v1 at *
   (refine wpOU_solo (zO rfl) ?_)
   intro K hK
   go_simp
   refine (HL1.out v1 HIv1.out).mono ?_
   rintro e v2 ⟨rfl, hi, hb⟩
   have HIv2 := zh hi
   have HSv2 := zh (HSv1.out.trans hb)
   have HRv2 := zh (HRv1.out.but hb (HNM.out _ HGl.out))
   clear hi hb
   refine hK.out _ _ HSv2.out ?_
   clear hK K
   (try simp only [Act.put, zA4, zA5, zA6])
   (refine wpOU_solo (zO rfl) ?_)
   intro K hK
   go_simp
   refine (HL2.out v2 HIv2.out).mono ?_
   rintro e v3 ⟨rfl, hi, hb⟩
   have HIv3 := zh hi
   have HSv3 := zh (HSv2.out.trans hb)
   have HRv3 := zh (HRv2.out.but hb (HNM.out _ HGl.out))
   clear hi hb
   refine hK.out _ _ HSv3.out ?_
   clear hK K
   (try simp only [Act.put, zA4, zA5, zA6])
   (refine wpOU_solo (zO rfl) ?_)
   intro K hK
   go_simp
   refine (HL3.out v3 HIv3.out).mono ?_
   rintro e v4 ⟨rfl, hi, hb⟩
   have HIv4 := zh hi
   have HSv4 := zh (HSv3.out.trans hb)
   have HRv4 := zh (HRv3.out.but hb (HNM.out _ HGl.out))
   clear hi hb
   refine hK.out _ _ HSv4.out ?_
   clear hK K
   (try simp only [Act.put, zA4, zA5, zA6])
   iterate 2
        (refine wpOU_step (zO rfl) ?_)
        (first
         | (refine wpOU_skip (by rfl) ?_)
         | (refine wpOU_take (v := ?_) (by rfl) ?_ ?_; rotate_left 1; (intro wx hSx; have hc_0 := C1 wx hSx; have hc_1 := C2 wx hSx; go_simp; try with_reducible rfl)))
        (try simp only [Act.put, zA4, zA5, zA6])
   (refine wpOU_solo (zO rfl) ?_)
   intro K hK
   rw [if_pos (by rfl)]
   refine wp_store_row _ _ _ rfl ge (uv (e17 3)) rfl rfl _ _ HRv4.out (einfo (e17_ew (by omega))) rfl (uv8_one _) ?_
   have hm : Mut ge v4 (v4.setRow ge (uv (e17 3))) := Mut.of_else (Else.setRow v4 ge _)
   have HIv5 := zh (HIv4.out.elem hm HRv4.out Fr.elem HGl.out)
   have HSv5 := zh (HSv4.out.mut hm HGl.out)
   have HRv5 := zh (HRv4.out.setRow (uv (e17 3)))
   clear hm
   refine hK.out _ _ HSv5.out ?_
   clear hK K
   (try simp only [Act.put, zA4, zA5, zA6])
   generalize v4.setRow ge (uv (e17 3)) = v5 at *
   refine wpOU_done ?_
   go_wp2
   go_meet
   case rel => exact ⟨ge, rfl, rfl, rfl, HRv5.out, HIv5.out, HSv5.out⟩
 case rest =>
  obtain ⟨ge, rfl, rfl, rfl, HR, HI, HS⟩ := hcut
  have hcc := HI.out.cnt gc (List.mem_singleton.2 rfl)
  have e0 : bmp [gc] 2 (bmp [gc] 1 (bmp [gc] 1 (fun _ _ => 0))) gc 0 = 0 := by unfold bmp; simp
  have e1 : bmp [gc] 2 (bmp [gc] 1 (bmp [gc] 1 (fun _ _ => 0))) gc 1 = 2 := by unfold bmp; simp
  have e2 : bmp [gc] 2 (bmp [gc] 1 (bmp [gc] 1 (fun _ _ => 0))) gc 2 = 1 := by unfold bmp; simp
  rw [e0, e1, e2] at hcc
  have HRD := zh (read_any17 gm gc 0 2 1 wc (HMW.out wc HS.out) hcc)
  have hq : ∀ W, (binOp .eql 40 (.agg (uv (e17 3))) (.agg #[.int .u64 3, .int .u64 0, .int .u64 0, .int .u64 0, .int .u64 0, .int .u64 0, .int .u64 0, .int .u64 0])).run Tryz.prog W = .ok (.bool true) W := fun W => by
   have := run_eql_elem (e17_ew (z := 3) (by omega)) (e17_ew (z := 3) (by omega)) W
   rw [zE rfl] at this
   exact this
  have HFIN : Hid (∀ W, Below wc.heap.size wc W → Below w.heap.size w W) := zh fun W h => (HB07.out.trans (HS.out.below (by
   rintro k (h | h | h)
   ·have := HGE.out; omega
   ·have := HGE.out; omega
   ·rw [List.mem_singleton] at h; have := HGE.out; omega) HB07.out.size)).trans (h.mono (zM HB07.out.size HS.out.size))
  clear hcc e0 e1 e2 HI
  go_wp2_with (first
   | (refine wpList_loadS (by first | rfl | kernel_rfl) 40 _ rfl ge rfl _ _ _ HR.out Tryz.underlying40 rfl (einfo (e17_ew (by omega))) ?_)
   | (go_at_call 16; refine HRD.out.mono ?_; rintro e w8 ⟨rfl, hb8⟩; have HB8 := zh hb8; clear hb8))
  exact HQ.out _ _ ⟨rfl, HFIN.out _ HB8.out⟩
end
section
open Go.RowKit RM Go.Maps
theorem tallyCounts_any (t : Bool) (A : Option Addr) (c : Nat) (fs : List Fac) (LA : Option Addr) (lc : Nat) (xs : List OpX) (cl : Nat) (hcl : cl < 256) (hlc : xs.length ≤ lc) (w : World) (h : LawIn w A c fs LA xs) :
 Calls Tryz.prog 4 #[.agg (sv t A fs.length c), .slice LA xs.length lc, .int .u8 (cl : Int)] w fun e w' => e = .returned (.bool true) ∧ Below w.heap.size w w' := by
 have hnot : ∀ (x : Bool) (w : World), (Op.unary .not (.bool x)).run Tryz.prog w = .ok (.bool (!x)) w := fun _ _ => rfl
 have r0 := RowAt.new w 24 (sv t A fs.length c)
 have hb0 : Below w.heap.size w (w.alloc (.cells (sv t A fs.length c) 24)) := (zB _ _).alloc (zL _) _
 have HBG : Hid (∀ W, Below w.heap.size w W → Calls Tryz.prog 6 #[.agg (sv t A fs.length c)] W fun x w' => x = .returned (.bool (bigShB fs)) ∧ Below W.heap.size W w') := zh fun W h2 => bigS_any t A c fs W (h.facs.below h2)
 have HBX : Hid (∀ W, Below w.heap.size w W → Calls Tryz.prog 7 #[.slice LA xs.length lc] W fun x w' => x = .returned (.bool (bigX xs)) ∧ Below W.heap.size W w') := zh fun W h2 => big17_any LA lc xs W (h.ops.below h2)
 have HAL : Hid (∀ W, Below w.heap.size w W → Calls Tryz.prog 8 #[] W fun x w' => x = .returned (.bool true) ∧ Below W.heap.size W w') := zh fun W h2 => alive17_any W (h.tab.below h2)
 have HH := zh h; clear h
 have HLC := zh hlc; clear hlc
 refine cHid fun Q' hQ => ?_
 have HQ := zh hQ; clear hQ
 go_enter Tryz.func4, Tryz.ntmps4
 go_upto_region 1 with fail
 change Code.wp _ _ _ _ (w.alloc (.cells (sv t A fs.length c) 24))
 generalize (w.alloc (.cells (sv t A fs.length c) 24)) = w1 at *
 have HR1 := zh r0
 have HB1 := zh hb0
 have HBG1 := zh (HBG.out w1 hb0)
 clear r0 hb0 HBG
 cases hbs : bigShB fs with
 | true =>
   rw [hbs] at HBG1
   clear hbs
   generalize fs.length = n at *
   generalize xs.length = m at *
   go_wp2_with (first
    | (refine wpList_loadShape (by rfl) _ rfl w.heap.size rfl _ _ _ _ HR1.out ?_)
    | (go_at_call 6; refine HBG1.out.mono ?_; rintro e w2 ⟨rfl, hb2⟩; have HB2 := zh (HB1.out.trans (hb2.mono HB1.out.size)); have HAL2 := zh (HAL.out w2 HB2.out); clear hb2)
    | (go_at_call 8; refine HAL2.out.mono ?_; rintro e w3 ⟨rfl, hb3⟩; have HB3 := zh (HB2.out.trans (hb3.mono HB2.out.size)); clear hb3))
   exact HQ.out _ _ ⟨rfl, HB3.out⟩
 | false =>
   rw [hbs] at HBG1
   cases hbx : bigX xs with
   | true =>
     rw [hbx] at HBX
     clear hbs hbx
     generalize fs.length = n at *
     generalize xs.length = m at *
     go_wp2_with (first
        | (refine wpList_loadShape (by rfl) _ rfl w.heap.size rfl _ _ _ _ HR1.out ?_)
        | (go_at_call 6; refine HBG1.out.mono ?_; rintro e w2 ⟨rfl, hb2⟩; have HB2 := zh (HB1.out.trans (hb2.mono HB1.out.size)); have HBX2 := zh (HBX.out w2 HB2.out); clear hb2)
        | (go_at_call 7; refine HBX2.out.mono ?_; rintro e w3 ⟨rfl, hb3⟩; have HB3 := zh (HB2.out.trans (hb3.mono HB2.out.size)); have HAL3 := zh (HAL.out w3 HB3.out); clear hb3)
        | (go_at_call 8; refine HAL3.out.mono ?_; rintro e w4 ⟨rfl, hb4⟩; have HB4 := zh (HB3.out.trans (hb4.mono HB3.out.size)); clear hb4))
     exact HQ.out _ _ ⟨rfl, HB4.out⟩
   | false =>
     rw [hbx] at HBX
     obtain ⟨hf12, hf70⟩ := big_no hbs
     obtain ⟨hx60, hxb⟩ := bigX_no hbx
     have HOF : Hid (∀ W, Below w.heap.size w W → Calls Tryz.prog 9 #[.agg (sv t A fs.length c)] W fun e w' => ∃ gow gs go gt gp b1 A' c' gf, e = .returned (.agg #[.func (.func 19) #[] #[.pointer (some ⟨gow, 0, none⟩)], .func (.func 21) #[] #[],
        .func (.func 43) #[] #[.pointer (some ⟨go, 0, none⟩), .pointer (some ⟨gp, 0, none⟩), .pointer (some ⟨gt, 0, none⟩), .pointer (some ⟨gs, 0, none⟩)]]) ∧ OfAt w' W.heap.size gow gs go gt gp b1 t A' c' gf ∧ gf.map core = fs.map core ∧ Below W.heap.size W w') := zh fun W h2 =>
        of17_any t A c fs W (HH.out.facs.below h2) HH.out.nil (by omega) (fun f hf => by have := hf70 f hf; omega)
     have HXB := zh hxb
     clear hbs hbx hf12 hf70 hxb
     have HRD : Hid (∀ x ∈ xs, ∀ W, Below w.heap.size w W → Calls Tryz.prog 12 #[.agg (sv t A fs.length c), .agg (opxC x).toArray] W fun e W' => e = .returned (.agg (gotC (ansX fs x))) ∧ Below W.heap.size W W') := zh fun x hx W h2 =>
        rdo_any t A c fs x (by have := (HXB.out x hx).1; omega) (by have := (HXB.out x hx).2; omega) W (HH.out.facs.below h2) ((HH.out.ok x hx).below h2)
     generalize fs.length = n at *
     generalize hm : xs.length = m at *
     have HM := zh hm; clear hm
     have HNW := zh fun W => new17_any W
     go_upto_region 4 with (first
        | (refine wpList_loadShape (by rfl) _ rfl w.heap.size rfl _ _ _ _ HR1.out ?_)
        | (go_at_call 6; refine HBG1.out.mono ?_; rintro e w2 ⟨rfl, hb2⟩; have HB2 := zh (HB1.out.trans (hb2.mono HB1.out.size)); have HBX2 := zh (HBX.out w2 HB2.out); have HR2 := zh (HR1.out.below hb2 HR1.out.lt); clear hb2)
        | (go_at_call 7; refine HBX2.out.mono ?_; rintro e w3 ⟨rfl, hb3⟩; have HB3 := zh (HB2.out.trans (hb3.mono HB2.out.size)); have HR3 := zh (HR2.out.below hb3 HR2.out.lt); clear hb3)
        | (go_at_call 13; refine (HNW.out w3).mono ?_; rintro e w4 ⟨rfl, hm4, hc4, hb4⟩; have HM4 := zh hm4; have HC4 := zh hc4; have HB34 := zh hb4; have HB4 := zh (HB3.out.trans (hb4.mono HB3.out.size)); have HOF4 := zh (HOF.out w4 HB4.out); have HR4 := zh (HR3.out.below hb4 HR3.out.lt); clear hm4 hc4 hb4))
     obtain ⟨gc, hgc⟩ : ∃ gc, gc = w3.heap.size := ⟨_, rfl⟩
     obtain ⟨gm, hgm⟩ : ∃ gm, gm = w3.heap.size + 1 := ⟨_, rfl⟩
     rw [← hgm] at HM4 ⊢
     rw [← hgc] at HM4 HC4
     have HGC := zh (And.intro hgc hgm)
     clear hgc hgm
     have HWR := zh fun W gow go gp gt gs (h : MetAt W gm gc) => wrap_any gm gc 19 21 43 #[.pointer (some ⟨gow, 0, none⟩)] #[] #[.pointer (some ⟨go, 0, none⟩), .pointer (some ⟨gp, 0, none⟩), .pointer (some ⟨gt, 0, none⟩), .pointer (some ⟨gs, 0, none⟩)] W h
     go_upto_region 5 with (first
        | (refine wpList_loadShape (by rfl) _ rfl w.heap.size rfl _ _ _ _ HR4.out ?_)
        | (go_at_call 9; refine HOF4.out.mono ?_; rintro e w5 ⟨gow, gs, go, gt, gp, b1, A', c', gf, rfl, hof, hcore, hb5⟩; have HA := zh hof; have HCR := zh hcore; have HB45 := zh hb5; have HM5 : Hid (MetAt w5 gm gc) := zh (RowAt.below HM4.out hb5 (RowAt.lt HM4.out)); clear hof hcore hb5)
        | (go_at_call 14; refine (HWR.out w5 gow go gp gt gs HM5.out).mono ?_; rintro e w6 ⟨qo, qp, rfl, ho6, hp6, hl1, hl2, hb6⟩; have HO6 := zh ho6; have HP6 := zh hp6; have HQL := zh (And.intro hl1 hl2); have HB56 := zh hb6; clear ho6 hp6 hl1 hl2 hb6))
     have HR7 : Hid (RowAt (w6.alloc (.cells #[.func (.func 28) #[] #[.pointer (some ⟨qp, 0, none⟩), .pointer (some ⟨qo, 0, none⟩)], .func (.func 30) #[] #[.pointer (some ⟨qp, 0, none⟩), .pointer (some ⟨qo, 0, none⟩)], .func (.func 31) #[] #[.pointer (some ⟨qp, 0, none⟩), .pointer (some ⟨qo, 0, none⟩)]] 33)) w6.heap.size 33 #[.func (.func 28) #[] #[.pointer (some ⟨qp, 0, none⟩), .pointer (some ⟨qo, 0, none⟩)], .func (.func 30) #[] #[.pointer (some ⟨qp, 0, none⟩), .pointer (some ⟨qo, 0, none⟩)], .func (.func 31) #[] #[.pointer (some ⟨qp, 0, none⟩), .pointer (some ⟨qo, 0, none⟩)]]) := zh (RowAt.new _ _ _)
     have HB67 : Hid (Below w6.heap.size w6 (w6.alloc (.cells #[.func (.func 28) #[] #[.pointer (some ⟨qp, 0, none⟩), .pointer (some ⟨qo, 0, none⟩)], .func (.func 30) #[] #[.pointer (some ⟨qp, 0, none⟩), .pointer (some ⟨qo, 0, none⟩)], .func (.func 31) #[] #[.pointer (some ⟨qp, 0, none⟩), .pointer (some ⟨qo, 0, none⟩)]] 33))) := zh ((zB _ _).alloc (zL _) _)
     generalize (w6.alloc (.cells #[.func (.func 28) #[] #[.pointer (some ⟨qp, 0, none⟩), .pointer (some ⟨qo, 0, none⟩)], .func (.func 30) #[] #[.pointer (some ⟨qp, 0, none⟩), .pointer (some ⟨qo, 0, none⟩)], .func (.func 31) #[] #[.pointer (some ⟨qp, 0, none⟩), .pointer (some ⟨qo, 0, none⟩)]] 33)) = w7 at *
     obtain ⟨g2, hg2⟩ : ∃ g2, g2 = w6.heap.size := ⟨_, rfl⟩
     rw [← hg2] at HR7 ⊢
     have HG2 := zh hg2
     clear hg2
     have HLW := zh (lwhole_any 28 30 31 #[.pointer (some ⟨qp, 0, none⟩), .pointer (some ⟨qo, 0, none⟩)] #[.pointer (some ⟨qp, 0, none⟩), .pointer (some ⟨qo, 0, none⟩)] #[.pointer (some ⟨qp, 0, none⟩), .pointer (some ⟨qo, 0, none⟩)] w7)
     obtain ⟨p0, p1, p2, _, _, _⟩ := rw3 HR7.out
     go_upto_region 7 with (go_at_call 10; refine HLW.out.mono ?_; rintro e w8 ⟨rfl, hb8⟩; have HB78 := zh hb8; clear hb8)
     have h3 := HB3.out.size
     have h34 := HB34.out.size
     have h45 := HB45.out.size
     have h56 := HB56.out.size
     have h67 := HB67.out.size
     have h78 := HB78.out.size
     have hgc := HGC.out
     have hgm := RowAt.lt HM4.out
     have hb58 : Below w5.heap.size w5 w8 := (HB56.out.trans (HB67.out.mono h56)).trans (HB78.out.mono (zM h56 h67))
     have hb48 : Below w4.heap.size w4 w8 := HB45.out.trans (hb58.mono h45)
     have hb08 : Below w.heap.size w w8 := HB4.out.trans (hb48.mono HB4.out.size)
     have hle := HA.out.le
     have hw5 := HA.out.once.lt
     have hw5t := HA.out.tabs.lt
     have hql := HQL.out
     have hX : Cx w8 gow gs go gt gp t A' c' gf [gc] := cx_of (w0 := w) HH.out.tab HA.out hb08 hb58 (by omega) (fun g hg => by
        rw [List.mem_singleton] at hg
        omega)
     have hC8 : RowAt w8 gc 74 (cntC 0 0 0) := HC4.out.below hb48 HC4.out.lt
     have HCX := zh hX
     have HI0 : Hid (Ix w8 go gt t gf [gc] (cS xs 0 0) w8) := zh (by
        rw [cS_self]
        exact ix_start HA.out hb58 (fun g hg => by
         rw [List.mem_singleton] at hg
         subst hg
         exact hC8))
     have hWR : WrAt w8 qp qo gc 19 21 43 #[.pointer (some ⟨gow, 0, none⟩)] #[] #[.pointer (some ⟨go, 0, none⟩), .pointer (some ⟨gp, 0, none⟩), .pointer (some ⟨gt, 0, none⟩), .pointer (some ⟨gs, 0, none⟩)] (fun k => k = go ∨ k = gt ∨ k ∈ [gc]) :=
        ⟨(HP6.out.below HB67.out HP6.out.lt).below HB78.out (zT HP6.out.lt h67), (HO6.out.below HB67.out HO6.out.lt).below HB78.out (zT HO6.out.lt h67), by
          constructor
          ·rintro (h | h | h)
           ·omega
           ·omega
           ·rw [List.mem_singleton] at h; omega
          ·rintro (h | h | h)
           ·omega
           ·omega
           ·rw [List.mem_singleton] at h; omega⟩
     have HOP := zh (opr_wrap hX (opr_base hX HCR.out) (List.mem_singleton.2 rfl) hWR)
     have HR8 := zh (HR7.out.below HB78.out HR7.out.lt)
     have HSH : Hid (RowAt w8 w.heap.size 24 (sv t A n c)) := zh (HR4.out.below hb48 HR4.out.lt)
     have HMT : Hid (MetAt w8 gm gc) := zh (RowAt.below HM4.out hb48 hgm)
     have hr3 := HR3.out.lt
     have HNM : Hid (¬ (g2 = go ∨ g2 = gt ∨ g2 ∈ [gc]) ∧ ¬ (w.heap.size = go ∨ w.heap.size = gt ∨ w.heap.size ∈ [gc]) ∧ ¬ (gm = go ∨ gm = gt ∨ gm ∈ [gc])) := zh (by
        have := HG2.out
        refine ⟨?_, ?_, ?_⟩
        ·rintro (h | h | h)
         ·omega
         ·omega
         ·rw [List.mem_singleton] at h; omega
        ·rintro (h | h | h)
         ·omega
         ·omega
         ·rw [List.mem_singleton] at h; omega
        ·rintro (h | h | h)
         ·omega
         ·omega
         ·rw [List.mem_singleton] at h; omega)
     have HLOW : Hid (∀ W, But (fun k => k = go ∨ k = gt ∨ k ∈ [gc]) w8 W → Below w.heap.size w W) := zh fun W h => hb08.trans (h.below (by
        rintro k (h | h | h)
        ·omega
        ·omega
        ·rw [List.mem_singleton] at h; omega) hb08.size)
     have HGE : Hid (go < w8.heap.size ∧ gt < w8.heap.size ∧ gc < w8.heap.size ∧ go ≠ gc ∧ gt ≠ gc) := zh ⟨by omega, by omega, by omega, by omega, by omega⟩
     clear hWR hX hC8 h3 h34 h45 h56 h67 h78 hb58 hb48 hb08 hle hw5 hw5t hql hgc hgm hr3 p0 p1 p2 HLW HR7 HB67 HB78 HA HCR HG2 HR4 HR3 HR2 HR1 HB34 HB45 HB56 HB4 HB3 HB2 HB1 HBG1 HBX HBX2 HOF HOF4 HWR HNW HO6 HP6 HQL HM4 HM5 HC4 HGC
     go_wp2_with fail
     have hm60 : m ≤ 60 := hx60
     go_loopw [9, 10, 11, 12, 30] (fun fv _ _ _ kv wr => ∃ k f : Nat, k ≤ m ∧ f ≤ k ∧ kv = .int .i64 (k : Int) ∧ fv = .int .i64 (f : Int) ∧ Hid (Ix w8 go gt t gf [gc] (cS xs f k) wr)) (fun _ _ _ _ kv _ => m - (intOf kv).toNat)
     case atStart => exact ⟨0, 0, by omega, by omega, rfl, rfl, HI0⟩
     case round =>
        clear HI0
        obtain ⟨k, f, hk, hfk, rfl, rfl, HI⟩ := hrel
        by_cases hlt : k < m
        ·obtain ⟨b, o, rfl, hbl, hc⟩ := (HH.out.ops.below (HLOW.out wr HI.out.but)).at 19 opxC_len (by omega) opx0 (i := k) (by rw [HM.out]; exact hlt)
         have hr := hc k (by rw [HM.out]; exact hlt)
         have hmem : xs.getD k opx0 ∈ xs := getD_mem' (by rw [HM.out]; exact hlt)
         have hib := infoOpx (xs.getD k opx0)
         have HXK := zh (HXB.out _ hmem)
         have HOK := zh (HH.out.ok _ hmem)
         have HRDK := zh (HRD.out _ hmem)
         have HST : Hid (∀ f', f' ≤ k → ∀ W, Ix w8 go gt t gf [gc] (bmp [gc] (knd (xs.getD k opx0)) (cS xs f' k)) W → Ix w8 go gt t gf [gc] (cS xs f' (k + 1)) W) := zh fun f' hf' W hi => hi.same fun g hg j => by
           rw [List.mem_singleton] at hg
           subst hg
           exact cS_step hf' (by rw [HM.out]; exact hlt) g j
         clear hc hbl hmem
         generalize xs.getD k opx0 = x at *
         have HRN := zh hr; clear hr
         go_upto_region 11 with (first
           | (refine wpList_ldIn (by rfl) _ _ rfl b (o + k * 19) rfl _ _ HRN.out Tryz.underlying42 rfl hib ?_)
           | (refine wpList_stRow (by rfl) _ _ _ rfl wr.heap.size (opxC x).toArray rfl rfl _ _ (RowAt.new _ _ _) (infoOpxA x) (by rw [opxC_size]; rfl) (opxC_one x) ?_; intro w9 r9 he; have HR9 := zh r9; have HB9 : Hid (Below wr.heap.size wr w9) := zh (((zB _ _).alloc (zL _) _).trans (he.below (zL _))); clear r9 he))
         have HI9 := zh (HI.out.kept HB9.out)
         obtain ⟨gx, hgx⟩ : ∃ gx, gx = wr.heap.size := ⟨_, rfl⟩
         rw [← hgx] at HR9 ⊢
         have hnx : ¬ (gx = go ∨ gx = gt ∨ gx ∈ [gc]) := by
           have := HI.out.but.size
           have := HGE.out
           rintro (h | h | h)
           ·omega
           ·omega
           ·rw [List.mem_singleton] at h; omega
         have PO : Hid (∀ W, But (fun k => k = go ∨ k = gt ∨ k ∈ [gc]) w9 W → RowAt W g2 33 #[.func (.func 28) #[] #[.pointer (some ⟨qp, 0, none⟩), .pointer (some ⟨qo, 0, none⟩)], .func (.func 30) #[] #[.pointer (some ⟨qp, 0, none⟩), .pointer (some ⟨qo, 0, none⟩)], .func (.func 31) #[] #[.pointer (some ⟨qp, 0, none⟩), .pointer (some ⟨qo, 0, none⟩)]]) := zh fun W h => (HR8.out.but HI9.out.but HNM.out.1).but h HNM.out.1
         have PS : Hid (∀ W, But (fun k => k = go ∨ k = gt ∨ k ∈ [gc]) w9 W → RowAt W w.heap.size 24 (sv t A n c)) := zh fun W h => (HSH.out.but HI9.out.but HNM.out.2.1).but h HNM.out.2.1
         have PX : Hid (∀ W, But (fun k => k = go ∨ k = gt ∨ k ∈ [gc]) w9 W → RowAt W gx 42 (opxC x).toArray) := zh fun W h => HR9.out.but h hnx
         have PM : Hid (∀ W, But (fun k => k = go ∨ k = gt ∨ k ∈ [gc]) w9 W → MetAt W gm gc) := zh fun W h => RowAt.but (RowAt.but HMT.out HI9.out.but HNM.out.2.2) h HNM.out.2.2
         have PL : Hid (∀ W, But (fun k => k = go ∨ k = gt ∨ k ∈ [gc]) w9 W → Below w.heap.size w W) := zh fun W h => HLOW.out W (HI9.out.but.trans h)
         have HCL := zh (clear_any17 gm gc _ _ _ w9 (PM.out w9 (But.refl _ _)) (HI9.out.cnt gc (List.mem_singleton.2 rfl)))
         clear hgx HRN hib HB9 hnx HR9
         have hcw : IntKind.i64.wrap (cl : Int) = (cl : Int) := by
           rw [IntKind.wrap_i64]; omega
         go_upto_if 38 with fail
         go_cut [9] from 31 to 64 (fun fv wx => ∃ f' : Nat, fv = .int .i64 (f' : Int) ∧ f' ≤ k ∧ Hid (Ix w8 go gt t gf [gc] (cS xs f' k) wx) ∧ Hid (But (fun k => k = go ∨ k = gt ∨ k ∈ [gc]) w9 wx))
         case first =>
           by_cases hkc : k = cl
           ·have e1 : ((k : Int) == (cl : Int)) = true := by simp [hkc]
            clear hkc
            go_wp2_with (go_at_call 15; refine HCL.out.mono ?_; rintro e w10 ⟨rfl, hr10, hm10⟩; have HR10 := zh hr10; have HM10 := zh hm10; clear hr10 hm10)
            go_meet
            case rel => exact ⟨k, rfl, zL _, by rw [cS_self]; exact HI9.out.clear HGE.out.2.2.2.1 HGE.out.2.2.2.2 HGE.out.2.2.1 HM10.out HR10.out, But.of_mut HM10.out (.inr (.inr (List.mem_singleton.2 rfl)))⟩
           ·have e1 : ((k : Int) == (cl : Int)) = false := by
             simp only [beq_eq_false_iff_ne, ne_eq]
             omega
            clear hkc
            go_wp2_with fail
            go_meet
            case rel => exact ⟨f, rfl, hfk, HI9.out, But.refl _ _⟩
         case rest =>
           obtain ⟨f', rfl, hf', HIc, HSc⟩ := hcut
           go_upto_region 14 with fail
           have pO := PO.out
           have pS := PS.out
           have pX := PX.out
           have HD : Hid (But (fun k => k = go ∨ k = gt ∨ k ∈ [gc]) w9 wc.drew) := zh HSc.out.drew
           have HID := zh (HIc.out.kept (zB wc.heap.size wc).drew)
           have HDO := zh (do_any HCX.out HOP.out x (by have := HXK.out.1; omega) (by have := HXK.out.2; omega) (cS xs f' k) wc.drew HID.out (small_bnd (cS_le xs f' k) (show k + 1 ≤ 1000000 by omega)) (fun W' h => HOK.out.below (PL.out W' (HD.out.trans h))))
           have HEW := zh (ansX_ew fs x HOK.out.ew)
           have HSTf := zh (HST.out f' hf')
           clear HI HI9 HIc HSc HXK HOK HCL HST hfk hcw
           refine wp_region_ord (fun W => But (fun k => k = go ∨ k = gt ∨ k ∈ [gc]) w9 W) [(0, true), (1, true), (3, true), (4, true), (2, false), (5, false), (6, true)] (by kernel_rfl) (by kernel_rfl) rfl (by kernel_rfl) HD.out ?_
           generalize wc.drew = VV at HD HID HDO ⊢
           iterate 4
            (refine wpOrd_step (zO rfl) ?_)
            (first
             | (refine wpOrd_skip (by rfl) ?_)
             | (refine wpOrd_take (by rfl) (take_row _ _ rfl g2 rfl _ _ _ pO Tryz.underlying33 rfl (by kernel_rfl)) ?_)
             | (refine wpOrd_take (by rfl) (take_row _ _ rfl gx rfl _ _ _ pX Tryz.underlying42 rfl (infoOpxA x)) ?_)
             | (refine wpOrd_take (by rfl) (take_loadShape _ rfl w.heap.size rfl _ _ _ _ pS) ?_))
            (try simp only [Act.put, zA4, zA5, zA6])
           (refine wpOrd_solo (zO rfl) ?_)
           intro K hK
           go_simp
           go_at_call 11
           refine HDO.out.mono ?_
           rintro e w10 ⟨rfl, hi10, hb10⟩
           have HI10 := zh hi10
           have HS10 := zh (HD.out.trans hb10)
           clear hi10 hb10
           refine hK.out _ _ HS10.out ?_
           clear hK K
           (try simp only [Act.put, zA4, zA5, zA6])
           (refine wpOrd_solo (zO rfl) ?_)
           intro K hK
           go_simp
           go_at_call 12
           refine (HRDK.out w10 (PL.out w10 HS10.out)).mono ?_
           rintro e w11 ⟨rfl, hb11⟩
           have HI11 := zh (HSTf.out w11 (HI10.out.kept hb11))
           have HS11 := zh (HS10.out.trans (But.of_below hb11 _))
           clear hb11
           refine hK.out _ _ HS11.out ?_
           clear hK K
           (try simp only [Act.put, zA4, zA5, zA6])
           (refine wpOrd_step (zO rfl) ?_)
           (refine wpOrd_take (by rfl) (take_neqGot _ _ _ rfl HEW.out rfl rfl) ?_)
           (try simp only [Act.put, zA4, zA5, zA6])
           refine wpOrd_done ?_
           have hll : ((xs.drop f').take (k + 1 - f')).length = k + 1 - f' := by
            rw [List.length_take, List.length_drop, HM.out]
            omega
           have hcnt := HI11.out.cnt gc (List.mem_singleton.2 rfl)
           have hBL := PL.out w11 HS11.out
           have hex : ∃ N : Int → Int, Hid (Calls Tryz.prog 16 #[.pointer (some ⟨gm, 0, none⟩)] w11 fun x w' => x = .returned (.agg #[.int .i64 (N 0), .int .i64 (N 1), .int .i64 (N 2)]) ∧ Below w11.heap.size w11 w') ∧
            Hid (∀ j : Int, 0 ≤ j → j < 3 → ∀ W, Below w.heap.size w W → Calls Tryz.prog 17 #[.slice (some ⟨b, o + f' * 19, none⟩) (k + 1 - f') (lc - f'), .int .i64 j] W fun e w' => e = .returned (.int .i64 (N j)) ∧ W = w') := by
            refine ⟨fun j => ((cS xs f' (k + 1) gc j.toNat : Nat) : Int), zh (read_any17 gm gc _ _ _ w11 (PM.out w11 HS11.out) hcnt), zh fun j h0 h3 W hW => ?_⟩
            have := count_any (some ⟨b, o + f' * 19, none⟩) (lc - f') ((xs.drop f').take (k + 1 - f')) j.toNat (by omega) W (by rw [hll]; omega) (HH.out.ops.below hW).part
            rw [hll, Int.toNat_of_nonneg h0] at this
            exact this
           obtain ⟨N, HRE, HCJ⟩ := hex
           have HBL := zh hBL
           have hc1 : k + 1 ≤ lc := by have := HLC.out; omega
           have hc2 : ¬ lc = f' := by omega
           have hc3 : (k : Int) + 1 ≤ (lc : Int) := by omega
           have hwr : IntKind.i64.wrap ((k : Int) + 1) = (k : Int) + 1 := by
            rw [IntKind.wrap_i64]; omega
           have hna : ((k : Int) + 1).toNat = k + 1 := by omega
           have hk0 : (0 : Int) ≤ (k : Int) + 1 := by omega
           have hf0 : (f' : Int) ≤ (k : Int) + 1 := by omega
           have hf1 : f' ≤ k + 1 := by omega
           clear hll hcnt hBL HI10 HS10 HD HID HDO HRDK pO pS pX PO PS PX PM PL HEW HSTf
           go_wp2_with (first
            | (go_at_call 16; refine HRE.out.mono ?_; rintro e w12 ⟨rfl, hb12⟩; have HB12 := zh hb12; have HBW := zh (HBL.out.trans (hb12.mono HBL.out.size)); clear hb12)
            | (go_at_call 17; refine (HCJ.out _ (by decide) (by decide) w12 HBW.out).mono ?_; rintro e w13 ⟨rfl, rfl⟩))
           have HI12 := zh (HI11.out.kept HB12.out)
           go_roundw
           case rel => exact ⟨k + 1, f', by omega, by omega, by go_num, rfl, HI12⟩
           case measure => simp [intOf]; omega
        ·obtain rfl : k = m := by omega
         have HAL2 := zh (HAL.out wr (HLOW.out wr HI.out.but))
         go_wp2_with (go_at_call 8; refine HAL2.out.mono ?_; rintro e w9 ⟨rfl, hb9⟩; have HB9 := zh hb9; clear hb9)
         exact HQ.out _ _ ⟨rfl, (HLOW.out wr HI.out.but).trans (HB9.out.mono (HLOW.out wr HI.out.but).size)⟩
end
end Go.Proofs.YtdahllhbpdbknaaGreatDoor
