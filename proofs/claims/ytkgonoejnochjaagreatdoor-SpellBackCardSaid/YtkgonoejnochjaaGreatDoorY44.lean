/- Texts that SpellBackCard need. Conditions: those that each states. -/

import Derived.Test.YtkgonoejnochjaaGreatDoorY32
import Derived.Test.YtkgonoejnochjaaGreatDoorY43
set_option linter.unusedSimpArgs false
set_option linter.unusedVariables false
set_option maxRecDepth 8000
namespace Go.Proofs.YtkgonoejnochjaaGreatDoor
namespace SP
open TM LX TR
theorem sm_text {x y : Nd} (hx : (fl x).c = true) (hy : (fl y).c = true) (h : tx x = tx y) : ∃ z, sm z x = true ∧ sm z y = true := by
 have wx : W 1 x := w_of (n := 1) hx
 have wy : W 1 y := w_of (n := 1) hy
 obtain ⟨R, h1, h2⟩ := w_scan wx
 obtain ⟨R2, h3, h4⟩ := w_scan wy
 have e : text10 x = text10 y := by unfold text10; rw [h]
 rw [e, h3] at h1
 injection h1 with h1
 subst h1
 obtain ⟨ts, s1, r1⟩ := w_cmp wx R2 h2
 obtain ⟨us, s2, r2⟩ := w_cmp wy R2 h4
 have e2 := spells_one s1 s2
 subst e2
 obtain ⟨z, z1, z2⟩ := r1 _ 0 [] (Nat.le_refl _)
 obtain ⟨z', z3, z4⟩ := r2 _ 0 [] (Nat.le_refl _)
 rw [z1] at z3
 injection z3 with z3
 injection z3 with z3 _
 subst z3
 exact ⟨z, z2, z4⟩
theorem text_one {t : Bool} {fs : List Fac} {a b : List Nat} (ha : EW a) (hb : EW b) (fa : fitsE t fs a = true) (fb : fitsE t fs b = true) (h : tx (nodeE t fs a) = tx (nodeE t fs b)) : a = b := by
 obtain ⟨z, h1, h2⟩ := sm_text (node_fl fa) (node_fl fb) h
 have e1 := elem_sm h1 (elem_node ha fa)
 have e2 := elem_sm h2 (elem_node hb fb)
 rw [e1] at e2
 injection e2
end SP
end Go.Proofs.YtkgonoejnochjaaGreatDoor
namespace Go.Proofs.YtkgonoejnochjaaGreatDoor
open Go.RowKit LX TR TM SP RM
theorem SP.text_iff {t : Bool} {fs : List Fac} {a b : List Nat} (ha : EW a) (hb : EW b) (fa : fitsE t fs a = true) (fb : fitsE t fs b = true) {s1 s2 : ByteArray} (h1 : lst s1 = 35 :: tx (nodeE t fs a)) (h2 : lst s2 = 35 :: tx (nodeE t fs b)) :
 (s1.toList == s2.toList) = decide (a = b) := by
 rw [NM.str_eq, Bool.eq_iff_iff, decide_eq_true_eq, decide_eq_true_eq]
 constructor
 ·intro h
  subst h
  have h3 := h1.symm.trans h2
  injection h3 with _ h3
  exact text_one ha hb fa fb h3
 ·intro h
  subst h
  exact LX.lst_inj (h1.trans h2.symm)
end Go.Proofs.YtkgonoejnochjaaGreatDoor
namespace Go.Proofs.YtkgonoejnochjaaGreatDoor
open Go.RowKit LX TR TM SP RM
set_option maxRecDepth 100000 in
set_option maxHeartbeats 6400000 in
theorem spellBack_any (t : Bool) (A : Option Addr) (c : Nat) (fs : List Fac) (a b : List Nat) (hea : EW a) (heb : EW b) (w : World) (hT : Tab w) (hF : Facs w A fs) :
 Calls Tryz.prog 5 #[.agg (sv t A fs.length c), .agg (uv a), .agg (uv b)] w fun e w' => e = .returned (.bool true) ∧ Below w.heap.size w w' := by
 have z8 := EW.zeros
 have HEA := Lib.hid hea
 have HB7 : Hid (∀ W, Below w.heap.size w W → Calls Tryz.prog 7 #[.agg (sv t A fs.length c)] W fun e w' => e = .returned (.bool (bigShB fs)) ∧ Below W.heap.size W w') := fun W h => bigS_any t A c fs W (hF.below h)
 have HFA := Lib.hid (fun W (h : Below w.heap.size w W) => sfitsE_any t A c fs a hea W (hT.below h) (hF.below h))
 have HFB := Lib.hid (fun W (h : Below w.heap.size w W) => sfitsE_any t A c fs b heb W (hT.below h) (hF.below h))
 have HND := Lib.hid (fun W (h : Below w.heap.size w W) => snode_any t A c fs a hea W (hT.below h) (hF.below h))
 have HTA := Lib.hid (fun W (h : Below w.heap.size w W) => stext_any t A c fs a hea W (hT.below h) (hF.below h))
 have HTB := Lib.hid (fun W (h : Below w.heap.size w W) => stext_any t A c fs b heb W (hT.below h) (hF.below h))
 have HAL : Hid (∀ W, Below w.heap.size w W → Calls Tryz.prog 9 #[] W fun e w' => e = .returned (.bool true) ∧ Below W.heap.size W w') := fun W h => alive11_any W (hT.below h)
 have HCN : Hid (∀ z, er1 z = nodeE t fs a → TM.cnt [z] ≤ 4294967296) := fun z hz => by
  have h1 := cnt_vol [nodeE t fs a]
  have h2 := node_vol t fs a
  rw [← hz, cnt_er1] at h1
  rw [← hz] at h2
  show TM.cnt [z] ≤ 4294967296
  omega
 have HEL : Hid (fitsE t fs a = true → ∀ z, er1 z = nodeE t fs a → ∀ W, Below w.heap.size w W → Nods W W.heap.size [z] → Calls Tryz.prog 10 #[.agg (sv t A fs.length c), .agg (nv z)] W fun e w' => e = .returned (.tuple #[.agg (uv a), .agg #[.int .i64 0, .int .i64 0]]) ∧ Below W.heap.size W w') := fun hfa z hz W h hn => by
  have h1 := selem_any t A c fs z W (hT.below h) (hF.below h) hn (HCN.out z hz)
  rw [(back_node hea hfa hz).1] at h1
  exact h1
 have HIC : Hid (fitsE t fs a = true → ∀ z, er1 z = nodeE t fs a → ∀ W, Nods W W.heap.size [z] → Calls Tryz.prog 18 #[.agg (nv z)] W fun e w' => e = .returned (.bool true) ∧ Below W.heap.size W w') := fun hfa z hz W hn => by
  have h1 := isConst_any 4294967296 (Nat.le_refl _) z (HCN.out z hz) W hn
  rw [(back_node hea hfa hz).2] at h1
  exact h1
 have HTX : Hid (fitsE t fs a = true → fitsE t fs b = true → ∀ s1 s2 : ByteArray, lst s1 = 35 :: tx (nodeE t fs a) → lst s2 = 35 :: tx (nodeE t fs b) → (s1.toList == s2.toList) = decide (a = b)) := fun fa fb s1 s2 h1 h2 => text_iff hea heb fa fb h1 h2
 clear hT hF
 generalize nodeE t fs a = NA at *
 generalize nodeE t fs b = NB at *
 generalize fitsE t fs a = fa at *
 generalize fitsE t fs b = fb at *
 generalize bigShB fs = b7 at *
 generalize fs.length = nf at *
 have hs0 := ((RowAt.new w 24 (sv t A nf c)).alloc (.cells (uv a) 34)).alloc (.cells (uv b) 34)
 have hp0 := (RowAt.new (w.alloc (.cells (sv t A nf c) 24)) 34 (uv a)).alloc (.cells (uv b) 34)
 have hq0 := RowAt.new ((w.alloc (.cells (sv t A nf c) 24)).alloc (.cells (uv a) 34)) 34 (uv b)
 rw [show (w.alloc (.cells (sv t A nf c) 24)).heap.size = w.heap.size + 1 by simp] at hp0
 rw [show ((w.alloc (.cells (sv t A nf c) 24)).alloc (.cells (uv a) 34)).heap.size = w.heap.size + 1 + 1 by simp] at hq0
 have HBw1 : Hid (Below w.heap.size w (((w.alloc (.cells (sv t A nf c) 24)).alloc (.cells (uv a) 34)).alloc (.cells (uv b) 34))) := (((Below.refl _ _).alloc (Nat.le_refl _) _).alloc (by simp) _).alloc (by simp; omega) _
 have HSw1 := Lib.hid hs0
 have HPw1 := Lib.hid hp0
 have HQw1 := Lib.hid hq0
 clear hs0 hp0 hq0
 go_enter Tryz.func5, Tryz.ntmps5
 go_upto_region 1 with fail
 generalize (((w.alloc (.cells (sv t A nf c) 24)).alloc (.cells (uv a) 34)).alloc (.cells (uv b) 34)) = w1 at *
 go_wp2_with (first | (refine wpList_loadShape (by rfl) _ rfl w.heap.size rfl t A nf c HSw1.out ?_) | (refine wpList_loadElem (by rfl) _ rfl (w.heap.size + 1) rfl _ hea HPw1.out ?_) | (refine wpList_loadElem (by rfl) _ rfl (w.heap.size + 1 + 1) rfl _ heb HQw1.out ?_))
 refine (HB7.out w1 HBw1.out).mono ?_
 rintro x w2 ⟨rfl, hb⟩
 have HBw2 := Lib.hid (HBw1.out.trans (hb.mono HBw1.out.size))
 have HSw2 := Lib.hid (HSw1.out.below hb HSw1.out.lt)
 have HPw2 := Lib.hid (HPw1.out.below hb HPw1.out.lt)
 have HQw2 := Lib.hid (HQw1.out.below hb HQw1.out.lt)
 clear hb
 cases b7
 case' true =>
  go_wp2_with fail
  refine (HAL.out _ HBw2.out).mono ?_
  rintro x wz ⟨rfl, hb⟩
  have HBZ := Lib.hid (HBw2.out.trans (hb.mono HBw2.out.size))
  clear hb
  go_wp2_with fail
  go_ret
  exact ⟨rfl, HBZ.out⟩
 case' false =>
  go_wp2_with (first | (refine wpList_loadShape (by rfl) _ rfl w.heap.size rfl t A nf c HSw2.out ?_) | (refine wpList_loadElem (by rfl) _ rfl (w.heap.size + 1) rfl _ hea HPw2.out ?_) | (refine wpList_loadElem (by rfl) _ rfl (w.heap.size + 1 + 1) rfl _ heb HQw2.out ?_))
  refine (HFA.out w2 HBw2.out).mono ?_
  rintro x w3 ⟨rfl, hb⟩
  have HBw3 := Lib.hid (HBw2.out.trans (hb.mono HBw2.out.size))
  have HSw3 := Lib.hid (HSw2.out.below hb HSw2.out.lt)
  have HPw3 := Lib.hid (HPw2.out.below hb HPw2.out.lt)
  have HQw3 := Lib.hid (HQw2.out.below hb HQw2.out.lt)
  clear hb
  cases fa
  case' false =>
   go_wp2_with fail
   refine (HAL.out _ HBw3.out).mono ?_
   rintro x wz ⟨rfl, hb⟩
   have HBZ := Lib.hid (HBw3.out.trans (hb.mono HBw3.out.size))
   clear hb
   go_wp2_with fail
   go_ret
   exact ⟨rfl, HBZ.out⟩
  case' true =>
   go_wp2_with (first | (refine wpList_loadShape (by rfl) _ rfl w.heap.size rfl t A nf c HSw3.out ?_) | (refine wpList_loadElem (by rfl) _ rfl (w.heap.size + 1) rfl _ hea HPw3.out ?_) | (refine wpList_loadElem (by rfl) _ rfl (w.heap.size + 1 + 1) rfl _ heb HQw3.out ?_))
   refine (HFB.out w3 HBw3.out).mono ?_
   rintro x w4 ⟨rfl, hb⟩
   have HBw4 := Lib.hid (HBw3.out.trans (hb.mono HBw3.out.size))
   have HSw4 := Lib.hid (HSw3.out.below hb HSw3.out.lt)
   have HPw4 := Lib.hid (HPw3.out.below hb HPw3.out.lt)
   have HQw4 := Lib.hid (HQw3.out.below hb HQw3.out.lt)
   clear hb
   cases fb
   case' false =>
       go_wp2_with fail
       refine (HAL.out _ HBw4.out).mono ?_
       rintro x wz ⟨rfl, hb⟩
       have HBZ := Lib.hid (HBw4.out.trans (hb.mono HBw4.out.size))
       clear hb
       go_wp2_with fail
       go_ret
       exact ⟨rfl, HBZ.out⟩
   case' true =>
       go_wp2_with (first | (refine wpList_loadShape (by rfl) _ rfl w.heap.size rfl t A nf c HSw4.out ?_) | (refine wpList_loadElem (by rfl) _ rfl (w.heap.size + 1) rfl _ hea HPw4.out ?_) | (refine wpList_loadElem (by rfl) _ rfl (w.heap.size + 1 + 1) rfl _ heb HQw4.out ?_))
       refine (HND.out w4 HBw4.out).mono ?_
       rintro x w5 ⟨y, rfl, ⟨⟨zk, zp, zt, zA, zc, zw, zB, zd, zx⟩, rfl, hez, hdz⟩, hb⟩
       have HEZ := Lib.hid hez
       have hal : Below w5.heap.size w5 (w5.alloc (.cells #[.int .i64 zk, .int .i64 zp, .string zt, .slice zA zw.length zc, .slice zB zx.length zd] 28)) := (Below.refl _ _).alloc (Nat.le_refl _) _
       have HDZ := Lib.hid ((hdz.nods.below hal).mono hal.size)
       clear hal
       clear hez hdz
       have HBw5 := Lib.hid (HBw4.out.trans (hb.mono HBw4.out.size))
       have HSw5 := Lib.hid (HSw4.out.below hb HSw4.out.lt)
       have HPw5 := Lib.hid (HPw4.out.below hb HPw4.out.lt)
       have HQw5 := Lib.hid (HQw4.out.below hb HQw4.out.lt)
       clear hb
       have HELz := Lib.hid (HEL.out (by first | rfl | trivial) _ HEZ.out)
       have HICz := Lib.hid (HIC.out (by first | rfl | trivial) _ HEZ.out)
       unfold nv at HELz HICz ⊢
       simp only [Nd.k, Nd.p, Nd.s, Nd.A, Nd.c, Nd.ws, Nd.B, Nd.d, Nd.ks] at HELz HICz ⊢
       go_upto_region 4 with fail
       have hb : Below w5.heap.size w5 (w5.alloc (.cells #[.int .i64 zk, .int .i64 zp, .string zt, .slice zA zw.length zc, .slice zB zx.length zd] 28)) := (Below.refl _ _).alloc (Nat.le_refl _) _
       have HNw6 := Lib.hid (RowAt.new w5 28 #[.int .i64 zk, .int .i64 zp, .string zt, .slice zA zw.length zc, .slice zB zx.length zd])
       have hs6 : w5.heap.size < (w5.alloc (.cells #[.int .i64 zk, .int .i64 zp, .string zt, .slice zA zw.length zc, .slice zB zx.length zd] 28)).heap.size := HNw6.out.lt
       have hs5 : w.heap.size + 1 + 1 < w5.heap.size := HQw5.out.lt
       have HBw6 := Lib.hid (HBw5.out.trans (hb.mono HBw5.out.size))
       have HSw6 := Lib.hid (HSw5.out.below hb HSw5.out.lt)
       have HPw6 := Lib.hid (HPw5.out.below hb HPw5.out.lt)
       have HQw6 := Lib.hid (HQw5.out.below hb HQw5.out.lt)
       clear hb HSw5 HPw5 HQw5 HBw5
       generalize w5.alloc (.cells #[.int .i64 zk, .int .i64 zp, .string zt, .slice zA zw.length zc, .slice zB zx.length zd] 28) = w6 at *
       generalize w5.heap.size = gN at *
       obtain ⟨x0, x1, x2, x3, x4, _, _, _, _, _⟩ := row5 HNw6.out
       go_wp2_with (first | (refine wpList_loadShape (by rfl) _ rfl w.heap.size rfl t A nf c HSw6.out ?_) | (refine wpList_loadElem (by rfl) _ rfl (w.heap.size + 1) rfl _ hea HPw6.out ?_) | (refine wpList_loadElem (by rfl) _ rfl (w.heap.size + 1 + 1) rfl _ heb HQw6.out ?_))
       refine (HELz.out w6 HBw6.out HDZ.out).mono ?_
       rintro x w7 ⟨rfl, hb⟩
       have HDZ7 := Lib.hid ((HDZ.out.below hb).mono hb.size)
       clear x0 x1 x2 x3 x4
       have HBw7 := Lib.hid (HBw6.out.trans (hb.mono HBw6.out.size))
       have HSw7 := Lib.hid (HSw6.out.below hb HSw6.out.lt)
       have HPw7 := Lib.hid (HPw6.out.below hb HPw6.out.lt)
       have HQw7 := Lib.hid (HQw6.out.below hb HQw6.out.lt)
       have HNw7 := Lib.hid (HNw6.out.below hb HNw6.out.lt)
       clear hb
       have hs7 : gN < w7.heap.size := HNw7.out.lt
       go_upto_region 5 with (refine wpList_storeElem (by rfl) _ _ rfl w7.heap.size rfl _ HEA.out rfl _ z8 (two_zero w7) ?_; intro w8 q8 he8; have hm8 := two_mid he8; obtain ⟨m0, m1, v0, v1⟩ := row2 hm8)
       obtain ⟨hE9, hF9, hB9⟩ := two_end he8 q8 (.int .i64 0) (.int .i64 0)
       have HEw8 := Lib.hid hE9
       have HTw8 := Lib.hid hF9
       have HBw8 := Lib.hid (HBw7.out.trans (hB9.mono HBw7.out.size))
       have HBBw8 := Lib.hid hB9
       have HSw8 := Lib.hid (HSw7.out.below hB9 HSw7.out.lt)
       have HPw8 := Lib.hid (HPw7.out.below hB9 HPw7.out.lt)
       have HQw8 := Lib.hid (HQw7.out.below hB9 HQw7.out.lt)
       have HNw8 := Lib.hid (HNw7.out.below hB9 HNw7.out.lt)
       clear he8 q8 hm8 m0 m1 v0 v1 hE9 hF9 hB9
       have hsw8 : w7.heap.size + 1 < ((w8.setCell ⟨w7.heap.size + 1, 0, none⟩ (.int .i64 0)).setCell ⟨w7.heap.size + 1, 1, none⟩ (.int .i64 0)).heap.size := HTw8.out.lt
       generalize (w8.setCell ⟨w7.heap.size + 1, 0, none⟩ (.int .i64 0)).setCell ⟨w7.heap.size + 1, 1, none⟩ (.int .i64 0) = w8 at *
       have HDZ8 : Hid (∀ W, Below w8.heap.size w8 W → Nods W W.heap.size [(Nd.mk zk zp zt zA zc zw zB zd zx)]) := fun W h => ((((HDZ7.out.below HBBw8.out).mono HBBw8.out.size).below h).mono h.size)
       clear HDZ HDZ7 HBBw8
       generalize w7.heap.size = g7 at *
       obtain ⟨db, hdb⟩ : ∃ db, decide (a = b) = db := ⟨_, rfl⟩
       obtain ⟨S, hSe⟩ : ∃ S : World → Prop, S = fun W => Below w8.heap.size w8 W := ⟨_, rfl⟩
       have SI : Hid (∀ W, Below w8.heap.size w8 W → S W) := fun W h => by rw [hSe]; exact h
       have SO : ∀ W, S W → Below w8.heap.size w8 W := fun W h => by rw [hSe] at h; exact h
       have pS : ∀ W, S W → RowAt W w.heap.size 24 (sv t A nf c) := fun W h => HSw8.out.below (SO W h) HSw8.out.lt
       have pE : ∀ W, S W → RowAt W g7 34 (uv a) := fun W h => HEw8.out.below (SO W h) HEw8.out.lt
       have pA : ∀ W, S W → RowAt W (w.heap.size + 1) 34 (uv a) := fun W h => HPw8.out.below (SO W h) HPw8.out.lt
       have pB : ∀ W, S W → RowAt W (w.heap.size + 1 + 1) 34 (uv b) := fun W h => HQw8.out.below (SO W h) HQw8.out.lt
       have pN : ∀ W, S W → RowAt W gN 28 #[.int .i64 zk, .int .i64 zp, .string zt, .slice zA zw.length zc, .slice zB zx.length zd] := fun W h => HNw8.out.below (SO W h) HNw8.out.lt
       have pT : ∀ W, S W → RowAt W (g7 + 1) 36 #[.int .i64 0, .int .i64 0] := fun W h => HTw8.out.below (SO W h) HTw8.out.lt
       have K0 : ∀ W, S W → W.cell? ⟨gN, 0, none⟩ = some (.int .i64 zk) := fun W h => (RowAt.cell (pN W h) 0).trans rfl
       have K1 : ∀ W, S W → W.cell? ⟨gN, 1, none⟩ = some (.int .i64 zp) := fun W h => (RowAt.cell (pN W h) 1).trans rfl
       have K2 : ∀ W, S W → W.cell? ⟨gN, 2, none⟩ = some (.string zt) := fun W h => (RowAt.cell (pN W h) 2).trans rfl
       have K3 : ∀ W, S W → W.cell? ⟨gN, 3, none⟩ = some (.slice zA zw.length zc) := fun W h => (RowAt.cell (pN W h) 3).trans rfl
       have K4 : ∀ W, S W → W.cell? ⟨gN, 4, none⟩ = some (.slice zB zx.length zd) := fun W h => (RowAt.cell (pN W h) 4).trans rfl
       have F0 : ∀ W, S W → W.cell? ⟨g7 + 1, 0, none⟩ = some (.int .i64 0) := fun W h => (RowAt.cell (pT W h) 0).trans rfl
       have F1 : ∀ W, S W → W.cell? ⟨g7 + 1, 1, none⟩ = some (.int .i64 0) := fun W h => (RowAt.cell (pT W h) 1).trans rfl
       clear hSe SO pN pT
       have HVV : Hid (Below w8.heap.size w8 w8.drew) := (Below.refl _ _).drew
       have HWB : Hid (∀ W, Below w8.heap.size w8 W → Below w.heap.size w W) := fun W h => HBw8.out.trans (h.mono HBw8.out.size)
       refine wp_region_ord S [(0, true), (1, false), (2, true), (3, true), (4, true), (5, true), (6, true), (7, true), (8, true), (9, true), (10, true), (11, true), (12, true), (13, true), (14, true), (16, true), (17, true), (20, true), (21, true), (22, true), (15, false), (18, false), (19, true), (23, true), (24, true), (25, true), (26, false), (27, true), (28, true)] (by kernel_rfl) (by kernel_rfl) rfl (by kernel_rfl) (SI.out _ HVV.out) ?_
       generalize w8.drew = V at HVV ⊢
       iterate 1
        (refine wpOrd_step (o := ?_) ?_ ?_; rotate_left 1; (simp only [zA1, zA2, zA3]; with_reducible rfl))
        (first
             | (refine wpOrd_skip (by rfl) ?_)
             | (refine wpOrd_take (by rfl) (take_loadShape _ rfl _ rfl _ _ _ _ pS) ?_)
             | (refine wpOrd_take (by rfl) (take_loadElem _ rfl _ rfl _ hea pE) ?_)
             | (refine wpOrd_take (by rfl) (take_loadElem _ rfl _ rfl _ hea pA) ?_)
             | (refine wpOrd_take (by rfl) (take_loadElem _ rfl _ rfl _ heb pB) ?_)
             | (refine wpOrd_take (by rfl) (take_eqlElem _ _ _ rfl _ _ rfl rfl hea hea) ?_)
             | (refine wpOrd_take (by rfl) (take_eqlElem _ _ _ rfl _ _ rfl rfl hea heb) ?_)
             | (refine wpOrd_take (v := ?_) (by rfl) ?_ ?_; rotate_left 1; (intro wx hSx; have hc_0 := K0 wx hSx; have hc_1 := K1 wx hSx; have hc_2 := K2 wx hSx; have hc_3 := K3 wx hSx; have hc_4 := K4 wx hSx; have hc_5 := F0 wx hSx; have hc_6 := F1 wx hSx; go_simp; try with_reducible rfl)))
        (try simp only [Act.put, zA4, zA5, zA6])
       (refine wpOrd_solo (o := ?_) ?_ ?_; rotate_left 1; (simp only [zA1, zA2, zA3]; with_reducible rfl))
       intro K hK
       go_simp
       refine (HICz.out V (HDZ8.out V HVV.out)).mono ?_
       rintro x w9 ⟨rfl, hb⟩
       have HVw9 := Lib.hid (HVV.out.trans (hb.mono HVV.out.size))
       clear hb
       refine hK.out _ _ (SI.out _ HVw9.out) ?_
       clear hK K
       (try simp only [Act.put, zA4, zA5, zA6])
       iterate 18
        (refine wpOrd_step (o := ?_) ?_ ?_; rotate_left 1; (simp only [zA1, zA2, zA3]; with_reducible rfl))
        (first
             | (refine wpOrd_skip (by rfl) ?_)
             | (refine wpOrd_take (by rfl) (take_loadShape _ rfl _ rfl _ _ _ _ pS) ?_)
             | (refine wpOrd_take (by rfl) (take_loadElem _ rfl _ rfl _ hea pE) ?_)
             | (refine wpOrd_take (by rfl) (take_loadElem _ rfl _ rfl _ hea pA) ?_)
             | (refine wpOrd_take (by rfl) (take_loadElem _ rfl _ rfl _ heb pB) ?_)
             | (refine wpOrd_take (by rfl) (take_eqlElem _ _ _ rfl _ _ rfl rfl hea hea) ?_)
             | (refine wpOrd_take (by rfl) (take_eqlElem _ _ _ rfl _ _ rfl rfl hea heb) ?_)
             | (refine wpOrd_take (v := ?_) (by rfl) ?_ ?_; rotate_left 1; (intro wx hSx; have hc_0 := K0 wx hSx; have hc_1 := K1 wx hSx; have hc_2 := K2 wx hSx; have hc_3 := K3 wx hSx; have hc_4 := K4 wx hSx; have hc_5 := F0 wx hSx; have hc_6 := F1 wx hSx; go_simp; try with_reducible rfl)))
        (try simp only [Act.put, zA4, zA5, zA6])
       (refine wpOrd_solo (o := ?_) ?_ ?_; rotate_left 1; (simp only [zA1, zA2, zA3]; with_reducible rfl))
       intro K hK
       go_simp
       refine (HTA.out w9 (HWB.out _ HVw9.out)).mono ?_
       rintro x w10 ⟨⟨s1, rfl, hs1⟩, hb⟩
       have HVw10 := Lib.hid (HVw9.out.trans (hb.mono HVw9.out.size))
       clear hb
       refine hK.out _ _ (SI.out _ HVw10.out) ?_
       clear hK K
       (try simp only [Act.put, zA4, zA5, zA6])
       (refine wpOrd_solo (o := ?_) ?_ ?_; rotate_left 1; (simp only [zA1, zA2, zA3]; with_reducible rfl))
       intro K hK
       go_simp
       refine (HTB.out w10 (HWB.out _ HVw10.out)).mono ?_
       rintro x w11 ⟨⟨s2, rfl, hs2⟩, hb⟩
       have HVw11 := Lib.hid (HVw10.out.trans (hb.mono HVw10.out.size))
       clear hb
       refine hK.out _ _ (SI.out _ HVw11.out) ?_
       clear hK K
       (try simp only [Act.put, zA4, zA5, zA6])
       have hse : (s1.toList == s2.toList) = db := (HTX.out (by first | rfl | trivial) (by first | rfl | trivial) s1 s2 hs1 hs2).trans hdb
       clear hs1 hs2 HTX HTA HTB
       iterate 4
        (refine wpOrd_step (o := ?_) ?_ ?_; rotate_left 1; (simp only [zA1, zA2, zA3]; with_reducible rfl))
        (first
             | (refine wpOrd_skip (by rfl) ?_)
             | (refine wpOrd_take (by rfl) (take_loadShape _ rfl _ rfl _ _ _ _ pS) ?_)
             | (refine wpOrd_take (by rfl) (take_loadElem _ rfl _ rfl _ hea pE) ?_)
             | (refine wpOrd_take (by rfl) (take_loadElem _ rfl _ rfl _ hea pA) ?_)
             | (refine wpOrd_take (by rfl) (take_loadElem _ rfl _ rfl _ heb pB) ?_)
             | (refine wpOrd_take (by rfl) (take_eqlElem _ _ _ rfl _ _ rfl rfl hea hea) ?_)
             | (refine wpOrd_take (by rfl) (take_eqlElem _ _ _ rfl _ _ rfl rfl hea heb) ?_)
             | (refine wpOrd_take (v := ?_) (by rfl) ?_ ?_; rotate_left 1; (intro wx hSx; have hc_0 := K0 wx hSx; have hc_1 := K1 wx hSx; have hc_2 := K2 wx hSx; have hc_3 := K3 wx hSx; have hc_4 := K4 wx hSx; have hc_5 := F0 wx hSx; have hc_6 := F1 wx hSx; go_simp; try with_reducible rfl)))
        (try simp only [Act.put, zA4, zA5, zA6])
       (refine wpOrd_solo (o := ?_) ?_ ?_; rotate_left 1; (simp only [zA1, zA2, zA3]; with_reducible rfl))
       intro K hK
       go_simp
       refine (HAL.out w11 (HWB.out _ HVw11.out)).mono ?_
       rintro x w12 ⟨rfl, hb⟩
       have HVw12 := Lib.hid (HVw11.out.trans (hb.mono HVw11.out.size))
       clear hb
       refine hK.out _ _ (SI.out _ HVw12.out) ?_
       clear hK K
       (try simp only [Act.put, zA4, zA5, zA6])
       iterate 2
        (refine wpOrd_step (o := ?_) ?_ ?_; rotate_left 1; (simp only [zA1, zA2, zA3]; with_reducible rfl))
        (first
             | (refine wpOrd_skip (by rfl) ?_)
             | (refine wpOrd_take (by rfl) (take_loadShape _ rfl _ rfl _ _ _ _ pS) ?_)
             | (refine wpOrd_take (by rfl) (take_loadElem _ rfl _ rfl _ hea pE) ?_)
             | (refine wpOrd_take (by rfl) (take_loadElem _ rfl _ rfl _ hea pA) ?_)
             | (refine wpOrd_take (by rfl) (take_loadElem _ rfl _ rfl _ heb pB) ?_)
             | (refine wpOrd_take (by rfl) (take_eqlElem _ _ _ rfl _ _ rfl rfl hea hea) ?_)
             | (refine wpOrd_take (by rfl) (take_eqlElem _ _ _ rfl _ _ rfl rfl hea heb) ?_)
             | (refine wpOrd_take (v := ?_) (by rfl) ?_ ?_; rotate_left 1; (intro wx hSx; have hc_0 := K0 wx hSx; have hc_1 := K1 wx hSx; have hc_2 := K2 wx hSx; have hc_3 := K3 wx hSx; have hc_4 := K4 wx hSx; have hc_5 := F0 wx hSx; have hc_6 := F1 wx hSx; go_simp; try with_reducible rfl)))
        (try simp only [Act.put, zA4, zA5, zA6])
       refine wpOrd_done ?_
       have HB12 := Lib.hid (HWB.out _ HVw12.out)
       go_wp2_with fail
       go_ret
       exact ⟨rfl, HB12.out⟩
end Go.Proofs.YtkgonoejnochjaaGreatDoor

