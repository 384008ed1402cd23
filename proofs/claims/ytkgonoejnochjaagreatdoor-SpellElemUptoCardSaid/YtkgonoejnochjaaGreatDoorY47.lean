/- Texts that SpellElemCard need. Conditions: those that each states. -/

import Derived.Test.YtkgonoejnochjaaGreatDoorY19
import Derived.Test.YtkgonoejnochjaaGreatDoorY20
import Derived.Test.YtkgonoejnochjaaGreatDoorY36
import Derived.Test.YtkgonoejnochjaaGreatDoorY40
import Derived.Test.YtkgonoejnochjaaGreatDoorY46
set_option linter.unusedSimpArgs false
set_option linter.unusedVariables false
set_option maxRecDepth 8000
namespace Go.Proofs.YtkgonoejnochjaaGreatDoor
namespace SP
open TM
theorem gv_cases : ∀ P : Except Int Nat, ∃ (a : Nat) (b : Bool) (p : Int), gv P = #[.int .u64 (a : Int), .bool b, .int .i64 p] ∧ (b = true → P = .error p) ∧ (b = false → P = .ok a)
 | .ok a => ⟨a, false, 0, rfl, fun h => absurd h (by decide), fun _ => rfl⟩
 | .error p => ⟨0, true, p, rfl, fun _ => rfl, fun h => absurd h (by decide)⟩
theorem sl_else {w w' : World} {B g : Nat} {A : Option Addr} {cs : List Value} (h : Sl w B A cs) (he : Else g w w') (hA : ∀ b o, A = some ⟨b, o, none⟩ → b ≠ g) : Sl w' B A cs := fun hne => by
 obtain ⟨b, o, e, hlt, hc⟩ := h hne
 exact ⟨b, o, e, hlt, fun j u hu => (World.cell?_of_block (w := w) (he.block b (hA b o e))).trans (hc j u hu)⟩
end SP
open Go.RowKit LX TR TM SP RM
section
variable {P : Program} {ops : Array Oper} {Q : Exit → Act → World → Prop} {S : World → Prop}
end
set_option maxRecDepth 100000 in
set_option maxHeartbeats 3200000 in
theorem qelem_any (t : Bool) (A : Option Addr) (c : Nat) (fs : List Fac) (x : Nd) (w : World) (hF : Facs w A fs) (hx : Nods w w.heap.size [x]) (hc : TM.cnt [x] ≤ 2147483648) :
 Calls Tryz.prog 11 #[.agg (sv t A fs.length c), .agg (nv x)] w fun e w' => e = .returned (evV (elemR t fs x)) ∧ Below w.heap.size w w' := by
 have z8 := EW.zeros
 have HRI : Hid (∀ W, Below w.heap.size w W → Calls Tryz.prog 19 #[.agg (sv t A fs.length c)] W fun e w' => e = .returned (.bool (rightS t fs)) ∧ Below W.heap.size W w') := fun W h => qright7_any t A c fs W (hF.below h)
 have HIC : Hid (∀ W, Below w.heap.size w W → Calls Tryz.prog 20 #[.agg (nv x)] W fun e w' => e = .returned (.bool (fl x).c) ∧ Below W.heap.size W w') := fun W h => (is10_any 4294967296 (Nat.le_refl _) x (by omega) W ((hx.below h).mono h.size)).1
 obtain ⟨xk, xp, xs, xA, xc, xw, xB, xd, xz⟩ := x
 have HE : Hid (evV (elemR t fs (.mk xk xp xs xA xc xw xB xd xz)) = if (rightS t fs && (fl (.mk xk xp xs xA xc xw xB xd xz)).c) = true then (if t = true then (if xk ≠ 4 ∨ xz.length ≠ fs.length then evV (.error xp) else evV (elw fs xz)) else evV (elw fs [.mk xk xp xs xA xc xw xB xd xz])) else evV (.error xp)) := by
  show evV (if (rightS t fs && (fl (.mk xk xp xs xA xc xw xB xd xz)).c) = true then (if t = true then (if xk ≠ 4 ∨ xz.length ≠ fs.length then .error xp else elw fs xz) else elw fs [.mk xk xp xs xA xc xw xB xd xz]) else .error xp) = _
  by_cases h1 : (rightS t fs && (fl (.mk xk xp xs xA xc xw xB xd xz)).c) = true
  ·rw [if_pos h1, if_pos h1]
   by_cases h2 : t = true
   ·rw [if_pos h2, if_pos h2]
    by_cases h3 : xk ≠ 4 ∨ xz.length ≠ fs.length
    ·rw [if_pos h3, if_pos h3]
    ·rw [if_neg h3, if_neg h3]
   ·rw [if_neg h2, if_neg h2]
  ·rw [if_neg h1, if_neg h1]
 unfold nv at HIC ⊢
 simp only [Nd.k, Nd.p, Nd.s, Nd.A, Nd.c, Nd.ws, Nd.B, Nd.d, Nd.ks] at HIC ⊢
 generalize evV (elemR t fs (.mk xk xp xs xA xc xw xB xd xz)) = G at *
 generalize hnf : fs.length = nf at *
 have HNF := Lib.hid hnf; clear hnf
 obtain ⟨r0, r1, r2, r3, r4, hb⟩ := five_rows w (sv t A nf c) #[.int .i64 xk, .int .i64 xp, .string xs, .slice xA xw.length xc, .slice xB xz.length xd] (uv (List.replicate 8 0)) #[.int .i64 0, .int .i64 0] (uv (List.replicate 8 0)) 24 28 34 36 34
 have HSH : Hid (∀ W, RowAt W w.heap.size 24 (sv t A nf c) → W.cell? ⟨w.heap.size, 0, none⟩ = some (.bool t) ∧ W.cell? ⟨w.heap.size, 1, none⟩ = some (.slice A nf c)) := fun W h => shape_cells h
 rw [← zero_elem] at r0 r1 r2 r3 r4 hb
 go_enter Tryz.func11, Tryz.ntmps11
 go_upto_region 2 with fail
 rw [zero_elem] at r0 r1 r2 r3 r4 hb ⊢
 generalize (((((w.alloc (.cells (sv t A nf c) 24)).alloc (.cells #[.int .i64 xk, .int .i64 xp, .string xs, .slice xA xw.length xc, .slice xB xz.length xd] 28)).alloc (.cells (uv (List.replicate 8 0)) 34)).alloc (.cells #[.int .i64 0, .int .i64 0] 36)).alloc (.cells (uv (List.replicate 8 0)) 34)) = w1 at *
 have RA1 := Lib.hid r0
 have RN1 := Lib.hid r1
 have RE1 := Lib.hid r2
 have RF1 := Lib.hid r3
 have RO1 := Lib.hid r4
 have HW1 := Lib.hid r4.lt
 have HB1 := Lib.hid hb
 clear r0 r2 r3 r4 hb
 obtain ⟨x0, x1, x2, x3, x4, _, _, _, _, _⟩ := row5 r1
 go_upto_region 3 with (refine wpList_nodes1 (by rfl) _ rfl (.mk xk xp xs xA xc xw xB xd xz) rfl ?_; intro w2 hsl hb2)
 have RA2 := Lib.hid (RA1.out.below hb2 RA1.out.lt)
 have RN2 := Lib.hid (RN1.out.below hb2 RN1.out.lt)
 have RE2 := Lib.hid (RE1.out.below hb2 RE1.out.lt)
 have RF2 := Lib.hid (RF1.out.below hb2 RF1.out.lt)
 have RO2 := Lib.hid (RO1.out.below hb2 RO1.out.lt)
 have HB2 := Lib.hid (HB1.out.trans (hb2.mono HB1.out.size))
 clear RA1 RN1 RE1 RF1 RO1 HB1
 have HSL := Lib.hid hsl
 clear hsl hb2 x0 x1 x2 x3 x4 r1
 go_wp2_with (refine wpList_loadShape (by rfl) _ rfl w.heap.size rfl t A nf c RA2.out ?_)
 refine (HRI.out w2 HB2.out).mono ?_
 rintro e w3 ⟨rfl, hb3⟩
 have RA3 := Lib.hid (RA2.out.below hb3 RA2.out.lt)
 have RN3 := Lib.hid (RN2.out.below hb3 RN2.out.lt)
 have RE3 := Lib.hid (RE2.out.below hb3 RE2.out.lt)
 have RF3 := Lib.hid (RF2.out.below hb3 RF2.out.lt)
 have RO3 := Lib.hid (RO2.out.below hb3 RO2.out.lt)
 have HB3 := Lib.hid (HB2.out.trans (hb3.mono HB2.out.size))
 clear RA2 RN2 RE2 RF2 RO2 HB2
 have HSL3 := Lib.hid ((HSL.out.below hb3).mono hb3.size)
 clear hb3 HSL
 obtain ⟨x0, x1, x2, x3, x4, _, _, _, _, _⟩ := row5 RN3.out
 generalize hqr : rightS t fs = qr at *
 have HQR := Lib.hid hqr; clear hqr
 generalize (fl (.mk xk xp xs xA xc xw xB xd xz)).c = qc at *
 cases qr
 case' false =>
  have HG : Hid (evV (.error xp) = G) := HE.out.symm
  clear HE
  go_upto_region 4 with fail
  generalize w3 = w9 at *
  have RAw9 := RA3
  have RNw9 := RN3
  have REw9 := RE3
  have RFw9 := RF3
  have ROw9 := RO3
  have HBw9 := HB3
  clear RA3 RN3 RE3 RF3 RO3 HB3
  obtain ⟨S, hSe⟩ : ∃ S : World → Prop, S = fun W => RowAt W (w.heap.size + 1) 28 #[.int .i64 xk, .int .i64 xp, .string xs, .slice xA xw.length xc, .slice xB xz.length xd] ∧ RowAt W (w.heap.size + 4) 34 (uv (List.replicate 8 0)) := ⟨_, rfl⟩
  have C1 : ∀ W, S W → W.cell? ⟨w.heap.size + 1, 1, none⟩ = some (.int .i64 xp) := fun W h => by
   rw [hSe] at h
   exact (RowAt.cell h.1 1).trans rfl
  have pE : ∀ W, S W → RowAt W (w.heap.size + 4) 34 (uv (List.replicate 8 0)) := fun W h => by
   rw [hSe] at h
   exact h.2
  have hre := REw9.out.drew
  have hrf := RFw9.out.drew
  have hbb := HBw9.out.drew
  have HS : Hid (S w9.drew) := by
   show S w9.drew
   rw [hSe]
   exact ⟨RNw9.out.drew, ROw9.out.drew⟩
  have hs1 : S (w9.drew.setRow (w.heap.size + 2) (uv (List.replicate 8 0))) := by
   rw [hSe]
   exact ⟨RNw9.out.drew.other (Else.setRow _ _ _) (by omega), ROw9.out.drew.other (Else.setRow _ _ _) (by omega)⟩
  have hs2 : S ((w9.drew.setRow (w.heap.size + 2) (uv (List.replicate 8 0))).setRow (w.heap.size + 3) #[.int .i64 4, .int .i64 xp]) := by
   rw [hSe]
   exact ⟨(RNw9.out.drew.other (Else.setRow _ _ _) (by omega)).other (Else.setRow _ _ _) (by omega), (ROw9.out.drew.other (Else.setRow _ _ _) (by omega)).other (Else.setRow _ _ _) (by omega)⟩
  have hre1 := hre.setRow (uv (List.replicate 8 0))
  have hrf1 := hrf.other (Else.setRow w9.drew (w.heap.size + 2) (uv (List.replicate 8 0))) (by omega)
  have hre2 := hre1.other (Else.setRow (w9.drew.setRow (w.heap.size + 2) (uv (List.replicate 8 0))) (w.heap.size + 3) #[.int .i64 4, .int .i64 xp]) (by omega)
  have hrf2 := hrf1.setRow #[.int .i64 4, .int .i64 xp]
  have hb2 : Below w.heap.size w ((w9.drew.setRow (w.heap.size + 2) (uv (List.replicate 8 0))).setRow (w.heap.size + 3) #[.int .i64 4, .int .i64 xp]) := (hbb.trans ((Else.setRow _ _ _).below (by omega))).trans ((Else.setRow _ _ _).below (by omega))
  refine wp_region_ord S [(0, true), (1, true), (2, true), (3, true), (4, false), (5, false)] (by kernel_rfl) (by kernel_rfl) rfl (by kernel_rfl) HS.out ?_
  generalize w9.drew = V at *
  iterate 4
   (refine wpOrd_step (o := ?_) ?_ ?_; rotate_left 1; (simp only [zA1, zA2, zA3]; with_reducible rfl))
   (first
    | (refine wpOrd_skip (by rfl) ?_)
    | (refine wpOrd_take (by rfl) (take_loadElem _ rfl _ rfl _ z8 pE) ?_)
    | (refine wpOrd_take (v := ?_) (by rfl) ?_ ?_; rotate_left 1; (intro wx hSx; have hc_0 := C1 wx hSx; go_simp; try with_reducible rfl)))
   (try simp only [Act.put, zA4, zA5, zA6])
  refine wpOrd_store (o := ?_) ?ho1 ?hw1 34 ?ox1 ?oy1 ?hop1 (w.heap.size + 2) (uv (List.replicate 8 0)) ?hx1 ?hy1 34 (uv (List.replicate 8 0)) hre (einfo z8) ?hold1 (uv_one _) hs1 ?hh1
  case ho1 => (simp only [zA1, zA2, zA3]; with_reducible rfl)
  case hw1 => rfl
  case hop1 => rfl
  case hx1 => rfl
  case hy1 => rfl
  case hold1 => rfl
  (try simp only [Act.put, zA4, zA5, zA6])
  refine wpOrd_store (o := ?_) ?ho2 ?hw2 36 ?ox2 ?oy2 ?hop2 (w.heap.size + 3) #[.int .i64 4, .int .i64 xp] ?hx2 ?hy2 36 #[.int .i64 0, .int .i64 0] hrf1 (fault_info _ _) ?hold2 (by simp [Value.oneCell']) hs2 ?hh2
  case ho2 => (simp only [zA1, zA2, zA3]; with_reducible rfl)
  case hw2 => rfl
  case hop2 => rfl
  case hx2 => rfl
  case hy2 => rfl
  case hold2 => rfl
  (try simp only [Act.put, zA4, zA5, zA6])
  refine wpOrd_done ?_
  go_wp2_with fail
  exact bodyPost_ret (ret_cc rfl _ _ (w.heap.size + 2) (w.heap.size + 3) _ _ _ _ _ _ rfl rfl hre2 hrf2 Tryz.underlying34 rfl (einfo z8) Tryz.underlying36 rfl (fault_info _ _)) rfl ⟨by rw [← HG.out]; rfl, hb2⟩
 case' true =>
  go_wp2_with fail
  refine (HIC.out w3 HB3.out).mono ?_
  rintro e w4 ⟨rfl, hb4⟩
  have RA4 := Lib.hid (RA3.out.below hb4 RA3.out.lt)
  have RN4 := Lib.hid (RN3.out.below hb4 RN3.out.lt)
  have RE4 := Lib.hid (RE3.out.below hb4 RE3.out.lt)
  have RF4 := Lib.hid (RF3.out.below hb4 RF3.out.lt)
  have RO4 := Lib.hid (RO3.out.below hb4 RO3.out.lt)
  have HB4 := Lib.hid (HB3.out.trans (hb4.mono HB3.out.size))
  clear RA3 RN3 RE3 RF3 RO3 HB3
  have HSL := Lib.hid ((HSL3.out.below hb4).mono hb4.size)
  clear HSL3
  clear hb4 x0 x1 x2 x3 x4
  obtain ⟨x0, x1, x2, x3, x4, _, _, _, _, _⟩ := row5 RN4.out
  cases qc
  case' false =>
   have HG : Hid (evV (.error xp) = G) := HE.out.symm
   clear HE
   go_upto_region 4 with fail
   generalize w4 = w9 at *
   have RAw9 := RA4
   have RNw9 := RN4
   have REw9 := RE4
   have RFw9 := RF4
   have ROw9 := RO4
   have HBw9 := HB4
   clear RA4 RN4 RE4 RF4 RO4 HB4
   obtain ⟨S, hSe⟩ : ∃ S : World → Prop, S = fun W => RowAt W (w.heap.size + 1) 28 #[.int .i64 xk, .int .i64 xp, .string xs, .slice xA xw.length xc, .slice xB xz.length xd] ∧ RowAt W (w.heap.size + 4) 34 (uv (List.replicate 8 0)) := ⟨_, rfl⟩
   have C1 : ∀ W, S W → W.cell? ⟨w.heap.size + 1, 1, none⟩ = some (.int .i64 xp) := fun W h => by
       rw [hSe] at h
       exact (RowAt.cell h.1 1).trans rfl
   have pE : ∀ W, S W → RowAt W (w.heap.size + 4) 34 (uv (List.replicate 8 0)) := fun W h => by
       rw [hSe] at h
       exact h.2
   have hre := REw9.out.drew
   have hrf := RFw9.out.drew
   have hbb := HBw9.out.drew
   have HS : Hid (S w9.drew) := by
       show S w9.drew
       rw [hSe]
       exact ⟨RNw9.out.drew, ROw9.out.drew⟩
   have hs1 : S (w9.drew.setRow (w.heap.size + 2) (uv (List.replicate 8 0))) := by
       rw [hSe]
       exact ⟨RNw9.out.drew.other (Else.setRow _ _ _) (by omega), ROw9.out.drew.other (Else.setRow _ _ _) (by omega)⟩
   have hs2 : S ((w9.drew.setRow (w.heap.size + 2) (uv (List.replicate 8 0))).setRow (w.heap.size + 3) #[.int .i64 4, .int .i64 xp]) := by
       rw [hSe]
       exact ⟨(RNw9.out.drew.other (Else.setRow _ _ _) (by omega)).other (Else.setRow _ _ _) (by omega), (ROw9.out.drew.other (Else.setRow _ _ _) (by omega)).other (Else.setRow _ _ _) (by omega)⟩
   have hre1 := hre.setRow (uv (List.replicate 8 0))
   have hrf1 := hrf.other (Else.setRow w9.drew (w.heap.size + 2) (uv (List.replicate 8 0))) (by omega)
   have hre2 := hre1.other (Else.setRow (w9.drew.setRow (w.heap.size + 2) (uv (List.replicate 8 0))) (w.heap.size + 3) #[.int .i64 4, .int .i64 xp]) (by omega)
   have hrf2 := hrf1.setRow #[.int .i64 4, .int .i64 xp]
   have hb2 : Below w.heap.size w ((w9.drew.setRow (w.heap.size + 2) (uv (List.replicate 8 0))).setRow (w.heap.size + 3) #[.int .i64 4, .int .i64 xp]) := (hbb.trans ((Else.setRow _ _ _).below (by omega))).trans ((Else.setRow _ _ _).below (by omega))
   refine wp_region_ord S [(0, true), (1, true), (2, true), (3, true), (4, false), (5, false)] (by kernel_rfl) (by kernel_rfl) rfl (by kernel_rfl) HS.out ?_
   generalize w9.drew = V at *
   iterate 4
       (refine wpOrd_step (o := ?_) ?_ ?_; rotate_left 1; (simp only [zA1, zA2, zA3]; with_reducible rfl))
       (first
        | (refine wpOrd_skip (by rfl) ?_)
        | (refine wpOrd_take (by rfl) (take_loadElem _ rfl _ rfl _ z8 pE) ?_)
        | (refine wpOrd_take (v := ?_) (by rfl) ?_ ?_; rotate_left 1; (intro wx hSx; have hc_0 := C1 wx hSx; go_simp; try with_reducible rfl)))
       (try simp only [Act.put, zA4, zA5, zA6])
   refine wpOrd_store (o := ?_) ?ho3 ?hw3 34 ?ox3 ?oy3 ?hop3 (w.heap.size + 2) (uv (List.replicate 8 0)) ?hx3 ?hy3 34 (uv (List.replicate 8 0)) hre (einfo z8) ?hold3 (uv_one _) hs1 ?hh3
   case ho3 => (simp only [zA1, zA2, zA3]; with_reducible rfl)
   case hw3 => rfl
   case hop3 => rfl
   case hx3 => rfl
   case hy3 => rfl
   case hold3 => rfl
   (try simp only [Act.put, zA4, zA5, zA6])
   refine wpOrd_store (o := ?_) ?ho4 ?hw4 36 ?ox4 ?oy4 ?hop4 (w.heap.size + 3) #[.int .i64 4, .int .i64 xp] ?hx4 ?hy4 36 #[.int .i64 0, .int .i64 0] hrf1 (fault_info _ _) ?hold4 (by simp [Value.oneCell']) hs2 ?hh4
   case ho4 => (simp only [zA1, zA2, zA3]; with_reducible rfl)
   case hw4 => rfl
   case hop4 => rfl
   case hx4 => rfl
   case hy4 => rfl
   case hold4 => rfl
   (try simp only [Act.put, zA4, zA5, zA6])
   refine wpOrd_done ?_
   go_wp2_with fail
   exact bodyPost_ret (ret_cc rfl _ _ (w.heap.size + 2) (w.heap.size + 3) _ _ _ _ _ _ rfl rfl hre2 hrf2 Tryz.underlying34 rfl (einfo z8) Tryz.underlying36 rfl (fault_info _ _)) rfl ⟨by rw [← HG.out]; rfl, hb2⟩
  case' true =>
   obtain ⟨hn1, hn8, hn0, hfa⟩ : 1 ≤ nf ∧ nf ≤ 8 ∧ (t = false → nf = 1) ∧ ∀ f ∈ fs, facB f = true := by
       have h := HQR.out
       unfold rightS at h
       simp only [Bool.and_eq_true, decide_eq_true_eq, Bool.or_eq_true, HNF.out, List.all_eq_true] at h
       obtain ⟨⟨⟨h1, h2⟩, h3⟩, h4⟩ := h
       exact ⟨h1, h2, fun e => by rcases h3 with h3 | h3 <;> simp_all, h4⟩
   have HFL : Hid (∀ j, j < fs.length → (fs.getD j f0).names.length ≤ 64) := fun j hj => (facB_len (hfa _ (getD_memF hj))).2
   obtain ⟨ab, ao, hA, _, _⟩ := hF.at (k := 0) (by rw [HNF.out]; omega)
   subst hA
   obtain ⟨c0, c1⟩ := HSH.out _ RA4.out
   cases t
   case' false =>
       have HN1 : nf = 1 := hn0 rfl
       have HG : Hid (evV (elw fs [.mk xk xp xs xA xc xw xB xd xz]) = G) := HE.out.symm
       have HYL : Hid ([Nd.mk xk xp xs xA xc xw xB xd xz].length = nf) := by show _ = _; rw [HN1]; rfl
       have HYN : Hid (∀ y ∈ [Nd.mk xk xp xs xA xc xw xB xd xz], Nods w w.heap.size [y] ∧ TM.cnt [y] ≤ 2147483648) := fun y hy => by
        obtain rfl := List.mem_singleton.1 hy
        exact ⟨hx, hc⟩
       have HKN : Hid (∀ b o, (some ⟨w1.heap.size, 0, none⟩ : Option Addr) = some ⟨b, o, none⟩ → b ≠ w.heap.size + 4) := fun b o e => by
        have h1 := HW1.out
        injection e with e
        injection e with e _ _
        omega
       clear HE
       subst HN1
       have HWC : Hid (∀ j, j < 1 → ∀ W, Below w.heap.size w W → Calls Tryz.prog 25 #[.agg (fv (fs.getD j f0)), .agg (nv ([Nd.mk xk xp xs xA xc xw xB xd xz].getD j n0))] W fun e w' => e = .returned (.agg (gv (wordC (fs.getD j f0) ([Nd.mk xk xp xs xA xc xw xB xd xz].getD j n0)))) ∧ Below W.heap.size W w') := fun j hj W h => by
        have hjf : j < fs.length := by rw [HNF.out]; exact hj
        have hjy : j < [Nd.mk xk xp xs xA xc xw xB xd xz].length := by rw [HYL.out]; exact hj
        have hfo := ((hF.below h).okAt hjf)
        have hm := HYN.out _ (getD_memL (z := n0) hjy)
        exact qwordC_any _ _ W hfo (by have := HFL.out j hjf; omega) ((hm.1.below h).mono h.size) (by omega)
       have HRG : Hid (∀ j, j < 1 → ∀ W, Below w.heap.size w W → W.rangeAt ab (ao + j * 67) (fcells (fs.getD j f0))) := fun j hj W h => (hF.below h).rng (by rw [HNF.out]; exact hj)
       have HRW : Hid (∀ j, j < 1 → RW (fs.getD j f0).l) := fun j hj => (hF.okAt (by rw [HNF.out]; exact hj)).rows
       have HEND : Hid ((∀ j, j < 1 → (erW (wordC (fs.getD j f0) ([Nd.mk xk xp xs xA xc xw xB xd xz].getD j n0))).isSome = false) → .tuple #[.agg (uv (sdTo (fun j => okW (wordC (fs.getD j f0) ([Nd.mk xk xp xs xA xc xw xB xd xz].getD j n0))) 8 1)), .agg #[.int .i64 0, .int .i64 0]] = G) := fun h => by
        rw [← HG.out]
        unfold elw
        rw [find_range_no (by rw [HYL.out]; exact h), HYL.out]; rfl
       have HBAD : Hid (∀ i p, i < 1 → (∀ j, j < i → (erW (wordC (fs.getD j f0) ([Nd.mk xk xp xs xA xc xw xB xd xz].getD j n0))).isSome = false) → wordC (fs.getD i f0) ([Nd.mk xk xp xs xA xc xw xB xd xz].getD i n0) = .error p → evV (.error p) = G) := fun i p hi h hp => by
        rw [← HG.out]
        unfold elw
        rw [find_range_hit (by rw [HYL.out]; exact hi) h (by rw [hp]; rfl)]
        simp only [hp, erW]; rfl
       have HEW : Hid (∀ k, EW (sdTo (fun j => okW (wordC (fs.getD j f0) ([Nd.mk xk xp xs xA xc xw xB xd xz].getD j n0))) 8 k)) := sdTo_ew fun j => okW_lt _ _
       have HZ0 : Hid (sdTo (fun j => okW (wordC (fs.getD j f0) ([Nd.mk xk xp xs xA xc xw xB xd xz].getD j n0))) 8 0 = List.replicate 8 0) := sdTo_zero _ 8
       have HNX : Hid (∀ k v, wordC (fs.getD k f0) ([Nd.mk xk xp xs xA xc xw xB xd xz].getD k n0) = .ok v → (uv (sdTo (fun j => okW (wordC (fs.getD j f0) ([Nd.mk xk xp xs xA xc xw xB xd xz].getD j n0))) 8 k)).setIfInBounds k (.int .u64 (v : Int)) = uv (sdTo (fun j => okW (wordC (fs.getD j f0) ([Nd.mk xk xp xs xA xc xw xB xd xz].getD j n0))) 8 (k + 1))) := fun k v hv => by
        have h1 : okW (wordC (fs.getD k f0) ([Nd.mk xk xp xs xA xc xw xB xd xz].getD k n0)) = v := by rw [hv]; rfl
        rw [uv_set, ← sdTo_set]
        simp only [h1]
       have HKY : Hid (∀ W, Sl W W.heap.size (some ⟨w1.heap.size, 0, none⟩ : Option Addr) (ncs [Nd.mk xk xp xs xA xc xw xB xd xz]) → ∀ i, i < 1 → ∃ kb ko, (some ⟨w1.heap.size, 0, none⟩ : Option Addr) = some ⟨kb, ko, none⟩ ∧ kb < W.heap.size ∧ (W.cell? ⟨kb, ko + i * 5, none⟩ = some (.int .i64 ([Nd.mk xk xp xs xA xc xw xB xd xz].getD i n0).k) ∧ W.cell? ⟨kb, ko + i * 5 + 1, none⟩ = some (.int .i64 ([Nd.mk xk xp xs xA xc xw xB xd xz].getD i n0).p) ∧ W.cell? ⟨kb, ko + i * 5 + 2, none⟩ = some (.string ([Nd.mk xk xp xs xA xc xw xB xd xz].getD i n0).s) ∧ W.cell? ⟨kb, ko + i * 5 + 3, none⟩ = some (.slice ([Nd.mk xk xp xs xA xc xw xB xd xz].getD i n0).A ([Nd.mk xk xp xs xA xc xw xB xd xz].getD i n0).ws.length ([Nd.mk xk xp xs xA xc xw xB xd xz].getD i n0).c) ∧ W.cell? ⟨kb, ko + i * 5 + 4, none⟩ = some (.slice ([Nd.mk xk xp xs xA xc xw xB xd xz].getD i n0).B ([Nd.mk xk xp xs xA xc xw xB xd xz].getD i n0).ks.length ([Nd.mk xk xp xs xA xc xw xB xd xz].getD i n0).d))) := fun W h i hi => by
        obtain ⟨kb, ko, h1, h2, hc⟩ := sl_at (z := n0) ncells_length h (k := i) (by rw [HYL.out]; exact hi) (by omega)
        have q0 := hc i 0 _ (by rw [HYL.out]; exact hi) (by omega) rfl
        rw [Nat.add_zero] at q0
        refine ⟨kb, ko, h1, h2, q0, ?_, ?_, ?_, ?_⟩
        ·rw [Nat.add_assoc]; exact hc i 1 _ (by rw [HYL.out]; exact hi) (by omega) rfl
        ·rw [Nat.add_assoc]; exact hc i 2 _ (by rw [HYL.out]; exact hi) (by omega) rfl
        ·rw [Nat.add_assoc]; exact hc i 3 _ (by rw [HYL.out]; exact hi) (by omega) rfl
        ·rw [Nat.add_assoc]; exact hc i 4 _ (by rw [HYL.out]; exact hi) (by omega) rfl
       have HKS := Lib.hid (HSL.out)
       clear HYN HFL HSL HYL HG
       generalize hWC : (fun j => wordC (fs.getD j f0) ([Nd.mk xk xp xs xA xc xw xB xd xz].getD j n0)) = WC at *
       have HWE : Hid (∀ j, wordC (fs.getD j f0) ([Nd.mk xk xp xs xA xc xw xB xd xz].getD j n0) = WC j) := fun j => by rw [← hWC]
       clear hWC
       simp only [HWE.out] at HWC HEND HBAD HEW HZ0 HNX
       generalize sdTo (fun j => okW (WC j)) 8 = GG at *
       go_wp2_with fail
       go_loopw [8] (fun iv wr => ∃ i : Nat, i ≤ 1 ∧ iv = .int .i64 i ∧ Hid (RowAt wr w.heap.size 24 (sv false (some ⟨ab, ao, none⟩) 1 c)) ∧ Hid (RowAt wr (w.heap.size + 1) 28 #[.int .i64 xk, .int .i64 xp, .string xs, .slice xA xw.length xc, .slice xB xz.length xd]) ∧ Hid (RowAt wr (w.heap.size + 2) 34 (uv (List.replicate 8 0))) ∧ Hid (RowAt wr (w.heap.size + 3) 36 #[.int .i64 0, .int .i64 0]) ∧ Hid (RowAt wr (w.heap.size + 4) 34 (uv (GG i))) ∧ Hid (Sl wr wr.heap.size (some ⟨w1.heap.size, 0, none⟩ : Option Addr) (ncs [Nd.mk xk xp xs xA xc xw xB xd xz])) ∧ Hid (∀ j, j < i → (erW (WC j)).isSome = false) ∧ Hid (Below w.heap.size w wr)) (fun iv _ => 1 - (intOf iv).toNat)
       case atStart => exact ⟨0, by omega, rfl, RA4, RN4, RE4, RF4, by rw [HZ0.out]; exact RO4, HKS, fun j hj => by omega, HB4⟩
       case round =>
        clear RA4 RN4 RE4 RF4 RO4 HB4 HKS HZ0 c0 c1 x0 x1 x2 x3 x4
        obtain ⟨i, hi, rfl, RAr, RNr, REr, RFr, ROr, HKr, HZr, HBr⟩ := hrel
        obtain ⟨c0, c1⟩ := HSH.out _ RAr.out
        by_cases hlt : i < 1
        ·obtain ⟨kb, ko, hkb, hkl, q0, q1, q2, q3, q4⟩ := HKY.out wr HKr.out i hlt
         have hin : (i : Int) < (1 : Nat) := by omega
         have HWI := Lib.hid (HWC.out i hlt)
         have hl := HRW.out i hlt
         have HBA := Lib.hid (fun p => HBAD.out i p hlt HZr.out)
         have HNXi := Lib.hid (HNX.out i)
         have HZN : Hid (∀ v, WC i = .ok v → ∀ j, j < i + 1 → (erW (WC j)).isSome = false) := fun v hv j hj => by
          by_cases e : j = i
          ·rw [e, hv]; rfl
          ·exact HZr.out j (by omega)
         have pF0 := fun W (h : Below wr.heap.size wr W) => HRG.out i hlt W (HBr.out.trans (h.mono HBr.out.size))
         generalize hPP : WC i = P at *
         clear hPP
         generalize fs.getD i f0 = f at *
         generalize [Nd.mk xk xp xs xA xc xw xB xd xz].getD i n0 = y at *
         obtain ⟨yk, yp, ys9, yA, yc, yw, yB, yd, yz⟩ := y
         unfold nv at HWI
         simp only [Nd.k, Nd.p, Nd.s, Nd.A, Nd.c, Nd.ws, Nd.B, Nd.d, Nd.ks] at q0 q1 q2 q3 q4 HWI
         obtain ⟨va, vb, vp, hgv, hv1, hv2⟩ := gv_cases P
         simp only [hgv] at HWI
         have HV1 := Lib.hid hv1
         have HV2 := Lib.hid hv2
         clear hgv hv1 hv2
         have HCE := Lib.hid (ev_at (HEW.out i) i (by omega))
         generalize (GG i).getD i 0 = x0 at HCE
         have HVV : Hid (Below wr.heap.size wr wr.drew) := (Below.refl _ _).drew
         have C1 : ∀ W, Below wr.heap.size wr W → W.cell? ⟨w.heap.size, 1, none⟩ = some (.slice (some ⟨ab, ao, none⟩) 1 c) := fun W h => (HSH.out _ (RAr.out.below h RAr.out.lt)).2
         have P0 : ∀ W, Below wr.heap.size wr W → W.cell? ⟨kb, ko + i * 5, none⟩ = some (.int .i64 yk) := fun W h => (below_cell h hkl).trans q0
         have P1 : ∀ W, Below wr.heap.size wr W → W.cell? ⟨kb, ko + i * 5 + 1, none⟩ = some (.int .i64 yp) := fun W h => (below_cell h hkl).trans q1
         have P2 : ∀ W, Below wr.heap.size wr W → W.cell? ⟨kb, ko + i * 5 + 2, none⟩ = some (.string ys9) := fun W h => (below_cell h hkl).trans q2
         have P3 : ∀ W, Below wr.heap.size wr W → W.cell? ⟨kb, ko + i * 5 + 3, none⟩ = some (.slice yA yw.length yc) := fun W h => (below_cell h hkl).trans q3
         have P4 : ∀ W, Below wr.heap.size wr W → W.cell? ⟨kb, ko + i * 5 + 4, none⟩ = some (.slice yB yz.length yd) := fun W h => (below_cell h hkl).trans q4
         clear q0 q1 q2 q3 q4 c0 c1
         injection hkb with hkb
         injection hkb with hk1 hk2 _
         subst hk1
         subst hk2
         try simp only [Nat.zero_add] at P0 P1 P2 P3 P4
         go_wp2_with fail
         refine wp_region_ot (fun w' => Below wr.heap.size wr w') (.take 0 (.take 1 (.take 2 (.take 3 (.take 4 (.take 5 (.take 6 (.take 7 (.take 8 (.two 9 (.solo 10 (.solo 11 .nil)) 10 (.solo 9 (.solo 11 .nil)))))))))))) (by kernel_rfl) (by kernel_rfl) rfl (by kernel_rfl) HVV.out ?_
         generalize wr.drew = V at HVV ⊢
         iterate 9
          (refine wpOT_step (o := ?_) ?_ ?_; rotate_left 1; (simp only [zA1, zA2, zA3]; with_reducible rfl))
          (first
               | (refine wpOT_skip (by rfl) ?_)
               | (refine wpOT_take (by rfl) (take_loadFacIn _ rfl _ _ rfl _ hl pF0) ?_)
               | (refine wpOT_take (v := ?_) (by rfl) ?_ ?_; rotate_left 1; (intro wx hSx; have hc_0 := C1 wx hSx; have hc_1 := P0 wx hSx; have hc_2 := P1 wx hSx; have hc_3 := P2 wx hSx; have hc_4 := P3 wx hSx; have hc_5 := P4 wx hSx; go_simp; try with_reducible rfl)))
          (try simp only [Act.put, zA4, zA5, zA6])
         clear C1 P0 P1 P2 P3 P4 pF0
         refine wpOT_two ?_ ?_
         ·(refine wpOT_solo (o := ?_) ?_ ?_; rotate_left 1; (simp only [zA1, zA2, zA3]; with_reducible rfl))
          intro K hK
          go_simp
          go_at_call 25
          refine (HWI.out V (HBr.out.trans (HVV.out.mono HBr.out.size))).mono ?_
          rintro e v1 ⟨rfl, hb⟩
          have HVv1 := Lib.hid (HVV.out.trans (hb.mono HVV.out.size))
          clear hb
          refine hK.out _ _ HVv1.out ?_
          clear hK K
          (try simp only [Act.put, zA4, zA5, zA6])
          (refine wpOT_solo (o := ?_) ?_ ?_; rotate_left 1; (simp only [zA1, zA2, zA3]; with_reducible rfl))
          intro K hK
          go_simp
          have HVv2 := Lib.hid (HVv1.out.alloc HVv1.out.size (.cells #[.int .u64 0, .bool false, .int .i64 0] 61))
          have HTv2 := Lib.hid (RowAt.new v1 61 #[.int .u64 0, .bool false, .int .i64 0])
          have HZ := Lib.hid HVv1.out.size
          refine hK.out _ _ HVv2.out ?_
          clear hK K
          (try simp only [Act.put, zA4, zA5, zA6])
          generalize hgb : v1.heap.size = gb at *
          generalize (v1.alloc (.cells #[.int .u64 0, .bool false, .int .i64 0] 61)) = v2 at *
          clear hgb
          have HGB := Lib.hid (Nat.lt_of_lt_of_le ROr.out.lt HZ.out)
          obtain ⟨r0, r1, r2, z0, z1, z2⟩ := row3 HTv2.out
          have HVv3 : Hid (Below wr.heap.size wr (((v2.setCell ⟨gb, 0, none⟩ (.int .u64 (va : Int))).setCell ⟨gb, 1, none⟩ (.bool vb)).setCell ⟨gb, 2, none⟩ (.int .i64 vp))) := ((HVv2.out.setCell (p := ⟨gb, 0, none⟩) HZ.out _).setCell (p := ⟨gb, 1, none⟩) HZ.out _).setCell (p := ⟨gb, 2, none⟩) HZ.out _
          have HTv3 : Hid (RowAt (((v2.setCell ⟨gb, 0, none⟩ (.int .u64 (va : Int))).setCell ⟨gb, 1, none⟩ (.bool vb)).setCell ⟨gb, 2, none⟩ (.int .i64 vp)) gb 61 #[.int .u64 (va : Int), .bool vb, .int .i64 vp]) := ((HTv2.out.put 0 (.int .u64 (va : Int))).put 1 (.bool vb)).put 2 (.int .i64 vp)
          (refine wpOT_solo (o := ?_) ?_ ?_; rotate_left 1; (simp only [zA1, zA2, zA3]; with_reducible rfl))
          intro K hK
          go_simp
          refine hK.out _ _ HVv3.out ?_
          clear hK K
          (try simp only [Act.put, zA4, zA5, zA6])
          refine wpOT_done ?_
          generalize (((v2.setCell ⟨gb, 0, none⟩ (.int .u64 (va : Int))).setCell ⟨gb, 1, none⟩ (.bool vb)).setCell ⟨gb, 2, none⟩ (.int .i64 vp)) = v3 at *
          clear r0 r1 r2 z0 z1 z2 HTv2 HVv2
          have RAv3 := Lib.hid (RAr.out.below HVv3.out RAr.out.lt)
          have RNv3 := Lib.hid (RNr.out.below HVv3.out RNr.out.lt)
          have REv3 := Lib.hid (REr.out.below HVv3.out REr.out.lt)
          have RFv3 := Lib.hid (RFr.out.below HVv3.out RFr.out.lt)
          have ROv3 := Lib.hid (ROr.out.below HVv3.out ROr.out.lt)
          have HKv3 := Lib.hid ((HKr.out.below HVv3.out).mono HVv3.out.size)
          have HBv3 := Lib.hid (HBr.out.trans (HVv3.out.mono HBr.out.size))
          clear RAr RNr REr RFr ROr HKr HBr
          obtain ⟨t0, t1, t2, _, _, _⟩ := row3 HTv3.out
          cases vb with
          | true =>
            have HG : Hid (evV (.error vp) = G) := HBA.out vp (HV1.out rfl)
            go_upto_region 14 with fail
            obtain ⟨S, hSe⟩ : ∃ S : World → Prop, S = fun W => RowAt W gb 61 #[.int .u64 (va : Int), .bool true, .int .i64 vp] := ⟨_, rfl⟩
            have C1 : ∀ W, S W → W.cell? ⟨gb, 2, none⟩ = some (.int .i64 vp) := fun W h => by
               rw [hSe] at h
               exact (RowAt.cell h 2).trans rfl
            have hre := REv3.out.drew
            have hrf := RFv3.out.drew
            have hbb := HBv3.out.drew
            have hg2 : gb ≠ w.heap.size + 2 := by have := HGB.out; omega
            have hg3 : gb ≠ w.heap.size + 3 := by have := HGB.out; omega
            have HS : Hid (S v3.drew) := by
               show S v3.drew
               rw [hSe]
               exact HTv3.out.drew
            have hs1 : S (v3.drew.setRow (w.heap.size + 2) (uv (List.replicate 8 0))) := by
               rw [hSe]
               exact HTv3.out.drew.other (Else.setRow _ _ _) hg2
            have hs2 : S ((v3.drew.setRow (w.heap.size + 2) (uv (List.replicate 8 0))).setRow (w.heap.size + 3) #[.int .i64 4, .int .i64 vp]) := by
               rw [hSe]
               exact (HTv3.out.drew.other (Else.setRow _ _ _) hg2).other (Else.setRow _ _ _) hg3
            have hre1 := hre.setRow (uv (List.replicate 8 0))
            have hrf1 := hrf.other (Else.setRow v3.drew (w.heap.size + 2) (uv (List.replicate 8 0))) (by omega)
            have hre2 := hre1.other (Else.setRow (v3.drew.setRow (w.heap.size + 2) (uv (List.replicate 8 0))) (w.heap.size + 3) #[.int .i64 4, .int .i64 vp]) (by omega)
            have hrf2 := hrf1.setRow #[.int .i64 4, .int .i64 vp]
            have hb2 : Below w.heap.size w ((v3.drew.setRow (w.heap.size + 2) (uv (List.replicate 8 0))).setRow (w.heap.size + 3) #[.int .i64 4, .int .i64 vp]) := (hbb.trans ((Else.setRow _ _ _).below (by omega))).trans ((Else.setRow _ _ _).below (by omega))
            refine wp_region_ord S [(0, true), (1, true), (2, true), (3, true), (4, false), (5, false)] (by kernel_rfl) (by kernel_rfl) rfl (by kernel_rfl) HS.out ?_
            generalize v3.drew = V at *
            iterate 4
               (refine wpOrd_step (o := ?_) ?_ ?_; rotate_left 1; (simp only [zA1, zA2, zA3]; with_reducible rfl))
               (first
                  | (refine wpOrd_skip (by rfl) ?_)
                  | (refine wpOrd_take (v := ?_) (by rfl) ?_ ?_; rotate_left 1; (intro wx hSx; have hc_0 := C1 wx hSx; go_simp; try with_reducible rfl)))
               (try simp only [Act.put, zA4, zA5, zA6])
            refine wpOrd_store (o := ?_) ?ho5 ?hw5 34 ?ox5 ?oy5 ?hop5 (w.heap.size + 2) (uv (List.replicate 8 0)) ?hx5 ?hy5 34 (uv (List.replicate 8 0)) hre (einfo z8) ?hold5 (uv_one _) hs1 ?hh5
            case ho5 => (simp only [zA1, zA2, zA3]; with_reducible rfl)
            case hw5 => rfl
            case hop5 => rfl
            case hx5 => rfl
            case hy5 => rfl
            case hold5 => rfl
            (try simp only [Act.put, zA4, zA5, zA6])
            refine wpOrd_store (o := ?_) ?ho6 ?hw6 36 ?ox6 ?oy6 ?hop6 (w.heap.size + 3) #[.int .i64 4, .int .i64 vp] ?hx6 ?hy6 36 #[.int .i64 0, .int .i64 0] hrf1 (fault_info _ _) ?hold6 (by simp [Value.oneCell']) hs2 ?hh6
            case ho6 => (simp only [zA1, zA2, zA3]; with_reducible rfl)
            case hw6 => rfl
            case hop6 => rfl
            case hx6 => rfl
            case hy6 => rfl
            case hold6 => rfl
            (try simp only [Act.put, zA4, zA5, zA6])
            refine wpOrd_done ?_
            go_wp2_with fail
            exact bodyPost_ret (ret_cc rfl _ _ (w.heap.size + 2) (w.heap.size + 3) _ _ _ _ _ _ rfl rfl hre2 hrf2 Tryz.underlying34 rfl (einfo z8) Tryz.underlying36 rfl (fault_info _ _)) rfl ⟨by rw [← HG.out]; rfl, hb2⟩
          | false =>
            have HN := Lib.hid (HNXi.out va (HV2.out rfl))
            have HZ9 := Lib.hid (HZN.out va (HV2.out rfl))
            have hi8 : (i : Int) < 8 := by omega
            have hce : v3.cell? ⟨w.heap.size + 4, i, none⟩ = some (.int .u64 (x0 : Int)) := (ROv3.out.cell i).trans HCE.out
            have hfe := ROv3.out.free i
            have p5 := ROv3.out.put i (.int .u64 (va : Int))
            rw [HN.out] at p5
            have P5 := Lib.hid p5
            have hks := sl_else (g := w.heap.size + 4) HKv3.out (Else.setCell v3 ⟨w.heap.size + 4, i, none⟩ (.int .u64 (va : Int))) HKN.out
            have HK5 := Lib.hid (hks.mono (Nat.le_of_eq (Else.setCell v3 ⟨w.heap.size + 4, i, none⟩ (.int .u64 (va : Int))).size.symm))
            have RA5 := Lib.hid (RAv3.out.far (p := ⟨w.heap.size + 4, i, none⟩) (by show w.heap.size + 4 ≠ w.heap.size; omega) (.int .u64 (va : Int)))
            have RN5 := Lib.hid (RNv3.out.far (p := ⟨w.heap.size + 4, i, none⟩) (by show w.heap.size + 4 ≠ w.heap.size + 1; omega) (.int .u64 (va : Int)))
            have RE5 := Lib.hid (REv3.out.far (p := ⟨w.heap.size + 4, i, none⟩) (by show w.heap.size + 4 ≠ w.heap.size + 2; omega) (.int .u64 (va : Int)))
            have RF5 := Lib.hid (RFv3.out.far (p := ⟨w.heap.size + 4, i, none⟩) (by show w.heap.size + 4 ≠ w.heap.size + 3; omega) (.int .u64 (va : Int)))
            have HB5 := Lib.hid (HBv3.out.setCell (p := ⟨w.heap.size + 4, i, none⟩) (Nat.le_add_right _ _) (.int .u64 (va : Int)))
            clear p5 hks
            go_wp2_with fail
            go_roundw
            case rel => exact ⟨i + 1, by omega, by go_num, RA5, RN5, RE5, RF5, P5, HK5, HZ9, HB5⟩
            case measure => simp [intOf]; omega
         ·(refine wpOT_solo (o := ?_) ?_ ?_; rotate_left 1; (simp only [zA1, zA2, zA3]; with_reducible rfl))
          intro K hK
          go_simp
          have HVv1 := Lib.hid (HVV.out.alloc HVV.out.size (.cells #[.int .u64 0, .bool false, .int .i64 0] 61))
          have HTv1 := Lib.hid (RowAt.new V 61 #[.int .u64 0, .bool false, .int .i64 0])
          have HZ := Lib.hid HVV.out.size
          refine hK.out _ _ HVv1.out ?_
          clear hK K
          (try simp only [Act.put, zA4, zA5, zA6])
          generalize hgb : V.heap.size = gb at *
          generalize (V.alloc (.cells #[.int .u64 0, .bool false, .int .i64 0] 61)) = v1 at *
          clear hgb
          have HGB := Lib.hid (Nat.lt_of_lt_of_le ROr.out.lt HZ.out)
          (refine wpOT_solo (o := ?_) ?_ ?_; rotate_left 1; (simp only [zA1, zA2, zA3]; with_reducible rfl))
          intro K hK
          go_simp
          go_at_call 25
          refine (HWI.out v1 (HBr.out.trans (HVv1.out.mono HBr.out.size))).mono ?_
          rintro e v2 ⟨rfl, hb⟩
          have HVv2 := Lib.hid (HVv1.out.trans (hb.mono HVv1.out.size))
          have HTv2 := Lib.hid (HTv1.out.below hb HTv1.out.lt)
          clear hb
          refine hK.out _ _ HVv2.out ?_
          clear hK K
          (try simp only [Act.put, zA4, zA5, zA6])
          obtain ⟨r0, r1, r2, z0, z1, z2⟩ := row3 HTv2.out
          have HVv3 : Hid (Below wr.heap.size wr (((v2.setCell ⟨gb, 0, none⟩ (.int .u64 (va : Int))).setCell ⟨gb, 1, none⟩ (.bool vb)).setCell ⟨gb, 2, none⟩ (.int .i64 vp))) := ((HVv2.out.setCell (p := ⟨gb, 0, none⟩) HZ.out _).setCell (p := ⟨gb, 1, none⟩) HZ.out _).setCell (p := ⟨gb, 2, none⟩) HZ.out _
          have HTv3 : Hid (RowAt (((v2.setCell ⟨gb, 0, none⟩ (.int .u64 (va : Int))).setCell ⟨gb, 1, none⟩ (.bool vb)).setCell ⟨gb, 2, none⟩ (.int .i64 vp)) gb 61 #[.int .u64 (va : Int), .bool vb, .int .i64 vp]) := ((HTv2.out.put 0 (.int .u64 (va : Int))).put 1 (.bool vb)).put 2 (.int .i64 vp)
          (refine wpOT_solo (o := ?_) ?_ ?_; rotate_left 1; (simp only [zA1, zA2, zA3]; with_reducible rfl))
          intro K hK
          go_simp
          refine hK.out _ _ HVv3.out ?_
          clear hK K
          (try simp only [Act.put, zA4, zA5, zA6])
          refine wpOT_done ?_
          generalize (((v2.setCell ⟨gb, 0, none⟩ (.int .u64 (va : Int))).setCell ⟨gb, 1, none⟩ (.bool vb)).setCell ⟨gb, 2, none⟩ (.int .i64 vp)) = v3 at *
          clear r0 r1 r2 z0 z1 z2 HTv2 HVv2
          have RAv3 := Lib.hid (RAr.out.below HVv3.out RAr.out.lt)
          have RNv3 := Lib.hid (RNr.out.below HVv3.out RNr.out.lt)
          have REv3 := Lib.hid (REr.out.below HVv3.out REr.out.lt)
          have RFv3 := Lib.hid (RFr.out.below HVv3.out RFr.out.lt)
          have ROv3 := Lib.hid (ROr.out.below HVv3.out ROr.out.lt)
          have HKv3 := Lib.hid ((HKr.out.below HVv3.out).mono HVv3.out.size)
          have HBv3 := Lib.hid (HBr.out.trans (HVv3.out.mono HBr.out.size))
          clear RAr RNr REr RFr ROr HKr HBr
          obtain ⟨t0, t1, t2, _, _, _⟩ := row3 HTv3.out
          cases vb with
          | true =>
            have HG : Hid (evV (.error vp) = G) := HBA.out vp (HV1.out rfl)
            go_upto_region 14 with fail
            obtain ⟨S, hSe⟩ : ∃ S : World → Prop, S = fun W => RowAt W gb 61 #[.int .u64 (va : Int), .bool true, .int .i64 vp] := ⟨_, rfl⟩
            have C1 : ∀ W, S W → W.cell? ⟨gb, 2, none⟩ = some (.int .i64 vp) := fun W h => by
               rw [hSe] at h
               exact (RowAt.cell h 2).trans rfl
            have hre := REv3.out.drew
            have hrf := RFv3.out.drew
            have hbb := HBv3.out.drew
            have hg2 : gb ≠ w.heap.size + 2 := by have := HGB.out; omega
            have hg3 : gb ≠ w.heap.size + 3 := by have := HGB.out; omega
            have HS : Hid (S v3.drew) := by
               show S v3.drew
               rw [hSe]
               exact HTv3.out.drew
            have hs1 : S (v3.drew.setRow (w.heap.size + 2) (uv (List.replicate 8 0))) := by
               rw [hSe]
               exact HTv3.out.drew.other (Else.setRow _ _ _) hg2
            have hs2 : S ((v3.drew.setRow (w.heap.size + 2) (uv (List.replicate 8 0))).setRow (w.heap.size + 3) #[.int .i64 4, .int .i64 vp]) := by
               rw [hSe]
               exact (HTv3.out.drew.other (Else.setRow _ _ _) hg2).other (Else.setRow _ _ _) hg3
            have hre1 := hre.setRow (uv (List.replicate 8 0))
            have hrf1 := hrf.other (Else.setRow v3.drew (w.heap.size + 2) (uv (List.replicate 8 0))) (by omega)
            have hre2 := hre1.other (Else.setRow (v3.drew.setRow (w.heap.size + 2) (uv (List.replicate 8 0))) (w.heap.size + 3) #[.int .i64 4, .int .i64 vp]) (by omega)
            have hrf2 := hrf1.setRow #[.int .i64 4, .int .i64 vp]
            have hb2 : Below w.heap.size w ((v3.drew.setRow (w.heap.size + 2) (uv (List.replicate 8 0))).setRow (w.heap.size + 3) #[.int .i64 4, .int .i64 vp]) := (hbb.trans ((Else.setRow _ _ _).below (by omega))).trans ((Else.setRow _ _ _).below (by omega))
            refine wp_region_ord S [(0, true), (1, true), (2, true), (3, true), (4, false), (5, false)] (by kernel_rfl) (by kernel_rfl) rfl (by kernel_rfl) HS.out ?_
            generalize v3.drew = V at *
            iterate 4
               (refine wpOrd_step (o := ?_) ?_ ?_; rotate_left 1; (simp only [zA1, zA2, zA3]; with_reducible rfl))
               (first
                  | (refine wpOrd_skip (by rfl) ?_)
                  | (refine wpOrd_take (v := ?_) (by rfl) ?_ ?_; rotate_left 1; (intro wx hSx; have hc_0 := C1 wx hSx; go_simp; try with_reducible rfl)))
               (try simp only [Act.put, zA4, zA5, zA6])
            refine wpOrd_store (o := ?_) ?ho7 ?hw7 34 ?ox7 ?oy7 ?hop7 (w.heap.size + 2) (uv (List.replicate 8 0)) ?hx7 ?hy7 34 (uv (List.replicate 8 0)) hre (einfo z8) ?hold7 (uv_one _) hs1 ?hh7
            case ho7 => (simp only [zA1, zA2, zA3]; with_reducible rfl)
            case hw7 => rfl
            case hop7 => rfl
            case hx7 => rfl
            case hy7 => rfl
            case hold7 => rfl
            (try simp only [Act.put, zA4, zA5, zA6])
            refine wpOrd_store (o := ?_) ?ho8 ?hw8 36 ?ox8 ?oy8 ?hop8 (w.heap.size + 3) #[.int .i64 4, .int .i64 vp] ?hx8 ?hy8 36 #[.int .i64 0, .int .i64 0] hrf1 (fault_info _ _) ?hold8 (by simp [Value.oneCell']) hs2 ?hh8
            case ho8 => (simp only [zA1, zA2, zA3]; with_reducible rfl)
            case hw8 => rfl
            case hop8 => rfl
            case hx8 => rfl
            case hy8 => rfl
            case hold8 => rfl
            (try simp only [Act.put, zA4, zA5, zA6])
            refine wpOrd_done ?_
            go_wp2_with fail
            exact bodyPost_ret (ret_cc rfl _ _ (w.heap.size + 2) (w.heap.size + 3) _ _ _ _ _ _ rfl rfl hre2 hrf2 Tryz.underlying34 rfl (einfo z8) Tryz.underlying36 rfl (fault_info _ _)) rfl ⟨by rw [← HG.out]; rfl, hb2⟩
          | false =>
            have HN := Lib.hid (HNXi.out va (HV2.out rfl))
            have HZ9 := Lib.hid (HZN.out va (HV2.out rfl))
            have hi8 : (i : Int) < 8 := by omega
            have hce : v3.cell? ⟨w.heap.size + 4, i, none⟩ = some (.int .u64 (x0 : Int)) := (ROv3.out.cell i).trans HCE.out
            have hfe := ROv3.out.free i
            have p5 := ROv3.out.put i (.int .u64 (va : Int))
            rw [HN.out] at p5
            have P5 := Lib.hid p5
            have hks := sl_else (g := w.heap.size + 4) HKv3.out (Else.setCell v3 ⟨w.heap.size + 4, i, none⟩ (.int .u64 (va : Int))) HKN.out
            have HK5 := Lib.hid (hks.mono (Nat.le_of_eq (Else.setCell v3 ⟨w.heap.size + 4, i, none⟩ (.int .u64 (va : Int))).size.symm))
            have RA5 := Lib.hid (RAv3.out.far (p := ⟨w.heap.size + 4, i, none⟩) (by show w.heap.size + 4 ≠ w.heap.size; omega) (.int .u64 (va : Int)))
            have RN5 := Lib.hid (RNv3.out.far (p := ⟨w.heap.size + 4, i, none⟩) (by show w.heap.size + 4 ≠ w.heap.size + 1; omega) (.int .u64 (va : Int)))
            have RE5 := Lib.hid (REv3.out.far (p := ⟨w.heap.size + 4, i, none⟩) (by show w.heap.size + 4 ≠ w.heap.size + 2; omega) (.int .u64 (va : Int)))
            have RF5 := Lib.hid (RFv3.out.far (p := ⟨w.heap.size + 4, i, none⟩) (by show w.heap.size + 4 ≠ w.heap.size + 3; omega) (.int .u64 (va : Int)))
            have HB5 := Lib.hid (HBv3.out.setCell (p := ⟨w.heap.size + 4, i, none⟩) (Nat.le_add_right _ _) (.int .u64 (va : Int)))
            clear p5 hks
            go_wp2_with fail
            go_roundw
            case rel => exact ⟨i + 1, by omega, by go_num, RA5, RN5, RE5, RF5, P5, HK5, HZ9, HB5⟩
            case measure => simp [intOf]; omega
        ·have ei : i = 1 := by omega
         have HGE := Lib.hid (HEND.out (ei ▸ HZr.out))
         have hew := HEW.out i
         have hro := ROr.out
         rw [← ei] at HGE
         have hin : ¬ ((i : Int) < (1 : Nat)) := by omega
         clear ei hlt
         go_wp2_with (first | (refine wpList_loadElem (by rfl) _ rfl (w.heap.size + 4) rfl _ hew hro ?_) | (refine wpList_storeElem (by rfl) _ _ rfl (w.heap.size + 2) rfl _ hew rfl _ z8 REr.out ?_; intro w7 q7 he; have HF7 := Lib.hid (RFr.out.other he (by omega)); have HB7 := Lib.hid (HBr.out.trans (he.below (by omega))); have HQ7 := Lib.hid q7; obtain ⟨f0, f1, z0, z1⟩ := row2 HF7.out))
         have hrow := (HF7.out.put 0 (.int .i64 0)).put 1 (.int .i64 0)
         have hrow2 := (HQ7.out.far (p := ⟨w.heap.size + 3, 0, none⟩) (by show w.heap.size + 3 ≠ w.heap.size + 2; omega) (.int .i64 0)).far (p := ⟨w.heap.size + 3, 1, none⟩) (by show w.heap.size + 3 ≠ w.heap.size + 2; omega) (.int .i64 0)
         exact bodyPost_ret (ret_cc rfl _ _ (w.heap.size + 2) (w.heap.size + 3) _ _ _ _ _ _ rfl rfl hrow2 hrow Tryz.underlying34 rfl (einfo hew) Tryz.underlying36 rfl (fault_info _ _)) rfl ⟨by rw [← HGE.out]; rfl, (HB7.out.setCell (p := ⟨w.heap.size + 3, 0, none⟩) (Nat.le_add_right _ _) _).setCell (p := ⟨w.heap.size + 3, 1, none⟩) (Nat.le_add_right _ _) _⟩
   case' true =>
       have HE2 := HE.out
       rw [if_pos (show (true && true) = true from rfl), if_pos (show true = true from rfl)] at HE2
       clear HE
       by_cases h4 : xk = 4
       ·have tb : (xk != 4) = false := by simp [h4]
        by_cases h5 : xz.length = nf
        ·rw [if_neg (by omega)] at HE2
         have HG : Hid (evV (elw fs xz) = G) := HE2.symm
         clear HE2 h4
         subst h5
         have HYL : Hid (xz.length = xz.length) := rfl
         have HYN : Hid (∀ y ∈ xz, Nods w w.heap.size [y] ∧ TM.cnt [y] ≤ 2147483648) := fun y hy => by
          have h7 := cnt_mem hy
          have h8 : TM.cnt [y] = 1 + y.ws.length + TM.cnt y.ks + TM.cnt [] := TM.cnt_cons y []
          have h9 : TM.cnt ([] : List Nd) = 0 := by rw [TM.cnt]
          have hq : TM.cnt [Nd.mk xk xp xs xA xc xw xB xd xz] = 1 + xw.length + TM.cnt xz + TM.cnt [] := TM.cnt_cons _ _
          exact ⟨Nods.mem (l := xz) hx.kids hy, by omega⟩
         have hs0 : Sl w w.heap.size xB (ncs xz) := hx.at.2.1
         clear HSL
         have HSL : Hid (Sl w4 w4.heap.size xB (ncs xz)) := (hs0.below HB4.out).mono HB4.out.size
         have HKN : Hid (∀ b o, xB = some ⟨b, o, none⟩ → b ≠ w.heap.size + 4) := fun b o e => by
          obtain ⟨b2, o2, e2, hlt, _⟩ := sl_at (z := n0) ncells_length hs0 (k := 0) (by omega) (by omega)
          rw [e2] at e
          injection e with e
          injection e with e _ _
          omega
         clear hs0
         have HWC : Hid (∀ j, j < xz.length → ∀ W, Below w.heap.size w W → Calls Tryz.prog 25 #[.agg (fv (fs.getD j f0)), .agg (nv (xz.getD j n0))] W fun e w' => e = .returned (.agg (gv (wordC (fs.getD j f0) (xz.getD j n0)))) ∧ Below W.heap.size W w') := fun j hj W h => by
          have hjf : j < fs.length := by rw [HNF.out]; exact hj
          have hjy : j < xz.length := by rw [HYL.out]; exact hj
          have hfo := ((hF.below h).okAt hjf)
          have hm := HYN.out _ (getD_memL (z := n0) hjy)
          exact qwordC_any _ _ W hfo (by have := HFL.out j hjf; omega) ((hm.1.below h).mono h.size) (by omega)
         have HRG : Hid (∀ j, j < xz.length → ∀ W, Below w.heap.size w W → W.rangeAt ab (ao + j * 67) (fcells (fs.getD j f0))) := fun j hj W h => (hF.below h).rng (by rw [HNF.out]; exact hj)
         have HRW : Hid (∀ j, j < xz.length → RW (fs.getD j f0).l) := fun j hj => (hF.okAt (by rw [HNF.out]; exact hj)).rows
         have HEND : Hid ((∀ j, j < xz.length → (erW (wordC (fs.getD j f0) (xz.getD j n0))).isSome = false) → .tuple #[.agg (uv (sdTo (fun j => okW (wordC (fs.getD j f0) (xz.getD j n0))) 8 xz.length)), .agg #[.int .i64 0, .int .i64 0]] = G) := fun h => by
          rw [← HG.out]
          unfold elw
          rw [find_range_no (by rw [HYL.out]; exact h), HYL.out]; rfl
         have HBAD : Hid (∀ i p, i < xz.length → (∀ j, j < i → (erW (wordC (fs.getD j f0) (xz.getD j n0))).isSome = false) → wordC (fs.getD i f0) (xz.getD i n0) = .error p → evV (.error p) = G) := fun i p hi h hp => by
          rw [← HG.out]
          unfold elw
          rw [find_range_hit (by rw [HYL.out]; exact hi) h (by rw [hp]; rfl)]
          simp only [hp, erW]; rfl
         have HEW : Hid (∀ k, EW (sdTo (fun j => okW (wordC (fs.getD j f0) (xz.getD j n0))) 8 k)) := sdTo_ew fun j => okW_lt _ _
         have HZ0 : Hid (sdTo (fun j => okW (wordC (fs.getD j f0) (xz.getD j n0))) 8 0 = List.replicate 8 0) := sdTo_zero _ 8
         have HNX : Hid (∀ k v, wordC (fs.getD k f0) (xz.getD k n0) = .ok v → (uv (sdTo (fun j => okW (wordC (fs.getD j f0) (xz.getD j n0))) 8 k)).setIfInBounds k (.int .u64 (v : Int)) = uv (sdTo (fun j => okW (wordC (fs.getD j f0) (xz.getD j n0))) 8 (k + 1))) := fun k v hv => by
          have h1 : okW (wordC (fs.getD k f0) (xz.getD k n0)) = v := by rw [hv]; rfl
          rw [uv_set, ← sdTo_set]
          simp only [h1]
         have HKY : Hid (∀ W, Sl W W.heap.size xB (ncs xz) → ∀ i, i < xz.length → ∃ kb ko, xB = some ⟨kb, ko, none⟩ ∧ kb < W.heap.size ∧ (W.cell? ⟨kb, ko + i * 5, none⟩ = some (.int .i64 (xz.getD i n0).k) ∧ W.cell? ⟨kb, ko + i * 5 + 1, none⟩ = some (.int .i64 (xz.getD i n0).p) ∧ W.cell? ⟨kb, ko + i * 5 + 2, none⟩ = some (.string (xz.getD i n0).s) ∧ W.cell? ⟨kb, ko + i * 5 + 3, none⟩ = some (.slice (xz.getD i n0).A (xz.getD i n0).ws.length (xz.getD i n0).c) ∧ W.cell? ⟨kb, ko + i * 5 + 4, none⟩ = some (.slice (xz.getD i n0).B (xz.getD i n0).ks.length (xz.getD i n0).d))) := fun W h i hi => by
          obtain ⟨kb, ko, h1, h2, hc⟩ := sl_at (z := n0) ncells_length h (k := i) (by rw [HYL.out]; exact hi) (by omega)
          have q0 := hc i 0 _ (by rw [HYL.out]; exact hi) (by omega) rfl
          rw [Nat.add_zero] at q0
          refine ⟨kb, ko, h1, h2, q0, ?_, ?_, ?_, ?_⟩
          ·rw [Nat.add_assoc]; exact hc i 1 _ (by rw [HYL.out]; exact hi) (by omega) rfl
          ·rw [Nat.add_assoc]; exact hc i 2 _ (by rw [HYL.out]; exact hi) (by omega) rfl
          ·rw [Nat.add_assoc]; exact hc i 3 _ (by rw [HYL.out]; exact hi) (by omega) rfl
          ·rw [Nat.add_assoc]; exact hc i 4 _ (by rw [HYL.out]; exact hi) (by omega) rfl
         have HKS := Lib.hid (HSL.out)
         clear HYN HFL HSL HYL HG
         generalize hWC : (fun j => wordC (fs.getD j f0) (xz.getD j n0)) = WC at *
         have HWE : Hid (∀ j, wordC (fs.getD j f0) (xz.getD j n0) = WC j) := fun j => by rw [← hWC]
         clear hWC
         simp only [HWE.out] at HWC HEND HBAD HEW HZ0 HNX
         generalize sdTo (fun j => okW (WC j)) 8 = GG at *
         go_wp2_with fail
         go_loopw [8] (fun iv wr => ∃ i : Nat, i ≤ xz.length ∧ iv = .int .i64 i ∧ Hid (RowAt wr w.heap.size 24 (sv true (some ⟨ab, ao, none⟩) xz.length c)) ∧ Hid (RowAt wr (w.heap.size + 1) 28 #[.int .i64 xk, .int .i64 xp, .string xs, .slice xA xw.length xc, .slice xB xz.length xd]) ∧ Hid (RowAt wr (w.heap.size + 2) 34 (uv (List.replicate 8 0))) ∧ Hid (RowAt wr (w.heap.size + 3) 36 #[.int .i64 0, .int .i64 0]) ∧ Hid (RowAt wr (w.heap.size + 4) 34 (uv (GG i))) ∧ Hid (Sl wr wr.heap.size xB (ncs xz)) ∧ Hid (∀ j, j < i → (erW (WC j)).isSome = false) ∧ Hid (Below w.heap.size w wr)) (fun iv _ => xz.length - (intOf iv).toNat)
         case atStart => exact ⟨0, by omega, rfl, RA4, RN4, RE4, RF4, by rw [HZ0.out]; exact RO4, HKS, fun j hj => by omega, HB4⟩
         case round =>
          clear RA4 RN4 RE4 RF4 RO4 HB4 HKS HZ0 c0 c1 x0 x1 x2 x3 x4
          obtain ⟨i, hi, rfl, RAr, RNr, REr, RFr, ROr, HKr, HZr, HBr⟩ := hrel
          obtain ⟨c0, c1⟩ := HSH.out _ RAr.out
          by_cases hlt : i < xz.length
          ·obtain ⟨kb, ko, hkb, hkl, q0, q1, q2, q3, q4⟩ := HKY.out wr HKr.out i hlt
           have hin : (i : Int) < (xz.length : Nat) := by omega
           have HWI := Lib.hid (HWC.out i hlt)
           have hl := HRW.out i hlt
           have HBA := Lib.hid (fun p => HBAD.out i p hlt HZr.out)
           have HNXi := Lib.hid (HNX.out i)
           have HZN : Hid (∀ v, WC i = .ok v → ∀ j, j < i + 1 → (erW (WC j)).isSome = false) := fun v hv j hj => by
                by_cases e : j = i
                ·rw [e, hv]; rfl
                ·exact HZr.out j (by omega)
           have pF0 := fun W (h : Below wr.heap.size wr W) => HRG.out i hlt W (HBr.out.trans (h.mono HBr.out.size))
           generalize hPP : WC i = P at *
           clear hPP
           generalize fs.getD i f0 = f at *
           generalize xz.getD i n0 = y at *
           obtain ⟨yk, yp, ys9, yA, yc, yw, yB, yd, yz⟩ := y
           unfold nv at HWI
           simp only [Nd.k, Nd.p, Nd.s, Nd.A, Nd.c, Nd.ws, Nd.B, Nd.d, Nd.ks] at q0 q1 q2 q3 q4 HWI
           obtain ⟨va, vb, vp, hgv, hv1, hv2⟩ := gv_cases P
           simp only [hgv] at HWI
           have HV1 := Lib.hid hv1
           have HV2 := Lib.hid hv2
           clear hgv hv1 hv2
           have HCE := Lib.hid (ev_at (HEW.out i) i (by omega))
           generalize (GG i).getD i 0 = x0 at HCE
           have HVV : Hid (Below wr.heap.size wr wr.drew) := (Below.refl _ _).drew
           have C1 : ∀ W, Below wr.heap.size wr W → W.cell? ⟨w.heap.size, 1, none⟩ = some (.slice (some ⟨ab, ao, none⟩) xz.length c) := fun W h => (HSH.out _ (RAr.out.below h RAr.out.lt)).2
           have P0 : ∀ W, Below wr.heap.size wr W → W.cell? ⟨kb, ko + i * 5, none⟩ = some (.int .i64 yk) := fun W h => (below_cell h hkl).trans q0
           have P1 : ∀ W, Below wr.heap.size wr W → W.cell? ⟨kb, ko + i * 5 + 1, none⟩ = some (.int .i64 yp) := fun W h => (below_cell h hkl).trans q1
           have P2 : ∀ W, Below wr.heap.size wr W → W.cell? ⟨kb, ko + i * 5 + 2, none⟩ = some (.string ys9) := fun W h => (below_cell h hkl).trans q2
           have P3 : ∀ W, Below wr.heap.size wr W → W.cell? ⟨kb, ko + i * 5 + 3, none⟩ = some (.slice yA yw.length yc) := fun W h => (below_cell h hkl).trans q3
           have P4 : ∀ W, Below wr.heap.size wr W → W.cell? ⟨kb, ko + i * 5 + 4, none⟩ = some (.slice yB yz.length yd) := fun W h => (below_cell h hkl).trans q4
           clear q0 q1 q2 q3 q4 c0 c1
           subst hkb
           try simp only [Nat.zero_add] at P0 P1 P2 P3 P4
           go_wp2_with fail
           refine wp_region_ot (fun w' => Below wr.heap.size wr w') (.take 0 (.take 1 (.take 2 (.take 3 (.take 4 (.take 5 (.take 6 (.take 7 (.take 8 (.two 9 (.solo 10 (.solo 11 .nil)) 10 (.solo 9 (.solo 11 .nil)))))))))))) (by kernel_rfl) (by kernel_rfl) rfl (by kernel_rfl) HVV.out ?_
           generalize wr.drew = V at HVV ⊢
           iterate 9
                (refine wpOT_step (o := ?_) ?_ ?_; rotate_left 1; (simp only [zA1, zA2, zA3]; with_reducible rfl))
                (first
                 | (refine wpOT_skip (by rfl) ?_)
                 | (refine wpOT_take (by rfl) (take_loadFacIn _ rfl _ _ rfl _ hl pF0) ?_)
                 | (refine wpOT_take (v := ?_) (by rfl) ?_ ?_; rotate_left 1; (intro wx hSx; have hc_0 := C1 wx hSx; have hc_1 := P0 wx hSx; have hc_2 := P1 wx hSx; have hc_3 := P2 wx hSx; have hc_4 := P3 wx hSx; have hc_5 := P4 wx hSx; go_simp; try with_reducible rfl)))
                (try simp only [Act.put, zA4, zA5, zA6])
           clear C1 P0 P1 P2 P3 P4 pF0
           refine wpOT_two ?_ ?_
           ·(refine wpOT_solo (o := ?_) ?_ ?_; rotate_left 1; (simp only [zA1, zA2, zA3]; with_reducible rfl))
            intro K hK
            go_simp
            go_at_call 25
            refine (HWI.out V (HBr.out.trans (HVV.out.mono HBr.out.size))).mono ?_
            rintro e v1 ⟨rfl, hb⟩
            have HVv1 := Lib.hid (HVV.out.trans (hb.mono HVV.out.size))
            clear hb
            refine hK.out _ _ HVv1.out ?_
            clear hK K
            (try simp only [Act.put, zA4, zA5, zA6])
            (refine wpOT_solo (o := ?_) ?_ ?_; rotate_left 1; (simp only [zA1, zA2, zA3]; with_reducible rfl))
            intro K hK
            go_simp
            have HVv2 := Lib.hid (HVv1.out.alloc HVv1.out.size (.cells #[.int .u64 0, .bool false, .int .i64 0] 61))
            have HTv2 := Lib.hid (RowAt.new v1 61 #[.int .u64 0, .bool false, .int .i64 0])
            have HZ := Lib.hid HVv1.out.size
            refine hK.out _ _ HVv2.out ?_
            clear hK K
            (try simp only [Act.put, zA4, zA5, zA6])
            generalize hgb : v1.heap.size = gb at *
            generalize (v1.alloc (.cells #[.int .u64 0, .bool false, .int .i64 0] 61)) = v2 at *
            clear hgb
            have HGB := Lib.hid (Nat.lt_of_lt_of_le ROr.out.lt HZ.out)
            obtain ⟨r0, r1, r2, z0, z1, z2⟩ := row3 HTv2.out
            have HVv3 : Hid (Below wr.heap.size wr (((v2.setCell ⟨gb, 0, none⟩ (.int .u64 (va : Int))).setCell ⟨gb, 1, none⟩ (.bool vb)).setCell ⟨gb, 2, none⟩ (.int .i64 vp))) := ((HVv2.out.setCell (p := ⟨gb, 0, none⟩) HZ.out _).setCell (p := ⟨gb, 1, none⟩) HZ.out _).setCell (p := ⟨gb, 2, none⟩) HZ.out _
            have HTv3 : Hid (RowAt (((v2.setCell ⟨gb, 0, none⟩ (.int .u64 (va : Int))).setCell ⟨gb, 1, none⟩ (.bool vb)).setCell ⟨gb, 2, none⟩ (.int .i64 vp)) gb 61 #[.int .u64 (va : Int), .bool vb, .int .i64 vp]) := ((HTv2.out.put 0 (.int .u64 (va : Int))).put 1 (.bool vb)).put 2 (.int .i64 vp)
            (refine wpOT_solo (o := ?_) ?_ ?_; rotate_left 1; (simp only [zA1, zA2, zA3]; with_reducible rfl))
            intro K hK
            go_simp
            refine hK.out _ _ HVv3.out ?_
            clear hK K
            (try simp only [Act.put, zA4, zA5, zA6])
            refine wpOT_done ?_
            generalize (((v2.setCell ⟨gb, 0, none⟩ (.int .u64 (va : Int))).setCell ⟨gb, 1, none⟩ (.bool vb)).setCell ⟨gb, 2, none⟩ (.int .i64 vp)) = v3 at *
            clear r0 r1 r2 z0 z1 z2 HTv2 HVv2
            have RAv3 := Lib.hid (RAr.out.below HVv3.out RAr.out.lt)
            have RNv3 := Lib.hid (RNr.out.below HVv3.out RNr.out.lt)
            have REv3 := Lib.hid (REr.out.below HVv3.out REr.out.lt)
            have RFv3 := Lib.hid (RFr.out.below HVv3.out RFr.out.lt)
            have ROv3 := Lib.hid (ROr.out.below HVv3.out ROr.out.lt)
            have HKv3 := Lib.hid ((HKr.out.below HVv3.out).mono HVv3.out.size)
            have HBv3 := Lib.hid (HBr.out.trans (HVv3.out.mono HBr.out.size))
            clear RAr RNr REr RFr ROr HKr HBr
            obtain ⟨t0, t1, t2, _, _, _⟩ := row3 HTv3.out
            cases vb with
            | true =>
              have HG : Hid (evV (.error vp) = G) := HBA.out vp (HV1.out rfl)
              go_upto_region 14 with fail
              obtain ⟨S, hSe⟩ : ∃ S : World → Prop, S = fun W => RowAt W gb 61 #[.int .u64 (va : Int), .bool true, .int .i64 vp] := ⟨_, rfl⟩
              have C1 : ∀ W, S W → W.cell? ⟨gb, 2, none⟩ = some (.int .i64 vp) := fun W h => by
               rw [hSe] at h
               exact (RowAt.cell h 2).trans rfl
              have hre := REv3.out.drew
              have hrf := RFv3.out.drew
              have hbb := HBv3.out.drew
              have hg2 : gb ≠ w.heap.size + 2 := by have := HGB.out; omega
              have hg3 : gb ≠ w.heap.size + 3 := by have := HGB.out; omega
              have HS : Hid (S v3.drew) := by
               show S v3.drew
               rw [hSe]
               exact HTv3.out.drew
              have hs1 : S (v3.drew.setRow (w.heap.size + 2) (uv (List.replicate 8 0))) := by
               rw [hSe]
               exact HTv3.out.drew.other (Else.setRow _ _ _) hg2
              have hs2 : S ((v3.drew.setRow (w.heap.size + 2) (uv (List.replicate 8 0))).setRow (w.heap.size + 3) #[.int .i64 4, .int .i64 vp]) := by
               rw [hSe]
               exact (HTv3.out.drew.other (Else.setRow _ _ _) hg2).other (Else.setRow _ _ _) hg3
              have hre1 := hre.setRow (uv (List.replicate 8 0))
              have hrf1 := hrf.other (Else.setRow v3.drew (w.heap.size + 2) (uv (List.replicate 8 0))) (by omega)
              have hre2 := hre1.other (Else.setRow (v3.drew.setRow (w.heap.size + 2) (uv (List.replicate 8 0))) (w.heap.size + 3) #[.int .i64 4, .int .i64 vp]) (by omega)
              have hrf2 := hrf1.setRow #[.int .i64 4, .int .i64 vp]
              have hb2 : Below w.heap.size w ((v3.drew.setRow (w.heap.size + 2) (uv (List.replicate 8 0))).setRow (w.heap.size + 3) #[.int .i64 4, .int .i64 vp]) := (hbb.trans ((Else.setRow _ _ _).below (by omega))).trans ((Else.setRow _ _ _).below (by omega))
              refine wp_region_ord S [(0, true), (1, true), (2, true), (3, true), (4, false), (5, false)] (by kernel_rfl) (by kernel_rfl) rfl (by kernel_rfl) HS.out ?_
              generalize v3.drew = V at *
              iterate 4
               (refine wpOrd_step (o := ?_) ?_ ?_; rotate_left 1; (simp only [zA1, zA2, zA3]; with_reducible rfl))
               (first
                    | (refine wpOrd_skip (by rfl) ?_)
                    | (refine wpOrd_take (v := ?_) (by rfl) ?_ ?_; rotate_left 1; (intro wx hSx; have hc_0 := C1 wx hSx; go_simp; try with_reducible rfl)))
               (try simp only [Act.put, zA4, zA5, zA6])
              refine wpOrd_store (o := ?_) ?ho9 ?hw9 34 ?ox9 ?oy9 ?hop9 (w.heap.size + 2) (uv (List.replicate 8 0)) ?hx9 ?hy9 34 (uv (List.replicate 8 0)) hre (einfo z8) ?hold9 (uv_one _) hs1 ?hh9
              case ho9 => (simp only [zA1, zA2, zA3]; with_reducible rfl)
              case hw9 => rfl
              case hop9 => rfl
              case hx9 => rfl
              case hy9 => rfl
              case hold9 => rfl
              (try simp only [Act.put, zA4, zA5, zA6])
              refine wpOrd_store (o := ?_) ?ho10 ?hw10 36 ?ox10 ?oy10 ?hop10 (w.heap.size + 3) #[.int .i64 4, .int .i64 vp] ?hx10 ?hy10 36 #[.int .i64 0, .int .i64 0] hrf1 (fault_info _ _) ?hold10 (by simp [Value.oneCell']) hs2 ?hh10
              case ho10 => (simp only [zA1, zA2, zA3]; with_reducible rfl)
              case hw10 => rfl
              case hop10 => rfl
              case hx10 => rfl
              case hy10 => rfl
              case hold10 => rfl
              (try simp only [Act.put, zA4, zA5, zA6])
              refine wpOrd_done ?_
              go_wp2_with fail
              exact bodyPost_ret (ret_cc rfl _ _ (w.heap.size + 2) (w.heap.size + 3) _ _ _ _ _ _ rfl rfl hre2 hrf2 Tryz.underlying34 rfl (einfo z8) Tryz.underlying36 rfl (fault_info _ _)) rfl ⟨by rw [← HG.out]; rfl, hb2⟩
            | false =>
              have HN := Lib.hid (HNXi.out va (HV2.out rfl))
              have HZ9 := Lib.hid (HZN.out va (HV2.out rfl))
              have hi8 : (i : Int) < 8 := by omega
              have hce : v3.cell? ⟨w.heap.size + 4, i, none⟩ = some (.int .u64 (x0 : Int)) := (ROv3.out.cell i).trans HCE.out
              have hfe := ROv3.out.free i
              have p5 := ROv3.out.put i (.int .u64 (va : Int))
              rw [HN.out] at p5
              have P5 := Lib.hid p5
              have hks := sl_else (g := w.heap.size + 4) HKv3.out (Else.setCell v3 ⟨w.heap.size + 4, i, none⟩ (.int .u64 (va : Int))) HKN.out
              have HK5 := Lib.hid (hks.mono (Nat.le_of_eq (Else.setCell v3 ⟨w.heap.size + 4, i, none⟩ (.int .u64 (va : Int))).size.symm))
              have RA5 := Lib.hid (RAv3.out.far (p := ⟨w.heap.size + 4, i, none⟩) (by show w.heap.size + 4 ≠ w.heap.size; omega) (.int .u64 (va : Int)))
              have RN5 := Lib.hid (RNv3.out.far (p := ⟨w.heap.size + 4, i, none⟩) (by show w.heap.size + 4 ≠ w.heap.size + 1; omega) (.int .u64 (va : Int)))
              have RE5 := Lib.hid (REv3.out.far (p := ⟨w.heap.size + 4, i, none⟩) (by show w.heap.size + 4 ≠ w.heap.size + 2; omega) (.int .u64 (va : Int)))
              have RF5 := Lib.hid (RFv3.out.far (p := ⟨w.heap.size + 4, i, none⟩) (by show w.heap.size + 4 ≠ w.heap.size + 3; omega) (.int .u64 (va : Int)))
              have HB5 := Lib.hid (HBv3.out.setCell (p := ⟨w.heap.size + 4, i, none⟩) (Nat.le_add_right _ _) (.int .u64 (va : Int)))
              clear p5 hks
              go_wp2_with fail
              go_roundw
              case rel => exact ⟨i + 1, by omega, by go_num, RA5, RN5, RE5, RF5, P5, HK5, HZ9, HB5⟩
              case measure => simp [intOf]; omega
           ·(refine wpOT_solo (o := ?_) ?_ ?_; rotate_left 1; (simp only [zA1, zA2, zA3]; with_reducible rfl))
            intro K hK
            go_simp
            have HVv1 := Lib.hid (HVV.out.alloc HVV.out.size (.cells #[.int .u64 0, .bool false, .int .i64 0] 61))
            have HTv1 := Lib.hid (RowAt.new V 61 #[.int .u64 0, .bool false, .int .i64 0])
            have HZ := Lib.hid HVV.out.size
            refine hK.out _ _ HVv1.out ?_
            clear hK K
            (try simp only [Act.put, zA4, zA5, zA6])
            generalize hgb : V.heap.size = gb at *
            generalize (V.alloc (.cells #[.int .u64 0, .bool false, .int .i64 0] 61)) = v1 at *
            clear hgb
            have HGB := Lib.hid (Nat.lt_of_lt_of_le ROr.out.lt HZ.out)
            (refine wpOT_solo (o := ?_) ?_ ?_; rotate_left 1; (simp only [zA1, zA2, zA3]; with_reducible rfl))
            intro K hK
            go_simp
            go_at_call 25
            refine (HWI.out v1 (HBr.out.trans (HVv1.out.mono HBr.out.size))).mono ?_
            rintro e v2 ⟨rfl, hb⟩
            have HVv2 := Lib.hid (HVv1.out.trans (hb.mono HVv1.out.size))
            have HTv2 := Lib.hid (HTv1.out.below hb HTv1.out.lt)
            clear hb
            refine hK.out _ _ HVv2.out ?_
            clear hK K
            (try simp only [Act.put, zA4, zA5, zA6])
            obtain ⟨r0, r1, r2, z0, z1, z2⟩ := row3 HTv2.out
            have HVv3 : Hid (Below wr.heap.size wr (((v2.setCell ⟨gb, 0, none⟩ (.int .u64 (va : Int))).setCell ⟨gb, 1, none⟩ (.bool vb)).setCell ⟨gb, 2, none⟩ (.int .i64 vp))) := ((HVv2.out.setCell (p := ⟨gb, 0, none⟩) HZ.out _).setCell (p := ⟨gb, 1, none⟩) HZ.out _).setCell (p := ⟨gb, 2, none⟩) HZ.out _
            have HTv3 : Hid (RowAt (((v2.setCell ⟨gb, 0, none⟩ (.int .u64 (va : Int))).setCell ⟨gb, 1, none⟩ (.bool vb)).setCell ⟨gb, 2, none⟩ (.int .i64 vp)) gb 61 #[.int .u64 (va : Int), .bool vb, .int .i64 vp]) := ((HTv2.out.put 0 (.int .u64 (va : Int))).put 1 (.bool vb)).put 2 (.int .i64 vp)
            (refine wpOT_solo (o := ?_) ?_ ?_; rotate_left 1; (simp only [zA1, zA2, zA3]; with_reducible rfl))
            intro K hK
            go_simp
            refine hK.out _ _ HVv3.out ?_
            clear hK K
            (try simp only [Act.put, zA4, zA5, zA6])
            refine wpOT_done ?_
            generalize (((v2.setCell ⟨gb, 0, none⟩ (.int .u64 (va : Int))).setCell ⟨gb, 1, none⟩ (.bool vb)).setCell ⟨gb, 2, none⟩ (.int .i64 vp)) = v3 at *
            clear r0 r1 r2 z0 z1 z2 HTv2 HVv2
            have RAv3 := Lib.hid (RAr.out.below HVv3.out RAr.out.lt)
            have RNv3 := Lib.hid (RNr.out.below HVv3.out RNr.out.lt)
            have REv3 := Lib.hid (REr.out.below HVv3.out REr.out.lt)
            have RFv3 := Lib.hid (RFr.out.below HVv3.out RFr.out.lt)
            have ROv3 := Lib.hid (ROr.out.below HVv3.out ROr.out.lt)
            have HKv3 := Lib.hid ((HKr.out.below HVv3.out).mono HVv3.out.size)
            have HBv3 := Lib.hid (HBr.out.trans (HVv3.out.mono HBr.out.size))
            clear RAr RNr REr RFr ROr HKr HBr
            obtain ⟨t0, t1, t2, _, _, _⟩ := row3 HTv3.out
            cases vb with
            | true =>
              have HG : Hid (evV (.error vp) = G) := HBA.out vp (HV1.out rfl)
              go_upto_region 14 with fail
              obtain ⟨S, hSe⟩ : ∃ S : World → Prop, S = fun W => RowAt W gb 61 #[.int .u64 (va : Int), .bool true, .int .i64 vp] := ⟨_, rfl⟩
              have C1 : ∀ W, S W → W.cell? ⟨gb, 2, none⟩ = some (.int .i64 vp) := fun W h => by
               rw [hSe] at h
               exact (RowAt.cell h 2).trans rfl
              have hre := REv3.out.drew
              have hrf := RFv3.out.drew
              have hbb := HBv3.out.drew
              have hg2 : gb ≠ w.heap.size + 2 := by have := HGB.out; omega
              have hg3 : gb ≠ w.heap.size + 3 := by have := HGB.out; omega
              have HS : Hid (S v3.drew) := by
               show S v3.drew
               rw [hSe]
               exact HTv3.out.drew
              have hs1 : S (v3.drew.setRow (w.heap.size + 2) (uv (List.replicate 8 0))) := by
               rw [hSe]
               exact HTv3.out.drew.other (Else.setRow _ _ _) hg2
              have hs2 : S ((v3.drew.setRow (w.heap.size + 2) (uv (List.replicate 8 0))).setRow (w.heap.size + 3) #[.int .i64 4, .int .i64 vp]) := by
               rw [hSe]
               exact (HTv3.out.drew.other (Else.setRow _ _ _) hg2).other (Else.setRow _ _ _) hg3
              have hre1 := hre.setRow (uv (List.replicate 8 0))
              have hrf1 := hrf.other (Else.setRow v3.drew (w.heap.size + 2) (uv (List.replicate 8 0))) (by omega)
              have hre2 := hre1.other (Else.setRow (v3.drew.setRow (w.heap.size + 2) (uv (List.replicate 8 0))) (w.heap.size + 3) #[.int .i64 4, .int .i64 vp]) (by omega)
              have hrf2 := hrf1.setRow #[.int .i64 4, .int .i64 vp]
              have hb2 : Below w.heap.size w ((v3.drew.setRow (w.heap.size + 2) (uv (List.replicate 8 0))).setRow (w.heap.size + 3) #[.int .i64 4, .int .i64 vp]) := (hbb.trans ((Else.setRow _ _ _).below (by omega))).trans ((Else.setRow _ _ _).below (by omega))
              refine wp_region_ord S [(0, true), (1, true), (2, true), (3, true), (4, false), (5, false)] (by kernel_rfl) (by kernel_rfl) rfl (by kernel_rfl) HS.out ?_
              generalize v3.drew = V at *
              iterate 4
               (refine wpOrd_step (o := ?_) ?_ ?_; rotate_left 1; (simp only [zA1, zA2, zA3]; with_reducible rfl))
               (first
                    | (refine wpOrd_skip (by rfl) ?_)
                    | (refine wpOrd_take (v := ?_) (by rfl) ?_ ?_; rotate_left 1; (intro wx hSx; have hc_0 := C1 wx hSx; go_simp; try with_reducible rfl)))
               (try simp only [Act.put, zA4, zA5, zA6])
              refine wpOrd_store (o := ?_) ?ho11 ?hw11 34 ?ox11 ?oy11 ?hop11 (w.heap.size + 2) (uv (List.replicate 8 0)) ?hx11 ?hy11 34 (uv (List.replicate 8 0)) hre (einfo z8) ?hold11 (uv_one _) hs1 ?hh11
              case ho11 => (simp only [zA1, zA2, zA3]; with_reducible rfl)
              case hw11 => rfl
              case hop11 => rfl
              case hx11 => rfl
              case hy11 => rfl
              case hold11 => rfl
              (try simp only [Act.put, zA4, zA5, zA6])
              refine wpOrd_store (o := ?_) ?ho12 ?hw12 36 ?ox12 ?oy12 ?hop12 (w.heap.size + 3) #[.int .i64 4, .int .i64 vp] ?hx12 ?hy12 36 #[.int .i64 0, .int .i64 0] hrf1 (fault_info _ _) ?hold12 (by simp [Value.oneCell']) hs2 ?hh12
              case ho12 => (simp only [zA1, zA2, zA3]; with_reducible rfl)
              case hw12 => rfl
              case hop12 => rfl
              case hx12 => rfl
              case hy12 => rfl
              case hold12 => rfl
              (try simp only [Act.put, zA4, zA5, zA6])
              refine wpOrd_done ?_
              go_wp2_with fail
              exact bodyPost_ret (ret_cc rfl _ _ (w.heap.size + 2) (w.heap.size + 3) _ _ _ _ _ _ rfl rfl hre2 hrf2 Tryz.underlying34 rfl (einfo z8) Tryz.underlying36 rfl (fault_info _ _)) rfl ⟨by rw [← HG.out]; rfl, hb2⟩
            | false =>
              have HN := Lib.hid (HNXi.out va (HV2.out rfl))
              have HZ9 := Lib.hid (HZN.out va (HV2.out rfl))
              have hi8 : (i : Int) < 8 := by omega
              have hce : v3.cell? ⟨w.heap.size + 4, i, none⟩ = some (.int .u64 (x0 : Int)) := (ROv3.out.cell i).trans HCE.out
              have hfe := ROv3.out.free i
              have p5 := ROv3.out.put i (.int .u64 (va : Int))
              rw [HN.out] at p5
              have P5 := Lib.hid p5
              have hks := sl_else (g := w.heap.size + 4) HKv3.out (Else.setCell v3 ⟨w.heap.size + 4, i, none⟩ (.int .u64 (va : Int))) HKN.out
              have HK5 := Lib.hid (hks.mono (Nat.le_of_eq (Else.setCell v3 ⟨w.heap.size + 4, i, none⟩ (.int .u64 (va : Int))).size.symm))
              have RA5 := Lib.hid (RAv3.out.far (p := ⟨w.heap.size + 4, i, none⟩) (by show w.heap.size + 4 ≠ w.heap.size; omega) (.int .u64 (va : Int)))
              have RN5 := Lib.hid (RNv3.out.far (p := ⟨w.heap.size + 4, i, none⟩) (by show w.heap.size + 4 ≠ w.heap.size + 1; omega) (.int .u64 (va : Int)))
              have RE5 := Lib.hid (REv3.out.far (p := ⟨w.heap.size + 4, i, none⟩) (by show w.heap.size + 4 ≠ w.heap.size + 2; omega) (.int .u64 (va : Int)))
              have RF5 := Lib.hid (RFv3.out.far (p := ⟨w.heap.size + 4, i, none⟩) (by show w.heap.size + 4 ≠ w.heap.size + 3; omega) (.int .u64 (va : Int)))
              have HB5 := Lib.hid (HBv3.out.setCell (p := ⟨w.heap.size + 4, i, none⟩) (Nat.le_add_right _ _) (.int .u64 (va : Int)))
              clear p5 hks
              go_wp2_with fail
              go_roundw
              case rel => exact ⟨i + 1, by omega, by go_num, RA5, RN5, RE5, RF5, P5, HK5, HZ9, HB5⟩
              case measure => simp [intOf]; omega
          ·have ei : i = xz.length := by omega
           have HGE := Lib.hid (HEND.out (ei ▸ HZr.out))
           have hew := HEW.out i
           have hro := ROr.out
           rw [← ei] at HGE
           have hin : ¬ ((i : Int) < (xz.length : Nat)) := by omega
           clear ei hlt
           go_wp2_with (first | (refine wpList_loadElem (by rfl) _ rfl (w.heap.size + 4) rfl _ hew hro ?_) | (refine wpList_storeElem (by rfl) _ _ rfl (w.heap.size + 2) rfl _ hew rfl _ z8 REr.out ?_; intro w7 q7 he; have HF7 := Lib.hid (RFr.out.other he (by omega)); have HB7 := Lib.hid (HBr.out.trans (he.below (by omega))); have HQ7 := Lib.hid q7; obtain ⟨f0, f1, z0, z1⟩ := row2 HF7.out))
           have hrow := (HF7.out.put 0 (.int .i64 0)).put 1 (.int .i64 0)
           have hrow2 := (HQ7.out.far (p := ⟨w.heap.size + 3, 0, none⟩) (by show w.heap.size + 3 ≠ w.heap.size + 2; omega) (.int .i64 0)).far (p := ⟨w.heap.size + 3, 1, none⟩) (by show w.heap.size + 3 ≠ w.heap.size + 2; omega) (.int .i64 0)
           exact bodyPost_ret (ret_cc rfl _ _ (w.heap.size + 2) (w.heap.size + 3) _ _ _ _ _ _ rfl rfl hrow2 hrow Tryz.underlying34 rfl (einfo hew) Tryz.underlying36 rfl (fault_info _ _)) rfl ⟨by rw [← HGE.out]; rfl, (HB7.out.setCell (p := ⟨w.heap.size + 3, 0, none⟩) (Nat.le_add_right _ _) _).setCell (p := ⟨w.heap.size + 3, 1, none⟩) (Nat.le_add_right _ _) _⟩
        ·rw [if_pos (.inr h5)] at HE2
         have HG : Hid (evV (.error xp) = G) := HE2.symm
         clear HE2 h4
         have tc : ((xz.length : Int) != (nf : Int)) = true := by simp; omega
         have td : ¬ ((xz.length : Int) = (nf : Int)) := by omega
         go_upto_region 7 with fail
         generalize w4 = w9 at *
         have RAw9 := RA4
         have RNw9 := RN4
         have REw9 := RE4
         have RFw9 := RF4
         have ROw9 := RO4
         have HBw9 := HB4
         clear RA4 RN4 RE4 RF4 RO4 HB4
         obtain ⟨S, hSe⟩ : ∃ S : World → Prop, S = fun W => RowAt W (w.heap.size + 1) 28 #[.int .i64 xk, .int .i64 xp, .string xs, .slice xA xw.length xc, .slice xB xz.length xd] ∧ RowAt W (w.heap.size + 4) 34 (uv (List.replicate 8 0)) := ⟨_, rfl⟩
         have C1 : ∀ W, S W → W.cell? ⟨w.heap.size + 1, 1, none⟩ = some (.int .i64 xp) := fun W h => by
          rw [hSe] at h
          exact (RowAt.cell h.1 1).trans rfl
         have pE : ∀ W, S W → RowAt W (w.heap.size + 4) 34 (uv (List.replicate 8 0)) := fun W h => by
          rw [hSe] at h
          exact h.2
         have hre := REw9.out.drew
         have hrf := RFw9.out.drew
         have hbb := HBw9.out.drew
         have HS : Hid (S w9.drew) := by
          show S w9.drew
          rw [hSe]
          exact ⟨RNw9.out.drew, ROw9.out.drew⟩
         have hs1 : S (w9.drew.setRow (w.heap.size + 2) (uv (List.replicate 8 0))) := by
          rw [hSe]
          exact ⟨RNw9.out.drew.other (Else.setRow _ _ _) (by omega), ROw9.out.drew.other (Else.setRow _ _ _) (by omega)⟩
         have hs2 : S ((w9.drew.setRow (w.heap.size + 2) (uv (List.replicate 8 0))).setRow (w.heap.size + 3) #[.int .i64 4, .int .i64 xp]) := by
          rw [hSe]
          exact ⟨(RNw9.out.drew.other (Else.setRow _ _ _) (by omega)).other (Else.setRow _ _ _) (by omega), (ROw9.out.drew.other (Else.setRow _ _ _) (by omega)).other (Else.setRow _ _ _) (by omega)⟩
         have hre1 := hre.setRow (uv (List.replicate 8 0))
         have hrf1 := hrf.other (Else.setRow w9.drew (w.heap.size + 2) (uv (List.replicate 8 0))) (by omega)
         have hre2 := hre1.other (Else.setRow (w9.drew.setRow (w.heap.size + 2) (uv (List.replicate 8 0))) (w.heap.size + 3) #[.int .i64 4, .int .i64 xp]) (by omega)
         have hrf2 := hrf1.setRow #[.int .i64 4, .int .i64 xp]
         have hb2 : Below w.heap.size w ((w9.drew.setRow (w.heap.size + 2) (uv (List.replicate 8 0))).setRow (w.heap.size + 3) #[.int .i64 4, .int .i64 xp]) := (hbb.trans ((Else.setRow _ _ _).below (by omega))).trans ((Else.setRow _ _ _).below (by omega))
         refine wp_region_ord S [(0, true), (1, true), (2, true), (3, true), (4, false), (5, false)] (by kernel_rfl) (by kernel_rfl) rfl (by kernel_rfl) HS.out ?_
         generalize w9.drew = V at *
         iterate 4
          (refine wpOrd_step (o := ?_) ?_ ?_; rotate_left 1; (simp only [zA1, zA2, zA3]; with_reducible rfl))
          (first
                | (refine wpOrd_skip (by rfl) ?_)
                | (refine wpOrd_take (by rfl) (take_loadElem _ rfl _ rfl _ z8 pE) ?_)
                | (refine wpOrd_take (v := ?_) (by rfl) ?_ ?_; rotate_left 1; (intro wx hSx; have hc_0 := C1 wx hSx; go_simp; try with_reducible rfl)))
          (try simp only [Act.put, zA4, zA5, zA6])
         refine wpOrd_store (o := ?_) ?ho13 ?hw13 34 ?ox13 ?oy13 ?hop13 (w.heap.size + 2) (uv (List.replicate 8 0)) ?hx13 ?hy13 34 (uv (List.replicate 8 0)) hre (einfo z8) ?hold13 (uv_one _) hs1 ?hh13
         case ho13 => (simp only [zA1, zA2, zA3]; with_reducible rfl)
         case hw13 => rfl
         case hop13 => rfl
         case hx13 => rfl
         case hy13 => rfl
         case hold13 => rfl
         (try simp only [Act.put, zA4, zA5, zA6])
         refine wpOrd_store (o := ?_) ?ho14 ?hw14 36 ?ox14 ?oy14 ?hop14 (w.heap.size + 3) #[.int .i64 4, .int .i64 xp] ?hx14 ?hy14 36 #[.int .i64 0, .int .i64 0] hrf1 (fault_info _ _) ?hold14 (by simp [Value.oneCell']) hs2 ?hh14
         case ho14 => (simp only [zA1, zA2, zA3]; with_reducible rfl)
         case hw14 => rfl
         case hop14 => rfl
         case hx14 => rfl
         case hy14 => rfl
         case hold14 => rfl
         (try simp only [Act.put, zA4, zA5, zA6])
         refine wpOrd_done ?_
         go_wp2_with fail
         exact bodyPost_ret (ret_cc rfl _ _ (w.heap.size + 2) (w.heap.size + 3) _ _ _ _ _ _ rfl rfl hre2 hrf2 Tryz.underlying34 rfl (einfo z8) Tryz.underlying36 rfl (fault_info _ _)) rfl ⟨by rw [← HG.out]; rfl, hb2⟩
       ·rw [if_pos (.inl h4)] at HE2
        have HG : Hid (evV (.error xp) = G) := HE2.symm
        clear HE2
        have tb : (xk != 4) = true := by simp [h4]
        go_upto_region 7 with fail
        generalize w4 = w9 at *
        have RAw9 := RA4
        have RNw9 := RN4
        have REw9 := RE4
        have RFw9 := RF4
        have ROw9 := RO4
        have HBw9 := HB4
        clear RA4 RN4 RE4 RF4 RO4 HB4
        obtain ⟨S, hSe⟩ : ∃ S : World → Prop, S = fun W => RowAt W (w.heap.size + 1) 28 #[.int .i64 xk, .int .i64 xp, .string xs, .slice xA xw.length xc, .slice xB xz.length xd] ∧ RowAt W (w.heap.size + 4) 34 (uv (List.replicate 8 0)) := ⟨_, rfl⟩
        have C1 : ∀ W, S W → W.cell? ⟨w.heap.size + 1, 1, none⟩ = some (.int .i64 xp) := fun W h => by
         rw [hSe] at h
         exact (RowAt.cell h.1 1).trans rfl
        have pE : ∀ W, S W → RowAt W (w.heap.size + 4) 34 (uv (List.replicate 8 0)) := fun W h => by
         rw [hSe] at h
         exact h.2
        have hre := REw9.out.drew
        have hrf := RFw9.out.drew
        have hbb := HBw9.out.drew
        have HS : Hid (S w9.drew) := by
         show S w9.drew
         rw [hSe]
         exact ⟨RNw9.out.drew, ROw9.out.drew⟩
        have hs1 : S (w9.drew.setRow (w.heap.size + 2) (uv (List.replicate 8 0))) := by
         rw [hSe]
         exact ⟨RNw9.out.drew.other (Else.setRow _ _ _) (by omega), ROw9.out.drew.other (Else.setRow _ _ _) (by omega)⟩
        have hs2 : S ((w9.drew.setRow (w.heap.size + 2) (uv (List.replicate 8 0))).setRow (w.heap.size + 3) #[.int .i64 4, .int .i64 xp]) := by
         rw [hSe]
         exact ⟨(RNw9.out.drew.other (Else.setRow _ _ _) (by omega)).other (Else.setRow _ _ _) (by omega), (ROw9.out.drew.other (Else.setRow _ _ _) (by omega)).other (Else.setRow _ _ _) (by omega)⟩
        have hre1 := hre.setRow (uv (List.replicate 8 0))
        have hrf1 := hrf.other (Else.setRow w9.drew (w.heap.size + 2) (uv (List.replicate 8 0))) (by omega)
        have hre2 := hre1.other (Else.setRow (w9.drew.setRow (w.heap.size + 2) (uv (List.replicate 8 0))) (w.heap.size + 3) #[.int .i64 4, .int .i64 xp]) (by omega)
        have hrf2 := hrf1.setRow #[.int .i64 4, .int .i64 xp]
        have hb2 : Below w.heap.size w ((w9.drew.setRow (w.heap.size + 2) (uv (List.replicate 8 0))).setRow (w.heap.size + 3) #[.int .i64 4, .int .i64 xp]) := (hbb.trans ((Else.setRow _ _ _).below (by omega))).trans ((Else.setRow _ _ _).below (by omega))
        refine wp_region_ord S [(0, true), (1, true), (2, true), (3, true), (4, false), (5, false)] (by kernel_rfl) (by kernel_rfl) rfl (by kernel_rfl) HS.out ?_
        generalize w9.drew = V at *
        iterate 4
         (refine wpOrd_step (o := ?_) ?_ ?_; rotate_left 1; (simp only [zA1, zA2, zA3]; with_reducible rfl))
         (first
          | (refine wpOrd_skip (by rfl) ?_)
          | (refine wpOrd_take (by rfl) (take_loadElem _ rfl _ rfl _ z8 pE) ?_)
          | (refine wpOrd_take (v := ?_) (by rfl) ?_ ?_; rotate_left 1; (intro wx hSx; have hc_0 := C1 wx hSx; go_simp; try with_reducible rfl)))
         (try simp only [Act.put, zA4, zA5, zA6])
        refine wpOrd_store (o := ?_) ?ho15 ?hw15 34 ?ox15 ?oy15 ?hop15 (w.heap.size + 2) (uv (List.replicate 8 0)) ?hx15 ?hy15 34 (uv (List.replicate 8 0)) hre (einfo z8) ?hold15 (uv_one _) hs1 ?hh15
        case ho15 => (simp only [zA1, zA2, zA3]; with_reducible rfl)
        case hw15 => rfl
        case hop15 => rfl
        case hx15 => rfl
        case hy15 => rfl
        case hold15 => rfl
        (try simp only [Act.put, zA4, zA5, zA6])
        refine wpOrd_store (o := ?_) ?ho16 ?hw16 36 ?ox16 ?oy16 ?hop16 (w.heap.size + 3) #[.int .i64 4, .int .i64 xp] ?hx16 ?hy16 36 #[.int .i64 0, .int .i64 0] hrf1 (fault_info _ _) ?hold16 (by simp [Value.oneCell']) hs2 ?hh16
        case ho16 => (simp only [zA1, zA2, zA3]; with_reducible rfl)
        case hw16 => rfl
        case hop16 => rfl
        case hx16 => rfl
        case hy16 => rfl
        case hold16 => rfl
        (try simp only [Act.put, zA4, zA5, zA6])
        refine wpOrd_done ?_
        go_wp2_with fail
        exact bodyPost_ret (ret_cc rfl _ _ (w.heap.size + 2) (w.heap.size + 3) _ _ _ _ _ _ rfl rfl hre2 hrf2 Tryz.underlying34 rfl (einfo z8) Tryz.underlying36 rfl (fault_info _ _)) rfl ⟨by rw [← HG.out]; rfl, hb2⟩
end Go.Proofs.YtkgonoejnochjaaGreatDoor

