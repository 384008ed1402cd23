/- Texts that all the claims need. Conditions: those that each states. -/

import Derived.Test.YtnfndapgcpdcpaaGreatDoorFa32
import Derived.Test.YtnfndapgcpdcpaaGreatDoorFa37
import Derived.Test.YtnfndapgcpdcpaaGreatDoorFa38
set_option linter.unusedSimpArgs false
set_option linter.unusedVariables false
set_option maxRecDepth 100000
set_option maxHeartbeats 40000000
namespace Go.Proofs.YtnfndapgcpdcpaaGreatDoor
section
open Go.RowKit RM Go.Maps LX TR TM SP
namespace A18
end A18
namespace A18
end A18
open A18
theorem alive18_any (w : World) (hT : Tab w) : Calls Tryz.prog 9 #[] w fun e w' => e = .returned (.bool true) ∧ Below w.heap.size w w' := by
 refine cHid fun Q' hQ => ?_
 have HQ := zh hQ; clear hQ
 have HT := zh hT; clear hT
 have HB0 : Hid (Below w.heap.size w (w.alloc (.cells (scells lohi).toArray 9))) := (zB _ _).alloc (zL _) _
 have hpq : (#[.string ⟨#[108, 111]⟩, .string ⟨#[104, 105]⟩] : Array Value) = (scells lohi).toArray := rfl
 have HPQ := zh hpq; clear hpq
 have HOK := zh (fC_ok w)
 go_enter Tryz.func9, Tryz.ntmps9
 go_upto_region 2 with (first
  | (refine wpList_oneF (by rfl) _ rfl (fC w.heap.size) RW.zs (by kernel_rfl) ?_; intro w2 r2 hb2; have HR2 := zh r2; have HB2 := zh hb2; clear r2 hb2)
  | (refine wpList_oneR (by decide) infoLat2 Tryz.underlying22 rfl _ rfl _ (by rfl) rfl ?_; intro w3 r3 hb3; have HR3 := zh r3; have HB3 := zh hb3; clear r3 hb3)
  | (refine wpList_twoR (by decide) infoVar2 Tryz.underlying23 rfl _ _ rfl _ _ (by rfl) (by rfl) rfl rfl ?_; intro w4 r4 hb4; have HR4 := zh r4; have HB4 := zh hb4; clear r4 hb4))
 have hsz0 : (w.alloc (.cells #[.string ⟨#[108, 111]⟩, .string ⟨#[104, 105]⟩] 9)).heap.size = w.heap.size + 1 := by simp
 have r2 := HR2.out
 have hb2 := HB2.out
 rw [HPQ.out] at r2 hb2 hsz0
 have hf2 := fac_of_row r2 (HOK.out.below hb2)
 rw [hsz0] at r2 hb2 hf2
 have hB02 : Below w.heap.size w w2 := HB0.out.trans (hb2.mono (by omega))
 have r5 := RowAt.new w4 25 #[.slice (some ⟨w2.heap.size, 0, none⟩) 1 1, .slice (some ⟨w3.heap.size, 0, none⟩) 2 2]
 have hb45 : Below w4.heap.size w4 (w4.alloc (.cells #[.slice (some ⟨w2.heap.size, 0, none⟩) 1 1, .slice (some ⟨w3.heap.size, 0, none⟩) 2 2] 25)) := (zB _ _).alloc (zL _) _
 generalize w4.alloc (.cells #[.slice (some ⟨w2.heap.size, 0, none⟩) 1 1, .slice (some ⟨w3.heap.size, 0, none⟩) 2 2] 25) = w5 at *
 have h24 := HB3.out.trans (HB4.out.mono HB3.out.size)
 have h25 := h24.trans (hb45.mono h24.size)
 have h35 := HB4.out.trans (hb45.mono HB4.out.size)
 have HF5 := zh (hf2.below h25)
 have rl5 := HR3.out.below h35 HR3.out.lt
 have rv5 := HR4.out.below hb45 HR4.out.lt
 have HSC5 := zh (sc_ok rl5 rv5 HF5.out)
 have HB5 := zh (hB02.trans (h25.mono hB02.size))
 have HRS5 := zh r5
 clear hsz0 r2 hb2 hf2 hB02 r5 hb45 h24 h25 h35 rl5 rv5 HR2 HB2 HR3 HB3 HR4 HB4 HOK HB0 HPQ HF5
 generalize w2.heap.size = gl at *
 generalize w3.heap.size = gv at *
 generalize w4.heap.size = gs at *
 have HWI : Hid (∀ W, Calls Tryz.prog 24 #[.slice none 0 0, .string ⟨#[102]⟩, .agg #[.int .u64 0, .int .u64 0, .int .u64 0, .int .u64 0, .int .u64 0, .int .u64 0, .int .u64 0, .int .u64 0]] W fun x w' => WiR W [⟨bF, el0⟩] x w') := fun W => by
  have h := withV_any none 0 [] bF el0 W (Nat.zero_le _) (zL _) (Nat.zero_le _) Ls.nil
  rw [elv_zero, with18] at h
  exact h
 go_upto_region 3 with (first
  | (refine wpList_twoR (by decide) infoElem2 Tryz.underlying26 rfl _ _ rfl _ _ (by rfl) (by rfl) rfl rfl ?_; intro w6 r6 hb6; have HR6 := zh r6; have HB6 := zh hb6; clear r6 hb6)
  | (go_at_call 24; refine (HWI.out w6).mono ?_; rintro e w7 ⟨gw, rfl, hw7, _, hb7⟩; have HW7 := zh hw7; have HB7 := zh hb7; clear hw7 hb7))
 have rr8 : RowAt ((w7.alloc (.cells #[.slice none 0 0, .slice (some ⟨gw, 0, none⟩) 1 1] 38)).alloc (.cells #[.slice (some ⟨w5.heap.size, 0, none⟩) 2 2, .slice (some ⟨w7.heap.size, 0, none⟩) 2 2] 29)) w7.heap.size 38 #[.slice none 0 0, .slice (some ⟨gw, 0, none⟩) 1 1] := (RowAt.new _ _ _).alloc _
 have ra8 : RowAt ((w7.alloc (.cells #[.slice none 0 0, .slice (some ⟨gw, 0, none⟩) 1 1] 38)).alloc (.cells #[.slice (some ⟨w5.heap.size, 0, none⟩) 2 2, .slice (some ⟨w7.heap.size, 0, none⟩) 2 2] 29)) (w7.heap.size + 1) 29 #[.slice (some ⟨w5.heap.size, 0, none⟩) 2 2, .slice (some ⟨w7.heap.size, 0, none⟩) 2 2] := by
  have := RowAt.new (w7.alloc (.cells #[.slice none 0 0, .slice (some ⟨gw, 0, none⟩) 1 1] 38)) 29 #[.slice (some ⟨w5.heap.size, 0, none⟩) 2 2, .slice (some ⟨w7.heap.size, 0, none⟩) 2 2]
  rwa [show (w7.alloc (.cells #[.slice none 0 0, .slice (some ⟨gw, 0, none⟩) 1 1] 38)).heap.size = w7.heap.size + 1 by simp] at this
 have hb78 : Below w7.heap.size w7 ((w7.alloc (.cells #[.slice none 0 0, .slice (some ⟨gw, 0, none⟩) 1 1] 38)).alloc (.cells #[.slice (some ⟨w5.heap.size, 0, none⟩) 2 2, .slice (some ⟨w7.heap.size, 0, none⟩) 2 2] 29)) := ((zB _ _).alloc (zL _) _).alloc (by simp) _
 change Code.wp _ _ _ _ ((w7.alloc (.cells #[.slice none 0 0, .slice (some ⟨gw, 0, none⟩) 1 1] 38)).alloc (.cells #[.slice (some ⟨w5.heap.size, 0, none⟩) 2 2, .slice (some ⟨w7.heap.size, 0, none⟩) 2 2] 29))
 generalize (w7.alloc (.cells #[.slice none 0 0, .slice (some ⟨gw, 0, none⟩) 1 1] 38)).alloc (.cells #[.slice (some ⟨w5.heap.size, 0, none⟩) 2 2, .slice (some ⟨w7.heap.size, 0, none⟩) 2 2] 29) = w8 at *
 have h68 := HB7.out.trans (hb78.mono HB7.out.size)
 have h58 := HB6.out.trans (h68.mono HB6.out.size)
 have HAS8 := zh (as_ok (HR6.out.below h68 HR6.out.lt) rr8 (HW7.out.below hb78))
 have HSC8 := zh (HSC5.out.below h58)
 have HRS8 := zh (HRS5.out.below h58 HRS5.out.lt)
 have HRA8 := zh ra8
 have HB8 := zh (HB5.out.trans (h58.mono HB5.out.size))
 have HT8 := zh (HT.out.below HB8.out)
 clear rr8 ra8 hb78 h68 h58 HR6 HB6 HW7 HB7 HWI HSC5 HRS5 HB5 HT
 generalize w5.heap.size = ge at *
 generalize w7.heap.size = gr at *
 have HSR : Hid (∀ W, Below w8.heap.size w8 W → RowAt W gs 25 (scv (s18 gl (w.heap.size + 1) w.heap.size gv))) := fun W h => HRS8.out.below h HRS8.out.lt
 have HAR : Hid (∀ W, Below w8.heap.size w8 W → RowAt W (gr + 1) 29 (asv (a18 ge gr gw))) := fun W h => HRA8.out.below h HRA8.out.lt
 have hfs : fsum (a18 ge gr gw) (a18 ge gr gw).rs.length ≤ 1152921504606846976 := show 1 ≤ 1152921504606846976 by decide
 have hnm1 : ∀ r ∈ (a18 ge gr gw).rs, r.l.length ≤ 1000 ∧ ∀ v ∈ r.l, v.s.size ≤ 1000 := fun r hr => by
  have : r = rw0 ∨ r = ⟨some ⟨gw, 0, none⟩, 1, [⟨bF, el0⟩]⟩ := by simpa [a18] using hr
  rcases this with rfl | rfl
  ·exact ⟨Nat.zero_le _, fun v hv => by cases hv⟩
  ·exact ⟨(show 1 ≤ 1000 by decide), fun v hv => by
        obtain rfl : v = ⟨bF, el0⟩ := by simpa using hv
        exact (show bF.size ≤ 1000 by decide)⟩
 have HTX : Hid (∀ W, Below w8.heap.size w8 W → Calls Tryz.prog 15 #[.agg (scv (s18 gl (w.heap.size + 1) w.heap.size gv)), .agg (asv (a18 ge gr gw))] W fun e w' => e = .returned (.string ⟨#[120, 61, 35, 104, 105, 32, 114, 61, 91, 102, 61, 35, 108, 111, 93]⟩) ∧ Below W.heap.size W w') := fun W hW => by
  have h := atext_any (s18 gl (w.heap.size + 1) w.heap.size gv) (a18 ge gr gw) W (HSC8.out.below hW) (HT8.out.below hW) (HAS8.out.below hW) hfs (show 2 ≤ 1000 by decide) (fun v hv => by
   have : v = (bX, 1, 0) ∨ v = (bR, 2, 0) := by simpa [s18] using hv
   rcases this with rfl | rfl
   ·exact (show bX.size ≤ 1000 by decide)
   ·exact (show bR.size ≤ 1000 by decide)) hnm1
  rw [text18] at h
  exact h
 have HRT : Hid (∀ W, Below w8.heap.size w8 W → Calls Tryz.prog 10 #[.agg (scv (s18 gl (w.heap.size + 1) w.heap.size gv)), .agg (asv (a18 ge gr gw))] W fun e w' => e = .returned (.bool true) ∧ Below W.heap.size W w') := fun W hW => by
  have h := aright_any (s18 gl (w.heap.size + 1) w.heap.size gv) (a18 ge gr gw) W (HSC8.out.below hW) (HT8.out.below hW) (HAS8.out.below hW) hfs (fun r hr v hv => by have := (hnm1 r hr).2 v hv; omega)
  rw [right18] at h
  exact h
 have HLE : Hid (∀ W, Below w8.heap.size w8 W → Calls Tryz.prog 13 #[.agg (scv (s18 gl (w.heap.size + 1) w.heap.size gv))] W fun e w' => (∃ g3 gR, e = .returned (.agg (asv (m18 g3 gR (s18 gl (w.heap.size + 1) w.heap.size gv)))) ∧ AsIn w' (m18 g3 gR (s18 gl (w.heap.size + 1) w.heap.size gv))) ∧ Below W.heap.size W w') := fun W hW =>
  (aleast_any (s18 gl (w.heap.size + 1) w.heap.size gv) W (HSC8.out.below hW) (HT8.out.below hW)).mono fun e w' h => by
   obtain ⟨g3, gR, h1, h2, h3, h4⟩ := h
   exact ⟨⟨g3, gR, h1.trans rfl, ms_ok rfl h2 h3⟩, h4⟩
 have HLQ : Hid (∀ W g3 gR, Below w8.heap.size w8 W → AsIn W (m18 g3 gR (s18 gl (w.heap.size + 1) w.heap.size gv)) → Calls Tryz.prog 18 #[.agg (asv (m18 g3 gR (s18 gl (w.heap.size + 1) w.heap.size gv))), .agg (asv (a18 ge gr gw))] W fun e w' => e = .returned (.bool true) ∧ Below W.heap.size W w') := fun W g3 gR hW hm => by
  have h := aleq_any (m18 g3 gR (s18 gl (w.heap.size + 1) w.heap.size gv)) (a18 ge gr gw) W hm (HAS8.out.below hW) (fun r hr => by have := (hnm1 r hr).1; omega)
  rw [leq18] at h
  exact h
 have HGQ : Hid (∀ W g3 gR, Below w8.heap.size w8 W → AsIn W (m18 g3 gR (s18 gl (w.heap.size + 1) w.heap.size gv)) → Calls Tryz.prog 18 #[.agg (asv (a18 ge gr gw)), .agg (asv (m18 g3 gR (s18 gl (w.heap.size + 1) w.heap.size gv)))] W fun e w' => e = .returned (.bool false) ∧ Below W.heap.size W w') := fun W g3 gR hW hm => by
  have h := aleq_any (a18 ge gr gw) (m18 g3 gR (s18 gl (w.heap.size + 1) w.heap.size gv)) W (HAS8.out.below hW) hm (fun r hr => by
   obtain rfl : r = rw0 := by simpa [m18] using hr
   exact Nat.zero_le _)
  rw [geq18] at h
  exact h
 clear hfs hnm1
 generalize gr + 1 = ga at *
 generalize s18 gl (w.heap.size + 1) w.heap.size gv = ss at *
 have HM1 : Hid (∀ g3 gR, asv (m18 g3 gR ss) = asv (m18 g3 gR ss)) := fun _ _ => rfl
 have HSv0 : Hid (Below w8.heap.size w8 w8.drew) := (zB _ _).drew
 have hsa : (#[.slice (some ⟨ge, 0, none⟩) 2 2, .slice (some ⟨gr, 0, none⟩) 2 2] : Array Value) = asv (a18 ge gr gw) := rfl
 refine wp_region_ord (fun W => Below w8.heap.size w8 W) [(0, true), (1, true), (2, false), (3, true), (4, true), (5, true), (6, true), (7, false), (8, true), (9, true), (10, true), (12, true), (11, false), (13, false), (14, true), (15, true), (16, true), (17, true), (18, false), (19, false), (20, true), (21, true), (22, true)] (by kernel_rfl) (by kernel_rfl) rfl (by kernel_rfl) HSv0.out ?_
 generalize w8.drew = v0 at HSv0 ⊢
 iterate 2
  (refine wpOrd_step (zO rfl) ?_)
  (first
   | (refine wpOrd_skip (by rfl) ?_)
   | (refine wpOrd_take (by rfl) (take_row _ _ rfl gs rfl _ _ _ HSR.out Tryz.underlying25 rfl (by kernel_rfl)) ?_)
   | (refine wpOrd_take (by rfl) (take_row _ _ rfl ga rfl _ _ _ HAR.out Tryz.underlying29 rfl (by kernel_rfl)) ?_)
   | (refine wpOrd_take (v := ?_) (by rfl) ?_ ?_; rotate_left 1; (intro wx hSx; go_simp; try with_reducible rfl)))
  (try simp only [Act.put, zA4, zA5, zA6])
 (refine wpOrd_solo (zO rfl) ?_)
 intro K hK
 go_simp
 go_at_call 15
 refine (HTX.out v0 HSv0.out).mono ?_
 rintro e v1 ⟨rfl, hb⟩
 have HSv1 := zh (HSv0.out.trans (hb.mono HSv0.out.size))
 refine hK.out _ _ HSv1.out ?_
 clear hK K
 (try simp only [Act.put, zA4, zA5, zA6])
 iterate 4
  (refine wpOrd_step (zO rfl) ?_)
  (first
   | (refine wpOrd_skip (by rfl) ?_)
   | (refine wpOrd_take (by rfl) (take_row _ _ rfl gs rfl _ _ _ HSR.out Tryz.underlying25 rfl (by kernel_rfl)) ?_)
   | (refine wpOrd_take (by rfl) (take_row _ _ rfl ga rfl _ _ _ HAR.out Tryz.underlying29 rfl (by kernel_rfl)) ?_)
   | (refine wpOrd_take (v := ?_) (by rfl) ?_ ?_; rotate_left 1; (intro wx hSx; go_simp; try with_reducible rfl)))
  (try simp only [Act.put, zA4, zA5, zA6])
 (refine wpOrd_solo (zO rfl) ?_)
 intro K hK
 go_simp
 go_at_call 10
 refine (HRT.out v1 HSv1.out).mono ?_
 rintro e v2 ⟨rfl, hb⟩
 have HSv2 := zh (HSv1.out.trans (hb.mono HSv1.out.size))
 refine hK.out _ _ HSv2.out ?_
 clear hK K
 (try simp only [Act.put, zA4, zA5, zA6])
 iterate 4
  (refine wpOrd_step (zO rfl) ?_)
  (first
   | (refine wpOrd_skip (by rfl) ?_)
   | (refine wpOrd_take (by rfl) (take_row _ _ rfl gs rfl _ _ _ HSR.out Tryz.underlying25 rfl (by kernel_rfl)) ?_)
   | (refine wpOrd_take (by rfl) (take_row _ _ rfl ga rfl _ _ _ HAR.out Tryz.underlying29 rfl (by kernel_rfl)) ?_)
   | (refine wpOrd_take (v := ?_) (by rfl) ?_ ?_; rotate_left 1; (intro wx hSx; go_simp; try with_reducible rfl)))
  (try simp only [Act.put, zA4, zA5, zA6])
 (refine wpOrd_solo (zO rfl) ?_)
 intro K hK
 go_simp
 go_at_call 13
 refine (HLE.out v2 HSv2.out).mono ?_
 rintro e v3 ⟨⟨g3, gR, rfl, hm⟩, hb⟩
 have HM3 := zh hm
 have HSv3 := zh (HSv2.out.trans (hb.mono HSv2.out.size))
 refine hK.out _ _ HSv3.out ?_
 clear hK K
 (try simp only [Act.put, zA4, zA5, zA6])
 (refine wpOrd_solo (zO rfl) ?_)
 intro K hK
 go_simp
 go_at_call 18
 refine (HLQ.out v3 g3 gR HSv3.out HM3.out).mono ?_
 rintro e v4 ⟨rfl, hb⟩
 have HSv4 := zh (HSv3.out.trans (hb.mono HSv3.out.size))
 refine hK.out _ _ HSv4.out ?_
 clear hK K
 (try simp only [Act.put, zA4, zA5, zA6])
 iterate 4
  (refine wpOrd_step (zO rfl) ?_)
  (first
   | (refine wpOrd_skip (by rfl) ?_)
   | (refine wpOrd_take (by rfl) (take_row _ _ rfl gs rfl _ _ _ HSR.out Tryz.underlying25 rfl (by kernel_rfl)) ?_)
   | (refine wpOrd_take (by rfl) (take_row _ _ rfl ga rfl _ _ _ HAR.out Tryz.underlying29 rfl (by kernel_rfl)) ?_)
   | (refine wpOrd_take (v := ?_) (by rfl) ?_ ?_; rotate_left 1; (intro wx hSx; go_simp; try with_reducible rfl)))
  (try simp only [Act.put, zA4, zA5, zA6])
 (refine wpOrd_solo (zO rfl) ?_)
 intro K hK
 go_simp
 go_at_call 13
 refine (HLE.out v4 HSv4.out).mono ?_
 rintro e v5 ⟨⟨g5, gQ, rfl, hm5⟩, hb⟩
 have HM5 := zh hm5
 have HSv5 := zh (HSv4.out.trans (hb.mono HSv4.out.size))
 refine hK.out _ _ HSv5.out ?_
 clear hK K
 (try simp only [Act.put, zA4, zA5, zA6])
 (refine wpOrd_solo (zO rfl) ?_)
 intro K hK
 go_simp
 go_at_call 18
 refine (HGQ.out v5 g5 gQ HSv5.out HM5.out).mono ?_
 rintro e v6 ⟨rfl, hb⟩
 have HSv6 := zh (HSv5.out.trans (hb.mono HSv5.out.size))
 refine hK.out _ _ HSv6.out ?_
 clear hK K
 (try simp only [Act.put, zA4, zA5, zA6])
 iterate 3
  (refine wpOrd_step (zO rfl) ?_)
  (first
   | (refine wpOrd_skip (by rfl) ?_)
   | (refine wpOrd_take (by rfl) (take_row _ _ rfl gs rfl _ _ _ HSR.out Tryz.underlying25 rfl (by kernel_rfl)) ?_)
   | (refine wpOrd_take (by rfl) (take_row _ _ rfl ga rfl _ _ _ HAR.out Tryz.underlying29 rfl (by kernel_rfl)) ?_)
   | (refine wpOrd_take (v := ?_) (by rfl) ?_ ?_; rotate_left 1; (intro wx hSx; go_simp; try with_reducible rfl)))
  (try simp only [Act.put, zA4, zA5, zA6])
 refine wpOrd_done ?_
 go_wp2_with fail
 exact HQ.out _ _ ⟨rfl, HB8.out.trans (HSv6.out.mono HB8.out.size)⟩
end
section
open Go.RowKit RM Go.Maps A18
theorem assignFields_any (A : Option Addr) (c : Nat) (l : List Vl) (v : Vl) (t : ByteArray) (w : World) (hT : Tab w) (hR : RwIn w ⟨A, c, l⟩) :
 Calls Tryz.prog 5 #[.slice A l.length c, .agg (vlC v).toArray, .string t] w fun e w' => e = .returned (.bool true) ∧ Below w.heap.size w w' := by
 obtain ⟨s, e, he⟩ := v
 obtain ⟨e0, e1, e2, e3, e4, e5, e6, e7, rfl⟩ := ew_lit he
 have hA : Ls vlC w A l := hR.at_
 have hlc : l.length ≤ c := hR.le
 have hcm : c ≤ maxLen := hR.cap
 change Calls Tryz.prog 5 #[.slice A l.length c, .agg #[.string s, .int .u64 e0, .int .u64 e1, .int .u64 e2, .int .u64 e3, .int .u64 e4, .int .u64 e5, .int .u64 e6, .int .u64 e7], .string t] w fun e w' => e = .returned (.bool true) ∧ Below w.heap.size w w'
 have rV := RowAt.new w 43 #[.string s, .int .u64 e0, .int .u64 e1, .int .u64 e2, .int .u64 e3, .int .u64 e4, .int .u64 e5, .int .u64 e6, .int .u64 e7]
 have hb : Below w.heap.size w (w.alloc (.cells #[.string s, .int .u64 e0, .int .u64 e1, .int .u64 e2, .int .u64 e3, .int .u64 e4, .int .u64 e5, .int .u64 e6, .int .u64 e7] 43)) := (zB _ _).alloc (zL _) _
 refine cHid fun Q' hQ => ?_
 have HQ := zh hQ; clear hQ
 go_enter Tryz.func5, Tryz.ntmps5
 go_upto_region 1 with fail
 change Code.wp _ _ _ _ (w.alloc (.cells #[.string s, .int .u64 e0, .int .u64 e1, .int .u64 e2, .int .u64 e3, .int .u64 e4, .int .u64 e5, .int .u64 e6, .int .u64 e7] 43))
 generalize w.alloc (.cells #[.string s, .int .u64 e0, .int .u64 e1, .int .u64 e2, .int .u64 e3, .int .u64 e4, .int .u64 e5, .int .u64 e6, .int .u64 e7] 43) = w1 at *
 have r2 := RowAt.new w1 38 #[.slice A l.length c]
 have hb2 : Below w1.heap.size w1 (w1.alloc (.cells #[.slice A l.length c] 38)) := (zB _ _).alloc (zL _) _
 have hbw2 := hb.trans (hb2.mono hb.size)
 have hbg : Calls Tryz.prog 8 #[.agg #[.slice none 0 0, .slice (some ⟨w1.heap.size, 0, none⟩) 1 1]] (w1.alloc (.cells #[.slice A l.length c] 38)) fun e w' => e = .returned (.bool (bigL l)) ∧ Below (w1.alloc (.cells #[.slice A l.length c] 38)).heap.size (w1.alloc (.cells #[.slice A l.length c] 38)) w' := by
  have h := bigAs_any ⟨none, 0, [], some ⟨w1.heap.size, 0, none⟩, 1, [⟨A, c, l⟩]⟩ (w1.alloc (.cells #[.slice A l.length c] 38)) (Nat.zero_le _) (show 1 ≤ maxLen by decide) (sl_row (by simpa [rwC] using r2)) (fun r hr => by
   obtain rfl : r = ⟨A, c, l⟩ := by simpa using hr
   exact hA.below hbw2) (by show fsum _ 1 ≤ _; simp [fsum]; omega)
  rw [bigAs_one] at h
  exact h
 have HBG := zh hbg
 have HB2 := zh hbw2
 have HV2 := zh (rV.below hb2 rV.lt)
 have c1 : w1.cell? ⟨w.heap.size, 0, none⟩ = some (.string s) := rV.cell 0
 have HALI := zh (fun W (h : Below w.heap.size w W) => alive18_any W (hT.below h))
 have HAT := zh (fun W (h : Below w.heap.size w W) => hA.below h)
 clear hT hR hA r2 hb2 hbw2 hbg rV hb
 by_cases hbl : bigL l = true
 ·rw [hbl] at HBG
  clear hbl
  go_wp2_with (first
   | (go_at_call 8; refine HBG.out.mono ?_; rintro x w3 ⟨rfl, hb3⟩; have HB3 := zh (HB2.out.trans (hb3.mono HB2.out.size)); have HV3 := zh (HV2.out.below hb3 HV2.out.lt); have c3 : w3.cell? ⟨w.heap.size, 0, none⟩ = some (.string s) := HV3.out.cell 0; clear hb3)
   | (go_at_call 9; refine (HALI.out w3 HB3.out).mono ?_; rintro x w4 ⟨rfl, hb4⟩; have HB4 := zh (HB3.out.trans (hb4.mono HB3.out.size)); clear hb4))
  exact HQ.out _ _ ⟨rfl, HB4.out⟩
 have hbl : bigL l = false := by simpa using hbl
 rw [hbl] at HBG
 obtain ⟨hl2, hnm⟩ := bigL_no hbl
 clear hbl
 by_cases h40 : 40 < s.size
 ·go_wp2_with (first
   | (go_at_call 8; refine HBG.out.mono ?_; rintro x w3 ⟨rfl, hb3⟩; have HB3 := zh (HB2.out.trans (hb3.mono HB2.out.size)); have HV3 := zh (HV2.out.below hb3 HV2.out.lt); have c3 : w3.cell? ⟨w.heap.size, 0, none⟩ = some (.string s) := HV3.out.cell 0; clear hb3)
   | (go_at_call 9; refine (HALI.out w3 HB3.out).mono ?_; rintro x w4 ⟨rfl, hb4⟩; have HB4 := zh (HB3.out.trans (hb4.mono HB3.out.size)); clear hb4))
  exact HQ.out _ _ ⟨rfl, HB4.out⟩
 by_cases h41 : 40 < t.size
 ·go_wp2_with (first
   | (go_at_call 8; refine HBG.out.mono ?_; rintro x w3 ⟨rfl, hb3⟩; have HB3 := zh (HB2.out.trans (hb3.mono HB2.out.size)); have HV3 := zh (HV2.out.below hb3 HV2.out.lt); have c3 : w3.cell? ⟨w.heap.size, 0, none⟩ = some (.string s) := HV3.out.cell 0; clear hb3)
   | (go_at_call 9; refine (HALI.out w3 HB3.out).mono ?_; rintro x w4 ⟨rfl, hb4⟩; have HB4 := zh (HB3.out.trans (hb4.mono HB3.out.size)); clear hb4))
  exact HQ.out _ _ ⟨rfl, HB4.out⟩
 have hT0 : ∀ W, (Go.RowKit.Below w.heap.size w W) → True := fun _ _ => trivial
 clear hT0
 have hmax : l.length ≤ maxLen := by unfold maxLen; omega
 obtain ⟨f0, f1, f2, f3, f4, f5, f6, f7, fb, hf, hgf⟩ := getR_lit (l := l) (s := s)
 have HG3 : Hid (∀ W, Below w.heap.size w W → Calls Tryz.prog 22 #[.slice A l.length c, .string s] W fun x w' => x = .returned (.tuple #[.agg #[.int .u64 f0, .int .u64 f1, .int .u64 f2, .int .u64 f3, .int .u64 f4, .int .u64 f5, .int .u64 f6, .int .u64 f7], .bool fb]) ∧ Below W.heap.size W w') := fun W h => by
  have := get_any A c l s W hmax (HAT.out W h)
  rw [hgf] at this
  exact this
 have HQ4 : Hid (∀ W, Below w.heap.size w W → Calls Tryz.prog 23 #[.slice A l.length c, .string s] W fun x w' => x = .returned (.tuple #[.agg #[.int .u64 f0, .int .u64 f1, .int .u64 f2, .int .u64 f3, .int .u64 f4, .int .u64 f5, .int .u64 f6, .int .u64 f7], .bool fb]) ∧ Below W.heap.size W w') := fun W h => by
  have := qget18_any A c l s W hmax (HAT.out W h)
  rw [hgf] at this
  exact this
 have HW5 : Hid (∀ W, Below w.heap.size w W → Calls Tryz.prog 24 #[.slice A l.length c, .string s, .agg #[.int .u64 e0, .int .u64 e1, .int .u64 e2, .int .u64 e3, .int .u64 e4, .int .u64 e5, .int .u64 e6, .int .u64 e7]] W fun x w' => WiR W (wiV l s ⟨[e0, e1, e2, e3, e4, e5, e6, e7], he⟩) x w') := fun W h => withV_any A c l s ⟨[e0, e1, e2, e3, e4, e5, e6, e7], he⟩ W (by omega) hlc hcm (HAT.out W h)
 have HQW : Hid (∀ W, Below w.heap.size w W → Calls Tryz.prog 26 #[.slice A l.length c, .string s, .agg #[.int .u64 e0, .int .u64 e1, .int .u64 e2, .int .u64 e3, .int .u64 e4, .int .u64 e5, .int .u64 e6, .int .u64 e7]] W fun x w' => QWi W (wiV l s ⟨[e0, e1, e2, e3, e4, e5, e6, e7], he⟩) x w') := fun W h => qwith_any A c l s ⟨[e0, e1, e2, e3, e4, e5, e6, e7], he⟩ W (by omega) (HAT.out W h) (by omega) (fun v hv => by have := hnm v hv; omega)
 have hwl := wiV_len2 l s ⟨[e0, e1, e2, e3, e4, e5, e6, e7], he⟩
 have hwmax : (wiV l s ⟨[e0, e1, e2, e3, e4, e5, e6, e7], he⟩).length ≤ maxLen := by unfold maxLen; omega
 have hws := getV_same l s ⟨[e0, e1, e2, e3, e4, e5, e6, e7], he⟩
 have hwe := fun (h : t ≠ s) => getV_else l ⟨[e0, e1, e2, e3, e4, e5, e6, e7], he⟩ h
 have HEF := zh (eql_lit hf)
 have HEE := zh (eql_lit he)
 clear hf hgf hnm hwl hlc hcm
 generalize wiV l s ⟨[e0, e1, e2, e3, e4, e5, e6, e7], he⟩ = WI at *
 generalize hM : WI.length = m at *
 go_upto_region 3 with (go_at_call 8; refine HBG.out.mono ?_; rintro x w3 ⟨rfl, hb3⟩; have HB3 := zh (HB2.out.trans (hb3.mono HB2.out.size)); have HV3 := zh (HV2.out.below hb3 HV2.out.lt); have c3 : w3.cell? ⟨w.heap.size, 0, none⟩ = some (.string s) := HV3.out.cell 0; clear hb3)
 have r3 : w3.rangeAt w.heap.size 1 [.int .u64 e0, .int .u64 e1, .int .u64 e2, .int .u64 e3, .int .u64 e4, .int .u64 e5, .int .u64 e6, .int .u64 e7] := fun j u hu => by
  have := HV3.out.cell (1 + j)
  rw [this]
  simpa [Nat.add_comm 1 j] using hu
 clear r3
 have HR3 : Hid (w3.rangeAt w.heap.size 1 [.int .u64 e0, .int .u64 e1, .int .u64 e2, .int .u64 e3, .int .u64 e4, .int .u64 e5, .int .u64 e6, .int .u64 e7]) := rng_e HV3.out
 clear HB2 HV2 HBG c1
 go_upto_region 4 with (go_at_call 22; refine (HG3.out w3 HB3.out).mono ?_; rintro x w3x ⟨rfl, hbx⟩; have HBX := zh hbx; clear hbx)
 change Code.wp _ _ _ _ (w3x.alloc (.cells #[.int .u64 f0, .int .u64 f1, .int .u64 f2, .int .u64 f3, .int .u64 f4, .int .u64 f5, .int .u64 f6, .int .u64 f7] 41))
 have hbn : Below w3x.heap.size w3x (w3x.alloc (.cells #[.int .u64 f0, .int .u64 f1, .int .u64 f2, .int .u64 f3, .int .u64 f4, .int .u64 f5, .int .u64 f6, .int .u64 f7] 41)) := (zB _ _).alloc (zL _) _
 have rn := RowAt.new w3x 41 #[.int .u64 f0, .int .u64 f1, .int .u64 f2, .int .u64 f3, .int .u64 f4, .int .u64 f5, .int .u64 f6, .int .u64 f7]
 generalize w3x.alloc (.cells #[.int .u64 f0, .int .u64 f1, .int .u64 f2, .int .u64 f3, .int .u64 f4, .int .u64 f5, .int .u64 f6, .int .u64 f7] 41) = w4 at *
 have hbt := HBX.out.trans (hbn.mono HBX.out.size)
 have HB4 := zh (HB3.out.trans (hbt.mono HB3.out.size))
 have HV4 := zh (HV3.out.below hbt HV3.out.lt)
 have HA4 := zh rn
 have c4 : w4.cell? ⟨w.heap.size, 0, none⟩ = some (.string s) := HV4.out.cell 0
 have HR4 : Hid (w4.rangeAt w.heap.size 1 [.int .u64 e0, .int .u64 e1, .int .u64 e2, .int .u64 e3, .int .u64 e4, .int .u64 e5, .int .u64 e6, .int .u64 e7]) := rng_e HV4.out
 clear hbn rn hbt HBX c3 HR3 HB3 HV3
 generalize w3x.heap.size = gHA at *
 go_upto_region 5 with (go_at_call 23; refine (HQ4.out w4 HB4.out).mono ?_; rintro x w4x ⟨rfl, hbx⟩; have HBX := zh hbx; clear hbx)
 change Code.wp _ _ _ _ (w4x.alloc (.cells #[.int .u64 f0, .int .u64 f1, .int .u64 f2, .int .u64 f3, .int .u64 f4, .int .u64 f5, .int .u64 f6, .int .u64 f7] 41))
 have hbn : Below w4x.heap.size w4x (w4x.alloc (.cells #[.int .u64 f0, .int .u64 f1, .int .u64 f2, .int .u64 f3, .int .u64 f4, .int .u64 f5, .int .u64 f6, .int .u64 f7] 41)) := (zB _ _).alloc (zL _) _
 have rn := RowAt.new w4x 41 #[.int .u64 f0, .int .u64 f1, .int .u64 f2, .int .u64 f3, .int .u64 f4, .int .u64 f5, .int .u64 f6, .int .u64 f7]
 generalize w4x.alloc (.cells #[.int .u64 f0, .int .u64 f1, .int .u64 f2, .int .u64 f3, .int .u64 f4, .int .u64 f5, .int .u64 f6, .int .u64 f7] 41) = w5 at *
 have hbt := HBX.out.trans (hbn.mono HBX.out.size)
 have HB5 := zh (HB4.out.trans (hbt.mono HB4.out.size))
 have HV5 := zh (HV4.out.below hbt HV4.out.lt)
 have HA5 := zh (HA4.out.below hbt HA4.out.lt)
 have HC5 := zh rn
 have c5 : w5.cell? ⟨w.heap.size, 0, none⟩ = some (.string s) := HV5.out.cell 0
 have HR5 : Hid (w5.rangeAt w.heap.size 1 [.int .u64 e0, .int .u64 e1, .int .u64 e2, .int .u64 e3, .int .u64 e4, .int .u64 e5, .int .u64 e6, .int .u64 e7]) := rng_e HV5.out
 clear hbn rn hbt HBX c4 HR4 HB4 HV4 HA4
 generalize w4x.heap.size = gHC at *
 go_upto_region 6 with (first
  | (refine wpList_ldIn (by rfl) _ _ rfl w.heap.size 1 rfl _ _ HR5.out Tryz.underlying41 rfl (by kernel_rfl) ?_)
  | (go_at_call 24; refine (HW5.out w5 HB5.out).mono ?_; rintro x w6 ⟨gw, rfl, hw6, _, hb6⟩; rw [hM]; have HLW6 := zh hw6; have HBX := zh hb6; clear hw6 hb6))
 have HB6 := zh (HB5.out.trans (HBX.out.mono HB5.out.size))
 have hbt := HBX.out
 have HV6 := zh (HV5.out.below hbt HV5.out.lt)
 have HA6 := zh (HA5.out.below hbt HA5.out.lt)
 have HC6 := zh (HC5.out.below hbt HC5.out.lt)
 have c6 : w6.cell? ⟨w.heap.size, 0, none⟩ = some (.string s) := HV6.out.cell 0
 have HR6 : Hid (w6.rangeAt w.heap.size 1 [.int .u64 e0, .int .u64 e1, .int .u64 e2, .int .u64 e3, .int .u64 e4, .int .u64 e5, .int .u64 e6, .int .u64 e7]) := rng_e HV6.out
 clear hbt HBX c5 HR5 HB5 HV5 HA5 HC5 HG3 HQ4 HW5
 have HG6 : Hid (∀ W, Ls vlC W (some ⟨gw, 0, none⟩) WI → Calls Tryz.prog 22 #[.slice (some ⟨gw, 0, none⟩) m m, .string s] W fun x w' => x = .returned (.tuple #[.agg #[.int .u64 e0, .int .u64 e1, .int .u64 e2, .int .u64 e3, .int .u64 e4, .int .u64 e5, .int .u64 e6, .int .u64 e7], .bool true]) ∧ Below W.heap.size W w') := fun W h => by
  have := get_any (some ⟨gw, 0, none⟩) m WI s W (by rw [hM]; exact hwmax) h
  rw [hws, hM] at this
  exact this
 go_upto_region 7 with (go_at_call 22; refine (HG6.out w6 HLW6.out).mono ?_; rintro x w6x ⟨rfl, hbx⟩; have HBX := zh hbx; clear hbx)
 change Code.wp _ _ _ _ (w6x.alloc (.cells #[.int .u64 e0, .int .u64 e1, .int .u64 e2, .int .u64 e3, .int .u64 e4, .int .u64 e5, .int .u64 e6, .int .u64 e7] 41))
 have hbn : Below w6x.heap.size w6x (w6x.alloc (.cells #[.int .u64 e0, .int .u64 e1, .int .u64 e2, .int .u64 e3, .int .u64 e4, .int .u64 e5, .int .u64 e6, .int .u64 e7] 41)) := (zB _ _).alloc (zL _) _
 have rn := RowAt.new w6x 41 #[.int .u64 e0, .int .u64 e1, .int .u64 e2, .int .u64 e3, .int .u64 e4, .int .u64 e5, .int .u64 e6, .int .u64 e7]
 generalize w6x.alloc (.cells #[.int .u64 e0, .int .u64 e1, .int .u64 e2, .int .u64 e3, .int .u64 e4, .int .u64 e5, .int .u64 e6, .int .u64 e7] 41) = w7 at *
 have hbt := HBX.out.trans (hbn.mono HBX.out.size)
 have HB7 := zh (HB6.out.trans (hbt.mono HB6.out.size))
 have HV7 := zh (HV6.out.below hbt HV6.out.lt)
 have HA7 := zh (HA6.out.below hbt HA6.out.lt)
 have HC7 := zh (HC6.out.below hbt HC6.out.lt)
 have HLW7 := zh (HLW6.out.below hbt)
 have HD7 := zh rn
 have c7 : w7.cell? ⟨w.heap.size, 0, none⟩ = some (.string s) := HV7.out.cell 0
 have HR7 : Hid (w7.rangeAt w.heap.size 1 [.int .u64 e0, .int .u64 e1, .int .u64 e2, .int .u64 e3, .int .u64 e4, .int .u64 e5, .int .u64 e6, .int .u64 e7]) := rng_e HV7.out
 clear hbn rn hbt HBX c6 HR6 HB6 HV6 HA6 HC6 HLW6
 generalize w6x.heap.size = gHD at *
 clear HG6
 obtain ⟨k0, k1, k2, k3, k4, k5, k6, k7, kb, hk, hgk⟩ := getR_lit (l := l) (s := t)
 have heF := HEF.out
 have heE := HEE.out
 by_cases hts : t = s
 ·subst hts
  have HG7 : Hid (∀ W, Ls vlC W (some ⟨gw, 0, none⟩) WI → Calls Tryz.prog 22 #[.slice (some ⟨gw, 0, none⟩) m m, .string t] W fun x w' => x = .returned (.tuple #[.agg #[.int .u64 e0, .int .u64 e1, .int .u64 e2, .int .u64 e3, .int .u64 e4, .int .u64 e5, .int .u64 e6, .int .u64 e7], .bool true]) ∧ Below W.heap.size W w') := fun W h => by
   have := get_any (some ⟨gw, 0, none⟩) m WI t W (by rw [hM]; exact hwmax) h
   rw [hws, hM] at this
   exact this
  have HG8 : Hid (∀ W, Below w.heap.size w W → Calls Tryz.prog 22 #[.slice A l.length c, .string t] W fun x w' => x = .returned (.tuple #[.agg #[.int .u64 k0, .int .u64 k1, .int .u64 k2, .int .u64 k3, .int .u64 k4, .int .u64 k5, .int .u64 k6, .int .u64 k7], .bool kb]) ∧ Below W.heap.size W w') := fun W h => by
   have := get_any A c l t W hmax (HAT.out W h)
   rw [hgk] at this
   exact this
  have HEK := zh (eql_lit hk)
  have heq := NM.str_eq t t
  rw [zE rfl] at heq
  clear hgk hk hws hwe
  go_upto_region 8 with (go_at_call 22; refine (HG7.out w7 HLW7.out).mono ?_; rintro x w7x ⟨rfl, hbx⟩; have HBX := zh hbx; clear hbx)
  change Code.wp _ _ _ _ (w7x.alloc (.cells #[.int .u64 e0, .int .u64 e1, .int .u64 e2, .int .u64 e3, .int .u64 e4, .int .u64 e5, .int .u64 e6, .int .u64 e7] 41))
  have hbn : Below w7x.heap.size w7x (w7x.alloc (.cells #[.int .u64 e0, .int .u64 e1, .int .u64 e2, .int .u64 e3, .int .u64 e4, .int .u64 e5, .int .u64 e6, .int .u64 e7] 41)) := (zB _ _).alloc (zL _) _
  have rn := RowAt.new w7x 41 #[.int .u64 e0, .int .u64 e1, .int .u64 e2, .int .u64 e3, .int .u64 e4, .int .u64 e5, .int .u64 e6, .int .u64 e7]
  generalize w7x.alloc (.cells #[.int .u64 e0, .int .u64 e1, .int .u64 e2, .int .u64 e3, .int .u64 e4, .int .u64 e5, .int .u64 e6, .int .u64 e7] 41) = w8 at *
  have hbt := HBX.out.trans (hbn.mono HBX.out.size)
  have HB8 := zh (HB7.out.trans (hbt.mono HB7.out.size))
  have HV8 := zh (HV7.out.below hbt HV7.out.lt)
  have HA8 := zh (HA7.out.below hbt HA7.out.lt)
  have HC8 := zh (HC7.out.below hbt HC7.out.lt)
  have HD8 := zh (HD7.out.below hbt HD7.out.lt)
  have HLW8 := zh (HLW7.out.below hbt)
  have HX8 := zh rn
  have c8 : w8.cell? ⟨w.heap.size, 0, none⟩ = some (.string t) := HV8.out.cell 0
  have HR8 : Hid (w8.rangeAt w.heap.size 1 [.int .u64 e0, .int .u64 e1, .int .u64 e2, .int .u64 e3, .int .u64 e4, .int .u64 e5, .int .u64 e6, .int .u64 e7]) := rng_e HV8.out
  clear hbn rn hbt HBX c7 HR7 HB7 HV7 HA7 HC7 HD7 HLW7
  generalize w7x.heap.size = gHX at *
  go_upto_region 9 with (go_at_call 22; refine (HG8.out w8 HB8.out).mono ?_; rintro x w8x ⟨rfl, hbx⟩; have HBX := zh hbx; clear hbx)
  change Code.wp _ _ _ _ (w8x.alloc (.cells #[.int .u64 k0, .int .u64 k1, .int .u64 k2, .int .u64 k3, .int .u64 k4, .int .u64 k5, .int .u64 k6, .int .u64 k7] 41))
  have hbn : Below w8x.heap.size w8x (w8x.alloc (.cells #[.int .u64 k0, .int .u64 k1, .int .u64 k2, .int .u64 k3, .int .u64 k4, .int .u64 k5, .int .u64 k6, .int .u64 k7] 41)) := (zB _ _).alloc (zL _) _
  have rn := RowAt.new w8x 41 #[.int .u64 k0, .int .u64 k1, .int .u64 k2, .int .u64 k3, .int .u64 k4, .int .u64 k5, .int .u64 k6, .int .u64 k7]
  generalize w8x.alloc (.cells #[.int .u64 k0, .int .u64 k1, .int .u64 k2, .int .u64 k3, .int .u64 k4, .int .u64 k5, .int .u64 k6, .int .u64 k7] 41) = w9 at *
  have hbt := HBX.out.trans (hbn.mono HBX.out.size)
  have HB9 := zh (HB8.out.trans (hbt.mono HB8.out.size))
  have HV9 := zh (HV8.out.below hbt HV8.out.lt)
  have HA9 := zh (HA8.out.below hbt HA8.out.lt)
  have HC9 := zh (HC8.out.below hbt HC8.out.lt)
  have HD9 := zh (HD8.out.below hbt HD8.out.lt)
  have HX9 := zh (HX8.out.below hbt HX8.out.lt)
  have HLW9 := zh (HLW8.out.below hbt)
  have HK9 := zh rn
  have c9 : w9.cell? ⟨w.heap.size, 0, none⟩ = some (.string t) := HV9.out.cell 0
  have HR9 : Hid (w9.rangeAt w.heap.size 1 [.int .u64 e0, .int .u64 e1, .int .u64 e2, .int .u64 e3, .int .u64 e4, .int .u64 e5, .int .u64 e6, .int .u64 e7]) := rng_e HV9.out
  have HT89 := zh hbt
  have HZ89 := zh HBX.out.size
  clear hbn rn hbt HBX c8 HR8 HV9 HA9 HC9 HD9 HX9 HLW9
  generalize w8x.heap.size = gHK at *
  clear HG7 HG8
  go_wp2_with (first
   | (refine wpList_ldIn (by rfl) _ _ rfl w.heap.size 1 rfl _ _ HR9.out Tryz.underlying41 rfl (by kernel_rfl) ?_)
   | (refine wpList_stRow (by rfl) _ _ _ rfl gHK #[.int .u64 e0, .int .u64 e1, .int .u64 e2, .int .u64 e3, .int .u64 e4, .int .u64 e5, .int .u64 e6, .int .u64 e7] rfl rfl _ _ HK9.out (elv_info ⟨[e0, e1, e2, e3, e4, e5, e6, e7], he⟩) rfl (elv_one ⟨[e0, e1, e2, e3, e4, e5, e6, e7], he⟩) ?_; intro w10 hr10 he10; have HK10 := zh hr10; have hbt := HT89.out.trans (he10.below HZ89.out); have HB10 := zh (HB8.out.trans (hbt.mono HB8.out.size)); have HV10 := zh (HV8.out.below hbt HV8.out.lt); have HA10 := zh (HA8.out.below hbt HA8.out.lt); have HC10 := zh (HC8.out.below hbt HC8.out.lt); have HD10 := zh (HD8.out.below hbt HD8.out.lt); have HX10 := zh (HX8.out.below hbt HX8.out.lt); have HLW10 := zh (HLW8.out.below hbt); have c10 : w10.cell? ⟨w.heap.size, 0, none⟩ = some (.string t) := HV10.out.cell 0; have HR10 : Hid (w10.rangeAt w.heap.size 1 [.int .u64 e0, .int .u64 e1, .int .u64 e2, .int .u64 e3, .int .u64 e4, .int .u64 e5, .int .u64 e6, .int .u64 e7]) := rng_e HV10.out; clear hr10 he10 hbt HT89 HZ89 HB9 c9 HR9 HB8 HV8 HA8 HC8 HD8 HX8 HLW8 HK9)
   | (refine wpList_loadS (by rfl) _ _ rfl gHA rfl _ _ _ HA10.out Tryz.underlying41 rfl (by kernel_rfl) ?_)
   | (refine wpList_loadS (by rfl) _ _ rfl gHC rfl _ _ _ HC10.out Tryz.underlying41 rfl (by kernel_rfl) ?_)
   | (refine wpList_ldIn (by rfl) _ _ rfl w.heap.size 1 rfl _ _ HR10.out Tryz.underlying41 rfl (by kernel_rfl) ?_)
   | (go_at_call 26; refine (HQW.out w10 HB10.out).mono ?_; rintro x wA ⟨X, cX, rfl, hlX, hbt⟩; rw [hM]; have HLX := zh hlX; have HBA := zh (HB10.out.trans (hbt.mono HB10.out.size)); have HLWA := zh (HLW10.out.below hbt); have HVA := zh (HV10.out.below hbt HV10.out.lt); have HXA := zh (HX10.out.below hbt HX10.out.lt); have HKA := zh (HK10.out.below hbt HK10.out.lt); have HDA := zh (HD10.out.below hbt HD10.out.lt); clear hlX hbt)
   | (go_at_call 25; refine (qf_lit hM hwmax HLWA.out HLX.out).mono ?_; rintro x wB ⟨rfl, hbt⟩; have HBB := zh (HBA.out.trans (hbt.mono HBA.out.size)); have HVB := zh (HVA.out.below hbt HVA.out.lt); have HXB := zh (HXA.out.below hbt HXA.out.lt); have HKB := zh (HKA.out.below hbt HKA.out.lt); have HDB := zh (HDA.out.below hbt HDA.out.lt); have HRB : Hid (wB.rangeAt w.heap.size 1 [.int .u64 e0, .int .u64 e1, .int .u64 e2, .int .u64 e3, .int .u64 e4, .int .u64 e5, .int .u64 e6, .int .u64 e7]) := rng_e HVB.out; clear hbt)
   | (refine wpList_ldIn (by rfl) _ _ rfl w.heap.size 1 rfl _ _ HRB.out Tryz.underlying41 rfl (by kernel_rfl) ?_)
   | (refine wpList_loadS (by rfl) _ _ rfl gHD rfl _ _ _ HDB.out Tryz.underlying41 rfl (by kernel_rfl) ?_)
   | (refine wpList_loadS (by rfl) _ _ rfl gHX rfl _ _ _ HXB.out Tryz.underlying41 rfl (by kernel_rfl) ?_)
   | (refine wpList_loadS (by rfl) _ _ rfl gHK rfl _ _ _ HKB.out Tryz.underlying41 rfl (by kernel_rfl) ?_)
   | (go_at_call 9; refine (HALI.out wB HBB.out).mono ?_; rintro x wC ⟨rfl, hbt⟩; have HBC := zh (HBB.out.trans (hbt.mono HBB.out.size)); clear hbt))
  exact HQ.out _ _ ⟨rfl, HBC.out⟩
 ·have heK := eql_lit hk
  have HG7 : Hid (∀ W, Ls vlC W (some ⟨gw, 0, none⟩) WI → Calls Tryz.prog 22 #[.slice (some ⟨gw, 0, none⟩) m m, .string t] W fun x w' => x = .returned (.tuple #[.agg #[.int .u64 k0, .int .u64 k1, .int .u64 k2, .int .u64 k3, .int .u64 k4, .int .u64 k5, .int .u64 k6, .int .u64 k7], .bool kb]) ∧ Below W.heap.size W w') := fun W h => by
   have := get_any (some ⟨gw, 0, none⟩) m WI t W (by rw [hM]; exact hwmax) h
   rw [hwe hts, hgk, hM] at this
   exact this
  have HG8 : Hid (∀ W, Below w.heap.size w W → Calls Tryz.prog 22 #[.slice A l.length c, .string t] W fun x w' => x = .returned (.tuple #[.agg #[.int .u64 k0, .int .u64 k1, .int .u64 k2, .int .u64 k3, .int .u64 k4, .int .u64 k5, .int .u64 k6, .int .u64 k7], .bool kb]) ∧ Below W.heap.size W w') := fun W h => by
   have := get_any A c l t W hmax (HAT.out W h)
   rw [hgk] at this
   exact this
  have HEK := zh (eql_lit hk)
  have heq := NM.str_eq t s
  rw [zF hts] at heq
  clear hgk hk hws hwe hts
  go_upto_region 8 with (go_at_call 22; refine (HG7.out w7 HLW7.out).mono ?_; rintro x w7x ⟨rfl, hbx⟩; have HBX := zh hbx; clear hbx)
  change Code.wp _ _ _ _ (w7x.alloc (.cells #[.int .u64 k0, .int .u64 k1, .int .u64 k2, .int .u64 k3, .int .u64 k4, .int .u64 k5, .int .u64 k6, .int .u64 k7] 41))
  have hbn : Below w7x.heap.size w7x (w7x.alloc (.cells #[.int .u64 k0, .int .u64 k1, .int .u64 k2, .int .u64 k3, .int .u64 k4, .int .u64 k5, .int .u64 k6, .int .u64 k7] 41)) := (zB _ _).alloc (zL _) _
  have rn := RowAt.new w7x 41 #[.int .u64 k0, .int .u64 k1, .int .u64 k2, .int .u64 k3, .int .u64 k4, .int .u64 k5, .int .u64 k6, .int .u64 k7]
  generalize w7x.alloc (.cells #[.int .u64 k0, .int .u64 k1, .int .u64 k2, .int .u64 k3, .int .u64 k4, .int .u64 k5, .int .u64 k6, .int .u64 k7] 41) = w8 at *
  have hbt := HBX.out.trans (hbn.mono HBX.out.size)
  have HB8 := zh (HB7.out.trans (hbt.mono HB7.out.size))
  have HV8 := zh (HV7.out.below hbt HV7.out.lt)
  have HA8 := zh (HA7.out.below hbt HA7.out.lt)
  have HC8 := zh (HC7.out.below hbt HC7.out.lt)
  have HD8 := zh (HD7.out.below hbt HD7.out.lt)
  have HLW8 := zh (HLW7.out.below hbt)
  have HX8 := zh rn
  have c8 : w8.cell? ⟨w.heap.size, 0, none⟩ = some (.string s) := HV8.out.cell 0
  have HR8 : Hid (w8.rangeAt w.heap.size 1 [.int .u64 e0, .int .u64 e1, .int .u64 e2, .int .u64 e3, .int .u64 e4, .int .u64 e5, .int .u64 e6, .int .u64 e7]) := rng_e HV8.out
  clear hbn rn hbt HBX c7 HR7 HB7 HV7 HA7 HC7 HD7 HLW7
  generalize w7x.heap.size = gHX at *
  go_upto_region 9 with (go_at_call 22; refine (HG8.out w8 HB8.out).mono ?_; rintro x w8x ⟨rfl, hbx⟩; have HBX := zh hbx; clear hbx)
  change Code.wp _ _ _ _ (w8x.alloc (.cells #[.int .u64 k0, .int .u64 k1, .int .u64 k2, .int .u64 k3, .int .u64 k4, .int .u64 k5, .int .u64 k6, .int .u64 k7] 41))
  have hbn : Below w8x.heap.size w8x (w8x.alloc (.cells #[.int .u64 k0, .int .u64 k1, .int .u64 k2, .int .u64 k3, .int .u64 k4, .int .u64 k5, .int .u64 k6, .int .u64 k7] 41)) := (zB _ _).alloc (zL _) _
  have rn := RowAt.new w8x 41 #[.int .u64 k0, .int .u64 k1, .int .u64 k2, .int .u64 k3, .int .u64 k4, .int .u64 k5, .int .u64 k6, .int .u64 k7]
  generalize w8x.alloc (.cells #[.int .u64 k0, .int .u64 k1, .int .u64 k2, .int .u64 k3, .int .u64 k4, .int .u64 k5, .int .u64 k6, .int .u64 k7] 41) = w9 at *
  have hbt := HBX.out.trans (hbn.mono HBX.out.size)
  have HB9 := zh (HB8.out.trans (hbt.mono HB8.out.size))
  have HV9 := zh (HV8.out.below hbt HV8.out.lt)
  have HA9 := zh (HA8.out.below hbt HA8.out.lt)
  have HC9 := zh (HC8.out.below hbt HC8.out.lt)
  have HD9 := zh (HD8.out.below hbt HD8.out.lt)
  have HX9 := zh (HX8.out.below hbt HX8.out.lt)
  have HLW9 := zh (HLW8.out.below hbt)
  have HK9 := zh rn
  have c9 : w9.cell? ⟨w.heap.size, 0, none⟩ = some (.string s) := HV9.out.cell 0
  have HR9 : Hid (w9.rangeAt w.heap.size 1 [.int .u64 e0, .int .u64 e1, .int .u64 e2, .int .u64 e3, .int .u64 e4, .int .u64 e5, .int .u64 e6, .int .u64 e7]) := rng_e HV9.out
  clear hbn rn hbt HBX c8 HR8 HB8 HV8 HA8 HC8 HD8 HX8 HLW8
  generalize w8x.heap.size = gHK at *
  clear HG7 HG8
  go_wp2_with (first
   | (refine wpList_loadS (by rfl) _ _ rfl gHA rfl _ _ _ HA9.out Tryz.underlying41 rfl (by kernel_rfl) ?_)
   | (refine wpList_loadS (by rfl) _ _ rfl gHC rfl _ _ _ HC9.out Tryz.underlying41 rfl (by kernel_rfl) ?_)
   | (refine wpList_ldIn (by rfl) _ _ rfl w.heap.size 1 rfl _ _ HR9.out Tryz.underlying41 rfl (by kernel_rfl) ?_)
   | (go_at_call 26; refine (HQW.out w9 HB9.out).mono ?_; rintro x wA ⟨X, cX, rfl, hlX, hbt⟩; rw [hM]; have HLX := zh hlX; have HBA := zh (HB9.out.trans (hbt.mono HB9.out.size)); have HLWA := zh (HLW9.out.below hbt); have HVA := zh (HV9.out.below hbt HV9.out.lt); have HXA := zh (HX9.out.below hbt HX9.out.lt); have HKA := zh (HK9.out.below hbt HK9.out.lt); have HDA := zh (HD9.out.below hbt HD9.out.lt); clear hlX hbt)
   | (go_at_call 25; refine (qf_lit hM hwmax HLWA.out HLX.out).mono ?_; rintro x wB ⟨rfl, hbt⟩; have HBB := zh (HBA.out.trans (hbt.mono HBA.out.size)); have HVB := zh (HVA.out.below hbt HVA.out.lt); have HXB := zh (HXA.out.below hbt HXA.out.lt); have HKB := zh (HKA.out.below hbt HKA.out.lt); have HDB := zh (HDA.out.below hbt HDA.out.lt); have HRB : Hid (wB.rangeAt w.heap.size 1 [.int .u64 e0, .int .u64 e1, .int .u64 e2, .int .u64 e3, .int .u64 e4, .int .u64 e5, .int .u64 e6, .int .u64 e7]) := rng_e HVB.out; clear hbt)
   | (refine wpList_ldIn (by rfl) _ _ rfl w.heap.size 1 rfl _ _ HRB.out Tryz.underlying41 rfl (by kernel_rfl) ?_)
   | (refine wpList_loadS (by rfl) _ _ rfl gHD rfl _ _ _ HDB.out Tryz.underlying41 rfl (by kernel_rfl) ?_)
   | (refine wpList_loadS (by rfl) _ _ rfl gHX rfl _ _ _ HXB.out Tryz.underlying41 rfl (by kernel_rfl) ?_)
   | (refine wpList_loadS (by rfl) _ _ rfl gHK rfl _ _ _ HKB.out Tryz.underlying41 rfl (by kernel_rfl) ?_)
   | (go_at_call 9; refine (HALI.out wB HBB.out).mono ?_; rintro x wC ⟨rfl, hbt⟩; have HBC := zh (HBB.out.trans (hbt.mono HBB.out.size)); clear hbt))
  exact HQ.out _ _ ⟨rfl, HBC.out⟩
end
end Go.Proofs.YtnfndapgcpdcpaaGreatDoor
