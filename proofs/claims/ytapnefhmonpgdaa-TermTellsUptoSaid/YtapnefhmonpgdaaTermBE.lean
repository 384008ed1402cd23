/-
  TermTells: the text of a node, whether two are the same, and whether it might have been read, are as the document says. Conditions: at most 2^32 nodes and words each, a text below 2^47 bytes.
-/
import Derived.Test.YtapnefhmonpgdaaTermBD
import Derived.Test.YtapnefhmonpgdaaTrmH
set_option linter.unusedSimpArgs false
set_option linter.unusedVariables false
namespace Go.Proofs.Ytapnefhmonpgdaa
open Go.RowKit LX TR TM
set_option maxRecDepth 100000 in
set_option maxHeartbeats 6400000 in
theorem termTells_any (a b : Nd) (w : World) (ha : Nods w w.heap.size [a]) (hb : Nods w w.heap.size [b]) (hca : cnt [a] ≤ 4294967296) (hcb : cnt [b] ≤ 4294967296) (hta : (tx a).length ≤ 140737488355000) :
    Calls Try.prog 4 #[.agg (nv a), .agg (nv b)] w fun e w' => e = .returned (.bool true) ∧ Below w.heap.size w w' := by
  have hNA : ∀ W, Below w.heap.size w W → Nods W W.heap.size [a] := fun W h => (ha.below h).mono h.size
  have hNB : ∀ W, Below w.heap.size w W → Nods W W.heap.size [b] := fun W h => (hb.below h).mono h.size
  have HBIG : Hid (∀ A c W, Below w.heap.size w W → Sl W W.heap.size A (ncs [a, b]) → Calls Try.prog 12 #[.slice A 2 c] W fun e w' => e = .returned (.bool (decide (300 < cnt [a]) || decide (300 < cnt [b]))) ∧ Below W.heap.size W w') := fun A c W h hs => by
    have h1 := big10_any A c [a, b] (by simp) (fun z hz => by
      rcases List.mem_cons.1 hz with rfl | hz
      · exact hca
      · obtain rfl := List.mem_singleton.1 hz; exact hcb) W hs (fun z hz => by
      rcases List.mem_cons.1 hz with rfl | hz
      · exact hNA W h
      · obtain rfl := List.mem_singleton.1 hz; exact hNB W h)
    simpa using h1
  have HT1 : Hid (∀ W, Below w.heap.size w W → Calls Try.prog 13 #[.agg (nv a)] W fun e w' => e = .returned (.string (text10 a)) ∧ Below W.heap.size W w') := fun W h => text_any a W hca (by omega) (hNA W h)
  have HT2 : Hid (∀ W, Below w.heap.size w W → Calls Try.prog 14 #[.agg (nv a)] W fun e w' => e = .returned (.string (text10 a)) ∧ Below W.heap.size W w') := fun W h =>
    (text10_any 4294967296 (Nat.le_refl _) a hca hta W (hNA W h)).mono fun e w' ⟨⟨s, h1, h2⟩, h3⟩ => ⟨by rw [h1, LX.lst_inj (h2.trans (lst_text10 a).symm)], h3⟩
  have HS1 : Hid (∀ W, Below w.heap.size w W → Calls Try.prog 15 #[.agg (nv a), .agg (nv b)] W fun e w' => e = .returned (.bool (sm a b)) ∧ Below W.heap.size W w') := fun W h => same10_any 4294967296 (Nat.le_refl _) a b hca W (hNA W h) (hNB W h)
  have HS2 : Hid (∀ W, Below w.heap.size w W → Calls Try.prog 16 #[.agg (nv a), .agg (nv b)] W fun e w' => e = .returned (.bool (sm a b)) ∧ Below W.heap.size W w') := fun W h => refSame10_any 4294967296 (Nat.le_refl _) a b hca W (hNA W h) (hNB W h)
  have HS3 : Hid (∀ W, Below w.heap.size w W → Calls Try.prog 15 #[.agg (nv a), .agg (nv a)] W fun e w' => e = .returned (.bool true) ∧ Below W.heap.size W w') := fun W h => by
    have h1 := same10_any 4294967296 (Nat.le_refl _) a a hca W (hNA W h) (hNA W h)
    rw [sm_refl] at h1
    exact h1
  have HC1 : Hid (∀ W, Below w.heap.size w W → Calls Try.prog 17 #[.agg (nv a)] W fun e w' => e = .returned (.bool (fl a).c) ∧ Below W.heap.size W w') := fun W h => isConst_any 4294967296 (Nat.le_refl _) a hca W (hNA W h)
  have HC2 : Hid (∀ W, Below w.heap.size w W → Calls Try.prog 18 #[.agg (nv a)] W fun e w' => e = .returned (.bool (fl a).c) ∧ Below W.heap.size W w') := fun W h => (is10_any 4294967296 (Nat.le_refl _) a hca W (hNA W h)).1
  have HL1 : Hid (∀ W, Below w.heap.size w W → Calls Try.prog 19 #[.agg (nv a)] W fun e w' => e = .returned (.bool (fl a).l) ∧ Below W.heap.size W w') := fun W h => isLabel_any 4294967296 (Nat.le_refl _) a hca W (hNA W h)
  have HL2 : Hid (∀ W, Below w.heap.size w W → Calls Try.prog 20 #[.agg (nv a)] W fun e w' => e = .returned (.bool (fl a).l) ∧ Below W.heap.size W w') := fun W h => (is10_any 4294967296 (Nat.le_refl _) a hca W (hNA W h)).2
  have HR1 : Hid (∀ W, Below w.heap.size w W → Calls Try.prog 21 #[.agg (nv a)] W fun e w' => e = .returned (.bool (fl a).r) ∧ Below W.heap.size W w') := fun W h => isRow_any a hca W (hNA W h)
  have HR2 : Hid (∀ W, Below w.heap.size w W → Calls Try.prog 22 #[.agg (nv a)] W fun e w' => e = .returned (.bool (fl a).r) ∧ Below W.heap.size W w') := fun W h => isRow10_any a hca W (hNA W h)
  clear hNA hNB ha hb hca hcb hta
  generalize (decide (300 < cnt [a]) || decide (300 < cnt [b])) = big at *
  generalize text10 a = T at *
  generalize sm a b = q at *
  generalize (fl a).c = qc at *
  generalize (fl a).l = ql at *
  generalize (fl a).r = qr at *
  obtain ⟨ak, ap, as9, aA, ac, aw, aB, ad, ax⟩ := a
  obtain ⟨bk, bp, bs9, bA, bc, bw, bB, bd, bx⟩ := b
  unfold nv at HT1 HT2 HS1 HS2 HS3 HC1 HC2 HL1 HL2 HR1 HR2 ⊢
  simp only [Nd.k, Nd.p, Nd.s, Nd.A, Nd.c, Nd.ws, Nd.B, Nd.d, Nd.ks] at HT1 HT2 HS1 HS2 HS3 HC1 HC2 HL1 HL2 HR1 HR2 ⊢
  have hbw1 : Below w.heap.size w ((w.alloc (.cells #[.int .i64 ak, .int .i64 ap, .string as9, .slice aA aw.length ac, .slice aB ax.length ad] 32)).alloc (.cells #[.int .i64 bk, .int .i64 bp, .string bs9, .slice bA bw.length bc, .slice bB bx.length bd] 32)) := ((Below.refl _ _).alloc (Nat.le_refl _) _).alloc (by simp) _
  have hra := (RowAt.new w 32 #[.int .i64 ak, .int .i64 ap, .string as9, .slice aA aw.length ac, .slice aB ax.length ad]).alloc (.cells #[.int .i64 bk, .int .i64 bp, .string bs9, .slice bA bw.length bc, .slice bB bx.length bd] 32)
  have hrb := RowAt.new (w.alloc (.cells #[.int .i64 ak, .int .i64 ap, .string as9, .slice aA aw.length ac, .slice aB ax.length ad] 32)) 32 #[.int .i64 bk, .int .i64 bp, .string bs9, .slice bA bw.length bc, .slice bB bx.length bd]
  rw [show (w.alloc (.cells #[.int .i64 ak, .int .i64 ap, .string as9, .slice aA aw.length ac, .slice aB ax.length ad] 32)).heap.size = w.heap.size + 1 by simp] at hrb
  obtain ⟨a0, a1, a2, a3, a4, _, _, _, _, _⟩ := row5 hra
  obtain ⟨b0, b1, b2, b3, b4, _, _, _, _, _⟩ := row5 hrb
  have HRA := Lib.hid hra
  have HRB := Lib.hid hrb
  have HW1 := Lib.hid hbw1
  clear hra hrb hbw1
  go_enter Try.func4, Try.ntmps4
  go_upto_region 1 with fail
  generalize ((w.alloc (.cells #[.int .i64 ak, .int .i64 ap, .string as9, .slice aA aw.length ac, .slice aB ax.length ad] 32)).alloc (.cells #[.int .i64 bk, .int .i64 bp, .string bs9, .slice bA bw.length bc, .slice bB bx.length bd] 32)) = w1 at *
  cases big
  case' true =>
    go_wp2_with (refine wpList_nodes2 (by rfl) _ _ rfl (.mk ak ap as9 aA ac aw aB ad ax) (.mk bk bp bs9 bA bc bw bB bd bx) rfl rfl ?_; intro w2 hsl hb2)
    have HG2 := Lib.hid (HBIG.out _ 2 w2 (HW1.out.trans (hb2.mono HW1.out.size)) hsl)
    have HRA2 := Lib.hid (HRA.out.below hb2 HRA.out.lt)
    have HRB2 := Lib.hid (HRB.out.below hb2 HRB.out.lt)
    have HB2 := Lib.hid (HW1.out.trans (hb2.mono HW1.out.size))
    clear hsl hb2
    go_wp2_with fail
    refine HG2.out.mono ?_
    rintro e w3 ⟨rfl, hb⟩
    have HB3 := Lib.hid (HB2.out.trans (hb.mono HB2.out.size))
    clear hb
    go_wp2_with fail
    refine (alive10_any _).mono ?_
    rintro e w4 ⟨rfl, hb⟩
    have HB4 := Lib.hid (HB3.out.trans (hb.mono HB3.out.size))
    clear hb
    go_wp2_with fail
    go_ret
    exact ⟨rfl, HB4.out⟩
  case' false =>
    go_wp2_with (refine wpList_nodes2 (by rfl) _ _ rfl (.mk ak ap as9 aA ac aw aB ad ax) (.mk bk bp bs9 bA bc bw bB bd bx) rfl rfl ?_; intro w2 hsl hb2)
    have HG2 := Lib.hid (HBIG.out _ 2 w2 (HW1.out.trans (hb2.mono HW1.out.size)) hsl)
    have HRA2 := Lib.hid (HRA.out.below hb2 HRA.out.lt)
    have HRB2 := Lib.hid (HRB.out.below hb2 HRB.out.lt)
    have HB2 := Lib.hid (HW1.out.trans (hb2.mono HW1.out.size))
    clear hsl hb2
    go_wp2_with fail
    refine HG2.out.mono ?_
    rintro e w3 ⟨rfl, hb⟩
    have HB3 := Lib.hid (HB2.out.trans (hb.mono HB2.out.size))
    have HRA3 := Lib.hid (HRA2.out.below hb HRA2.out.lt)
    have HRB3 := Lib.hid (HRB2.out.below hb HRB2.out.lt)
    clear hb
    go_upto_region 3 with fail
    obtain ⟨S, hSe⟩ : ∃ S : World → Prop, S = fun w' => Below w.heap.size w w' ∧ RowAt w' w.heap.size 32 #[.int .i64 ak, .int .i64 ap, .string as9, .slice aA aw.length ac, .slice aB ax.length ad] ∧ RowAt w' (w.heap.size + 1) 32 #[.int .i64 bk, .int .i64 bp, .string bs9, .slice bA bw.length bc, .slice bB bx.length bd] := ⟨_, rfl⟩
    have keepS : ∀ wa wb, S wa → Below wa.heap.size wa wb → S wb := fun wa wb h hb => by
      rw [hSe] at h ⊢
      exact ⟨h.1.trans (hb.mono h.1.size), h.2.1.below hb h.2.1.lt, h.2.2.below hb h.2.2.lt⟩
    have HSB : Hid (∀ W, S W → Below w.heap.size w W) := fun W h => by
      rw [hSe] at h
      exact h.1
    have CA0 : ∀ W, S W → W.cell? ⟨w.heap.size, 0, none⟩ = some (.int .i64 ak) := fun W h => by
      rw [hSe] at h
      exact (RowAt.cell h.2.1 0).trans rfl
    have CA1 : ∀ W, S W → W.cell? ⟨w.heap.size, 1, none⟩ = some (.int .i64 ap) := fun W h => by
      rw [hSe] at h
      exact (RowAt.cell h.2.1 1).trans rfl
    have CA2 : ∀ W, S W → W.cell? ⟨w.heap.size, 2, none⟩ = some (.string as9) := fun W h => by
      rw [hSe] at h
      exact (RowAt.cell h.2.1 2).trans rfl
    have CA3 : ∀ W, S W → W.cell? ⟨w.heap.size, 3, none⟩ = some (.slice aA aw.length ac) := fun W h => by
      rw [hSe] at h
      exact (RowAt.cell h.2.1 3).trans rfl
    have CA4 : ∀ W, S W → W.cell? ⟨w.heap.size, 4, none⟩ = some (.slice aB ax.length ad) := fun W h => by
      rw [hSe] at h
      exact (RowAt.cell h.2.1 4).trans rfl
    have CB0 : ∀ W, S W → W.cell? ⟨w.heap.size + 1, 0, none⟩ = some (.int .i64 bk) := fun W h => by
      rw [hSe] at h
      exact (RowAt.cell h.2.2 0).trans rfl
    have CB1 : ∀ W, S W → W.cell? ⟨w.heap.size + 1, 1, none⟩ = some (.int .i64 bp) := fun W h => by
      rw [hSe] at h
      exact (RowAt.cell h.2.2 1).trans rfl
    have CB2 : ∀ W, S W → W.cell? ⟨w.heap.size + 1, 2, none⟩ = some (.string bs9) := fun W h => by
      rw [hSe] at h
      exact (RowAt.cell h.2.2 2).trans rfl
    have CB3 : ∀ W, S W → W.cell? ⟨w.heap.size + 1, 3, none⟩ = some (.slice bA bw.length bc) := fun W h => by
      rw [hSe] at h
      exact (RowAt.cell h.2.2 3).trans rfl
    have CB4 : ∀ W, S W → W.cell? ⟨w.heap.size + 1, 4, none⟩ = some (.slice bB bx.length bd) := fun W h => by
      rw [hSe] at h
      exact (RowAt.cell h.2.2 4).trans rfl
    have HS : Hid (S w3.drew) := by
      show S w3.drew
      rw [hSe]
      exact ⟨HB3.out.drew, HRA3.out.below (Below.refl _ _).drew HRA3.out.lt, HRB3.out.below (Below.refl _ _).drew HRB3.out.lt⟩
    refine wp_region_ord S [(0, true), (2, true), (1, false), (3, false), (4, true), (5, true), (6, true), (7, true), (9, true), (10, true), (8, false), (11, false), (12, true), (13, true), (14, true), (15, true), (16, true), (17, false), (18, true), (19, true)] (by kernel_rfl) (by kernel_rfl) rfl (by kernel_rfl) HS.out ?_
    iterate 2
      (refine wpOrd_step (o := ?_) ?_ ?_; rotate_left 1; (simp only [List.getElem?_toArray, List.getElem?_cons_succ, List.getElem?_cons_zero]; with_reducible rfl))
      (first
          | (refine wpOrd_skip (by rfl) ?_)
          | (refine wpOrd_take (v := ?_) (by rfl) ?_ ?_; rotate_left 1; (intro wx hSx; have hc_0 := CA0 wx hSx; have hc_1 := CA1 wx hSx; have hc_2 := CA2 wx hSx; have hc_3 := CA3 wx hSx; have hc_4 := CA4 wx hSx; have hc_5 := CB0 wx hSx; have hc_6 := CB1 wx hSx; have hc_7 := CB2 wx hSx; have hc_8 := CB3 wx hSx; have hc_9 := CB4 wx hSx; go_simp; try with_reducible rfl)))
      (try simp only [Act.put, List.setIfInBounds_toArray, List.set_cons_zero, List.set_cons_succ])
    (refine wpOrd_solo (o := ?_) ?_ ?_; rotate_left 1; (simp only [List.getElem?_toArray, List.getElem?_cons_succ, List.getElem?_cons_zero]; with_reducible rfl))
    intro K hK
    go_simp
    go_at_call 13
    refine (HT1.out _ (HSB.out _ HS.out)).mono ?_
    rintro e w3 ⟨rfl, hb⟩
    have hS := keepS _ _ HS.out hb
    clear HS
    have HS := Lib.hid hS; clear hS hb
    refine hK.out _ _ HS.out ?_
    clear hK K
    (try simp only [Act.put, List.setIfInBounds_toArray, List.set_cons_zero, List.set_cons_succ])
    (refine wpOrd_solo (o := ?_) ?_ ?_; rotate_left 1; (simp only [List.getElem?_toArray, List.getElem?_cons_succ, List.getElem?_cons_zero]; with_reducible rfl))
    intro K hK
    go_simp
    go_at_call 14
    refine (HT2.out _ (HSB.out _ HS.out)).mono ?_
    rintro e w4 ⟨rfl, hb⟩
    have hS := keepS _ _ HS.out hb
    clear HS
    have HS := Lib.hid hS; clear hS hb
    refine hK.out _ _ HS.out ?_
    clear hK K
    (try simp only [Act.put, List.setIfInBounds_toArray, List.set_cons_zero, List.set_cons_succ])
    iterate 6
      (refine wpOrd_step (o := ?_) ?_ ?_; rotate_left 1; (simp only [List.getElem?_toArray, List.getElem?_cons_succ, List.getElem?_cons_zero]; with_reducible rfl))
      (first
          | (refine wpOrd_skip (by rfl) ?_)
          | (refine wpOrd_take (v := ?_) (by rfl) ?_ ?_; rotate_left 1; (intro wx hSx; have hc_0 := CA0 wx hSx; have hc_1 := CA1 wx hSx; have hc_2 := CA2 wx hSx; have hc_3 := CA3 wx hSx; have hc_4 := CA4 wx hSx; have hc_5 := CB0 wx hSx; have hc_6 := CB1 wx hSx; have hc_7 := CB2 wx hSx; have hc_8 := CB3 wx hSx; have hc_9 := CB4 wx hSx; go_simp; try with_reducible rfl)))
      (try simp only [Act.put, List.setIfInBounds_toArray, List.set_cons_zero, List.set_cons_succ])
    (refine wpOrd_solo (o := ?_) ?_ ?_; rotate_left 1; (simp only [List.getElem?_toArray, List.getElem?_cons_succ, List.getElem?_cons_zero]; with_reducible rfl))
    intro K hK
    go_simp
    go_at_call 15
    refine (HS1.out _ (HSB.out _ HS.out)).mono ?_
    rintro e w5 ⟨rfl, hb⟩
    have hS := keepS _ _ HS.out hb
    clear HS
    have HS := Lib.hid hS; clear hS hb
    refine hK.out _ _ HS.out ?_
    clear hK K
    (try simp only [Act.put, List.setIfInBounds_toArray, List.set_cons_zero, List.set_cons_succ])
    (refine wpOrd_solo (o := ?_) ?_ ?_; rotate_left 1; (simp only [List.getElem?_toArray, List.getElem?_cons_succ, List.getElem?_cons_zero]; with_reducible rfl))
    intro K hK
    go_simp
    go_at_call 16
    refine (HS2.out _ (HSB.out _ HS.out)).mono ?_
    rintro e w6 ⟨rfl, hb⟩
    have hS := keepS _ _ HS.out hb
    clear HS
    have HS := Lib.hid hS; clear hS hb
    refine hK.out _ _ HS.out ?_
    clear hK K
    (try simp only [Act.put, List.setIfInBounds_toArray, List.set_cons_zero, List.set_cons_succ])
    iterate 5
      (refine wpOrd_step (o := ?_) ?_ ?_; rotate_left 1; (simp only [List.getElem?_toArray, List.getElem?_cons_succ, List.getElem?_cons_zero]; with_reducible rfl))
      (first
          | (refine wpOrd_skip (by rfl) ?_)
          | (refine wpOrd_take (v := ?_) (by rfl) ?_ ?_; rotate_left 1; (intro wx hSx; have hc_0 := CA0 wx hSx; have hc_1 := CA1 wx hSx; have hc_2 := CA2 wx hSx; have hc_3 := CA3 wx hSx; have hc_4 := CA4 wx hSx; have hc_5 := CB0 wx hSx; have hc_6 := CB1 wx hSx; have hc_7 := CB2 wx hSx; have hc_8 := CB3 wx hSx; have hc_9 := CB4 wx hSx; go_simp; try with_reducible rfl)))
      (try simp only [Act.put, List.setIfInBounds_toArray, List.set_cons_zero, List.set_cons_succ])
    (refine wpOrd_solo (o := ?_) ?_ ?_; rotate_left 1; (simp only [List.getElem?_toArray, List.getElem?_cons_succ, List.getElem?_cons_zero]; with_reducible rfl))
    intro K hK
    go_simp
    go_at_call 15
    refine (HS3.out _ (HSB.out _ HS.out)).mono ?_
    rintro e w7 ⟨rfl, hb⟩
    have hS := keepS _ _ HS.out hb
    clear HS
    have HS := Lib.hid hS; clear hS hb
    refine hK.out _ _ HS.out ?_
    clear hK K
    (try simp only [Act.put, List.setIfInBounds_toArray, List.set_cons_zero, List.set_cons_succ])
    iterate 2
      (refine wpOrd_step (o := ?_) ?_ ?_; rotate_left 1; (simp only [List.getElem?_toArray, List.getElem?_cons_succ, List.getElem?_cons_zero]; with_reducible rfl))
      (first
          | (refine wpOrd_skip (by rfl) ?_)
          | (refine wpOrd_take (v := ?_) (by rfl) ?_ ?_; rotate_left 1; (intro wx hSx; have hc_0 := CA0 wx hSx; have hc_1 := CA1 wx hSx; have hc_2 := CA2 wx hSx; have hc_3 := CA3 wx hSx; have hc_4 := CA4 wx hSx; have hc_5 := CB0 wx hSx; have hc_6 := CB1 wx hSx; have hc_7 := CB2 wx hSx; have hc_8 := CB3 wx hSx; have hc_9 := CB4 wx hSx; go_simp; try with_reducible rfl)))
      (try simp only [Act.put, List.setIfInBounds_toArray, List.set_cons_zero, List.set_cons_succ])
    refine wpOrd_done ?_
    go_upto_region 5 with fail
    have hS := keepS _ _ HS.out ((Below.refl _ _).drew)
    clear HS
    have HS := Lib.hid hS; clear hS
    refine wp_region_ord S [(0, true), (2, true), (1, false), (3, false), (4, true), (5, true), (6, true), (8, true), (7, false), (9, false), (10, true), (11, true), (12, true), (13, true), (15, true), (14, false), (16, false), (17, true), (18, true), (19, true), (20, false), (21, true), (22, true)] (by kernel_rfl) (by kernel_rfl) rfl (by kernel_rfl) HS.out ?_
    iterate 2
      (refine wpOrd_step (o := ?_) ?_ ?_; rotate_left 1; (simp only [List.getElem?_toArray, List.getElem?_cons_succ, List.getElem?_cons_zero]; with_reducible rfl))
      (first
          | (refine wpOrd_skip (by rfl) ?_)
          | (refine wpOrd_take (v := ?_) (by rfl) ?_ ?_; rotate_left 1; (intro wx hSx; have hc_0 := CA0 wx hSx; have hc_1 := CA1 wx hSx; have hc_2 := CA2 wx hSx; have hc_3 := CA3 wx hSx; have hc_4 := CA4 wx hSx; have hc_5 := CB0 wx hSx; have hc_6 := CB1 wx hSx; have hc_7 := CB2 wx hSx; have hc_8 := CB3 wx hSx; have hc_9 := CB4 wx hSx; go_simp; try with_reducible rfl)))
      (try simp only [Act.put, List.setIfInBounds_toArray, List.set_cons_zero, List.set_cons_succ])
    (refine wpOrd_solo (o := ?_) ?_ ?_; rotate_left 1; (simp only [List.getElem?_toArray, List.getElem?_cons_succ, List.getElem?_cons_zero]; with_reducible rfl))
    intro K hK
    go_simp
    go_at_call 17
    refine (HC1.out _ (HSB.out _ HS.out)).mono ?_
    rintro e x1 ⟨rfl, hb⟩
    have hS := keepS _ _ HS.out hb
    clear HS
    have HS := Lib.hid hS; clear hS hb
    refine hK.out _ _ HS.out ?_
    clear hK K
    (try simp only [Act.put, List.setIfInBounds_toArray, List.set_cons_zero, List.set_cons_succ])
    (refine wpOrd_solo (o := ?_) ?_ ?_; rotate_left 1; (simp only [List.getElem?_toArray, List.getElem?_cons_succ, List.getElem?_cons_zero]; with_reducible rfl))
    intro K hK
    go_simp
    go_at_call 18
    refine (HC2.out _ (HSB.out _ HS.out)).mono ?_
    rintro e x2 ⟨rfl, hb⟩
    have hS := keepS _ _ HS.out hb
    clear HS
    have HS := Lib.hid hS; clear hS hb
    refine hK.out _ _ HS.out ?_
    clear hK K
    (try simp only [Act.put, List.setIfInBounds_toArray, List.set_cons_zero, List.set_cons_succ])
    iterate 4
      (refine wpOrd_step (o := ?_) ?_ ?_; rotate_left 1; (simp only [List.getElem?_toArray, List.getElem?_cons_succ, List.getElem?_cons_zero]; with_reducible rfl))
      (first
          | (refine wpOrd_skip (by rfl) ?_)
          | (refine wpOrd_take (v := ?_) (by rfl) ?_ ?_; rotate_left 1; (intro wx hSx; have hc_0 := CA0 wx hSx; have hc_1 := CA1 wx hSx; have hc_2 := CA2 wx hSx; have hc_3 := CA3 wx hSx; have hc_4 := CA4 wx hSx; have hc_5 := CB0 wx hSx; have hc_6 := CB1 wx hSx; have hc_7 := CB2 wx hSx; have hc_8 := CB3 wx hSx; have hc_9 := CB4 wx hSx; go_simp; try with_reducible rfl)))
      (try simp only [Act.put, List.setIfInBounds_toArray, List.set_cons_zero, List.set_cons_succ])
    (refine wpOrd_solo (o := ?_) ?_ ?_; rotate_left 1; (simp only [List.getElem?_toArray, List.getElem?_cons_succ, List.getElem?_cons_zero]; with_reducible rfl))
    intro K hK
    go_simp
    go_at_call 19
    refine (HL1.out _ (HSB.out _ HS.out)).mono ?_
    rintro e x3 ⟨rfl, hb⟩
    have hS := keepS _ _ HS.out hb
    clear HS
    have HS := Lib.hid hS; clear hS hb
    refine hK.out _ _ HS.out ?_
    clear hK K
    (try simp only [Act.put, List.setIfInBounds_toArray, List.set_cons_zero, List.set_cons_succ])
    (refine wpOrd_solo (o := ?_) ?_ ?_; rotate_left 1; (simp only [List.getElem?_toArray, List.getElem?_cons_succ, List.getElem?_cons_zero]; with_reducible rfl))
    intro K hK
    go_simp
    go_at_call 20
    refine (HL2.out _ (HSB.out _ HS.out)).mono ?_
    rintro e x4 ⟨rfl, hb⟩
    have hS := keepS _ _ HS.out hb
    clear HS
    have HS := Lib.hid hS; clear hS hb
    refine hK.out _ _ HS.out ?_
    clear hK K
    (try simp only [Act.put, List.setIfInBounds_toArray, List.set_cons_zero, List.set_cons_succ])
    iterate 5
      (refine wpOrd_step (o := ?_) ?_ ?_; rotate_left 1; (simp only [List.getElem?_toArray, List.getElem?_cons_succ, List.getElem?_cons_zero]; with_reducible rfl))
      (first
          | (refine wpOrd_skip (by rfl) ?_)
          | (refine wpOrd_take (v := ?_) (by rfl) ?_ ?_; rotate_left 1; (intro wx hSx; have hc_0 := CA0 wx hSx; have hc_1 := CA1 wx hSx; have hc_2 := CA2 wx hSx; have hc_3 := CA3 wx hSx; have hc_4 := CA4 wx hSx; have hc_5 := CB0 wx hSx; have hc_6 := CB1 wx hSx; have hc_7 := CB2 wx hSx; have hc_8 := CB3 wx hSx; have hc_9 := CB4 wx hSx; go_simp; try with_reducible rfl)))
      (try simp only [Act.put, List.setIfInBounds_toArray, List.set_cons_zero, List.set_cons_succ])
    (refine wpOrd_solo (o := ?_) ?_ ?_; rotate_left 1; (simp only [List.getElem?_toArray, List.getElem?_cons_succ, List.getElem?_cons_zero]; with_reducible rfl))
    intro K hK
    go_simp
    go_at_call 21
    refine (HR1.out _ (HSB.out _ HS.out)).mono ?_
    rintro e x5 ⟨rfl, hb⟩
    have hS := keepS _ _ HS.out hb
    clear HS
    have HS := Lib.hid hS; clear hS hb
    refine hK.out _ _ HS.out ?_
    clear hK K
    (try simp only [Act.put, List.setIfInBounds_toArray, List.set_cons_zero, List.set_cons_succ])
    (refine wpOrd_solo (o := ?_) ?_ ?_; rotate_left 1; (simp only [List.getElem?_toArray, List.getElem?_cons_succ, List.getElem?_cons_zero]; with_reducible rfl))
    intro K hK
    go_simp
    go_at_call 22
    refine (HR2.out _ (HSB.out _ HS.out)).mono ?_
    rintro e x6 ⟨rfl, hb⟩
    have hS := keepS _ _ HS.out hb
    clear HS
    have HS := Lib.hid hS; clear hS hb
    refine hK.out _ _ HS.out ?_
    clear hK K
    (try simp only [Act.put, List.setIfInBounds_toArray, List.set_cons_zero, List.set_cons_succ])
    iterate 3
      (refine wpOrd_step (o := ?_) ?_ ?_; rotate_left 1; (simp only [List.getElem?_toArray, List.getElem?_cons_succ, List.getElem?_cons_zero]; with_reducible rfl))
      (first
          | (refine wpOrd_skip (by rfl) ?_)
          | (refine wpOrd_take (v := ?_) (by rfl) ?_ ?_; rotate_left 1; (intro wx hSx; have hc_0 := CA0 wx hSx; have hc_1 := CA1 wx hSx; have hc_2 := CA2 wx hSx; have hc_3 := CA3 wx hSx; have hc_4 := CA4 wx hSx; have hc_5 := CB0 wx hSx; have hc_6 := CB1 wx hSx; have hc_7 := CB2 wx hSx; have hc_8 := CB3 wx hSx; have hc_9 := CB4 wx hSx; go_simp; try with_reducible rfl)))
      (try simp only [Act.put, List.setIfInBounds_toArray, List.set_cons_zero, List.set_cons_succ])
    (refine wpOrd_solo (o := ?_) ?_ ?_; rotate_left 1; (simp only [List.getElem?_toArray, List.getElem?_cons_succ, List.getElem?_cons_zero]; with_reducible rfl))
    intro K hK
    go_simp
    go_at_call 8
    refine (alive10_any _).mono ?_
    rintro e x7 ⟨rfl, hb⟩
    have hS := keepS _ _ HS.out hb
    clear HS
    have HS := Lib.hid hS; clear hS hb
    refine hK.out _ _ HS.out ?_
    clear hK K
    (try simp only [Act.put, List.setIfInBounds_toArray, List.set_cons_zero, List.set_cons_succ])
    iterate 2
      (refine wpOrd_step (o := ?_) ?_ ?_; rotate_left 1; (simp only [List.getElem?_toArray, List.getElem?_cons_succ, List.getElem?_cons_zero]; with_reducible rfl))
      (first
          | (refine wpOrd_skip (by rfl) ?_)
          | (refine wpOrd_take (v := ?_) (by rfl) ?_ ?_; rotate_left 1; (intro wx hSx; have hc_0 := CA0 wx hSx; have hc_1 := CA1 wx hSx; have hc_2 := CA2 wx hSx; have hc_3 := CA3 wx hSx; have hc_4 := CA4 wx hSx; have hc_5 := CB0 wx hSx; have hc_6 := CB1 wx hSx; have hc_7 := CB2 wx hSx; have hc_8 := CB3 wx hSx; have hc_9 := CB4 wx hSx; go_simp; try with_reducible rfl)))
      (try simp only [Act.put, List.setIfInBounds_toArray, List.set_cons_zero, List.set_cons_succ])
    refine wpOrd_done ?_
    have hS9 := HSB.out _ HS.out
    have HB9 := Lib.hid hS9
    clear hS9
    go_wp2_with fail
    go_ret
    exact ⟨rfl, HB9.out⟩
end Go.Proofs.Ytapnefhmonpgdaa
